/- ExecLaw, ExecAll, ExecKeys, ArgItems, CodeFew, AppendArg, BookLend, StrsC, ArgPages, ArgMems, ArgStart, ArgTx -/
import Derived.Test.YtlckcfpdiigjiaaGreatDoorPk05
import Derived.Deep.Slices
import Derived.DataReads
import Derived.OpenShut
import Derived.SizedLaws
import Derived.Lib.LaidU8
import Derived.Test.YtlckcfpdiigjiaaGreatDoorPk01
import Derived.WalkSpells
import Derived.WalkLawsBesides
import Derived.Deep.QuietTactic
import Derived.BigQuiet
import Derived.Test.YtlckcfpdiigjiaaGreatDoorPk04
import Derived.Test.YtlckcfpdiigjiaaGreatDoorPk02
import Derived.Maps.AppendAt
namespace Go.Proofs.YtlckcfpdiigjiaaGreatDoor.Exc
open Sto (T St Rising)
open Go.Proofs.YtlckcfpdiigjiaaGreatDoor.Pw (M)
open Go.Proofs.YtlckcfpdiigjiaaGreatDoor.Txn (X)

/-! ### all accounts together -/
def isA (k : T) : Bool := decide (3 ≤ k.length) && (k.take 2 == [97, 58])
def itemA (p : T × T) : Int := if isA p.1 = true then ((told p.2).getD (0, 0)).1 else 0
def sumS (S : St) : Int := (S.map itemA).sum
/-- Each item that is an account's tells one. -/
def Good (S : St) : Prop := ∀ p ∈ S, isA p.1 = true → (told p.2).isSome = true
theorem isA_aK {n : T} (h : n ≠ []) : isA (aK n) = true := by
  cases n with
  | nil => exact absurd rfl h
  | cons a r => simp [isA, aK]
theorem isA_dK (n : T) : isA (dK n) = false := by unfold isA dK; cases n <;> simp
theorem isA_sK : isA sK = false := by decide
theorem name_ne {n : T} (h : Txn.nameB n = true) : n ≠ [] := fun e => by subst e; cases h
/-- What the item of a key adds. -/
def old (S : St) (k : T) : Int := match Sto.look S k with
  | some u => itemA (k, u)
  | none => 0
theorem sum_put {S : St} (hS : Rising S) (k v : T) : sumS (Tri.put S k v) = sumS S + itemA (k, v) - old S k := by
  unfold old
  induction S with
  | nil => simp [Tri.put, sumS, Sto.look]
  | cons a r ih =>
    obtain ⟨h1, h2⟩ := List.pairwise_cons.1 hS
    have ih := ih h2
    rw [Tri.put, Sto.look]
    by_cases e : a.1 < k
    · rw [if_pos e, if_neg (fun h => Sto.lt_ne e h.symm)]
      simp only [sumS, List.map_cons, List.sum_cons] at ih ⊢
      omega
    · rw [if_neg e]
      by_cases e2 : a.1 = k
      · rw [if_pos e2, if_pos e2.symm]
        simp only [sumS, List.map_cons, List.sum_cons]
        rw [show itemA (k, a.2) = itemA a by rw [← e2]]
        omega
      · rw [if_neg e2, if_neg (fun h => e2 h.symm)]
        have hl : k < a.1 := ((Sto.tri k a.1).resolve_right (fun h => h.elim (fun h => e2 h.symm) e))
        rw [show Sto.look r k = none from (Sto.look_none r k).2 fun hm => by
          obtain ⟨b, hb, rfl⟩ := List.mem_map.1 hm
          exact List.lt_irrefl _ (List.lt_trans hl (h1 b hb))]
        simp only [sumS, List.map_cons, List.sum_cons]
        omega
theorem sum_del {S : St} (hS : Rising S) (k : T) : sumS (Tri.del S k) = sumS S - old S k := by
  unfold old
  induction S with
  | nil => simp [Tri.del, sumS, Sto.look]
  | cons a r ih =>
    obtain ⟨h1, h2⟩ := List.pairwise_cons.1 hS
    have ih := ih h2
    rw [Tri.del, Sto.look]
    by_cases e2 : a.1 = k
    · rw [if_pos e2, if_pos e2.symm]
      simp only [sumS, List.map_cons, List.sum_cons]
      rw [show itemA (k, a.2) = itemA a by rw [← e2]]
      omega
    · rw [if_neg e2, if_neg (fun h => e2 h.symm)]
      simp only [sumS, List.map_cons, List.sum_cons] at ih ⊢
      omega
theorem item_val {n : T} (hn : n ≠ []) {a s : Int} (ha : wi a = true) (hs : wi s = true) : itemA (aK n, valS a s) = a := by
  unfold itemA
  rw [isA_aK hn, if_pos rfl, told_val ha hs]
  rfl
theorem item_dat (k v : T) : itemA (dK k, v) = 0 := by unfold itemA; rw [isA_dK]; rfl
theorem item_set (v : T) : itemA (sK, v) = 0 := by unfold itemA; rw [isA_sK]; rfl
theorem old_acc {S : St} {n : T} (h : (acc S n).2 = 0) : old S (aK n) = (acc S n).1.amt := by
  have hn := (acc_name h).2.1
  unfold acc at h ⊢
  unfold old
  rw [hn, if_neg (by decide)] at h ⊢
  cases hl : Sto.look S (aK n) with
  | none => rfl
  | some v =>
    rw [hl] at h
    dsimp only at h ⊢
    cases ht : told v with
    | none => rw [ht] at h; cases h
    | some p =>
      obtain ⟨a, s⟩ := p
      dsimp only
      unfold itemA
      rw [isA_aK (name_ne hn), if_pos rfl, ht]
      rfl
theorem old_dat (S : St) (k : T) : old S (dK k) = 0 := by
  unfold old
  cases Sto.look S (dK k) with
  | none => rfl
  | some u => exact item_dat k u
theorem old_set (S : St) : old S sK = 0 := by
  unfold old
  cases Sto.look S sK with
  | none => rfl
  | some u => exact item_set u
theorem old_other {S R : St} {k : T} (h : Sto.look R k = Sto.look S k) : old R k = old S k := by unfold old; rw [h]
theorem Good.put {S : St} (h : Good S) {k v : T} (hv : isA k = true → (told v).isSome = true) : Good (Tri.put S k v) := fun p hp hA => by
  rcases Tri.put_mem hp with h1 | rfl
  · exact h p h1 hA
  · exact hv hA
theorem Good.del {S : St} (h : Good S) (k : T) : Good (Tri.del S k) := fun p hp hA => h p (Tri.del_mem hp) hA
theorem Good.acc {S : St} (hS : Rising S) (h : Good S) {n : T} (hn : Txn.nameB n = true) : (acc S n).2 = 0 := by
  unfold Exc.acc
  rw [hn, if_neg (by decide)]
  cases hl : Sto.look S (aK n) with
  | none => rfl
  | some v =>
    have h1 := h _ ((Sto.look_mem hS _ _).1 hl) (isA_aK (name_ne hn))
    dsimp only at h1 ⊢
    cases ht : told v with
    | none => rw [ht] at h1; cases h1
    | some p => rfl
/-- What one transaction leaves as it was, and what it changes. -/
theorem Done.sum {S R : St} {x : X} (hS : Rising S) (hg : Good S) (h : Done S x R) : sumS R = sumS S ∧ Good R := by
  obtain ⟨h1, h2, h3⟩ := h.amt hS
  obtain ⟨-, hn, g1, g4⟩ := acc_name h.frm
  obtain ⟨g2, g3⟩ := wi_of g1
  obtain ⟨-, -, -, -, f5⟩ := Txn.fine_of h.fine
  have hk := h.kind
  have hp := h.put
  have of_ := old_acc h.frm
  have htold : ∀ {a : Int}, wi a = true → (told (valS a (x.seq + 1))).isSome = true := fun ha => by rw [told_val ha h3]; rfl
  unfold kindP at hk hp h1 h2
  have hm : most = 1099511627776 := rfl
  rcases Txn.kind_of f5 with ⟨k1, q1, q2, q3, q4, -⟩ | ⟨k1, -⟩ | ⟨k1, -⟩ | ⟨k1, -⟩
  · rw [if_pos k1] at hk hp h1 h2
    by_cases c1 : (Exc.acc S x.frm).1.amt < x.amt
    · rw [if_pos c1] at hk; cases hk
    rw [if_neg c1] at hk hp h1 h2
    by_cases c2 : x.dst = x.frm
    · rw [if_pos c2] at hp h2
      dsimp only at hp h2
      rw [hp]
      refine ⟨?_, hg.put fun _ => htold h2⟩
      rw [sum_put hS, item_val (name_ne hn) h2 h3, of_]; omega
    rw [if_neg c2] at hk hp h1 h2
    by_cases c3 : most < (Exc.acc S x.dst).1.amt + x.amt
    · rw [if_pos c3] at hk; cases hk
    rw [if_neg c3] at hk hp h1 h2
    dsimp only at hp h1 h2
    have ht := h.dst k1
    obtain ⟨-, tn, t1, t4⟩ := acc_name ht
    obtain ⟨t2, t3⟩ := wi_of t1
    have hw : wi ((Exc.acc S x.dst).1.amt + x.amt) = true := by simp only [wi, Bool.and_eq_true, decide_eq_true_eq]; omega
    have ho : old (Tri.put S (aK x.dst) (valS ((Exc.acc S x.dst).1.amt + x.amt) (Exc.acc S x.dst).1.seq)) (aK x.frm) = old S (aK x.frm) := old_other (by rw [Tri.look_put _ _ _ _ hS, if_neg (fun e => c2 (aK_inj e).symm)])
    rw [hp]
    refine ⟨?_, (hg.put fun _ => by rw [told_val hw t4]; rfl).put fun _ => htold h2⟩
    rw [sum_put h1, item_val (name_ne hn) h2 h3, ho, of_, sum_put hS, item_val (name_ne tn) hw t4, old_acc ht]
    omega
  · rw [if_neg (by omega), if_pos k1] at hp h1 h2
    dsimp only at hp h1 h2
    have ho : old (Tri.put S (dK x.key) x.val) (aK x.frm) = old S (aK x.frm) := old_other (by rw [Tri.look_put _ _ _ _ hS, if_neg (fun e => aK_dK _ _ e)])
    rw [hp]
    refine ⟨?_, (hg.put fun e => by rw [isA_dK] at e; cases e).put fun _ => htold h2⟩
    rw [sum_put h1, item_val (name_ne hn) h2 h3, ho, of_, sum_put hS, item_dat, old_dat]
    omega
  · rw [if_neg (by omega), if_neg (by omega), if_pos k1] at hp h1 h2
    dsimp only at hp h1 h2
    have ho : old (Tri.del S (dK x.key)) (aK x.frm) = old S (aK x.frm) := old_other (by rw [Tri.look_del hS, if_neg (fun e => aK_dK _ _ e)])
    rw [hp]
    refine ⟨?_, (hg.del _).put fun _ => htold h2⟩
    rw [sum_put h1, item_val (name_ne hn) h2 h3, ho, of_, sum_del hS, old_dat]
    omega
  · rw [if_neg (by omega), if_neg (by omega), if_neg (by omega)] at hk hp h1 h2
    by_cases c1 : x.frm ≠ root
    · rw [if_pos c1] at hk; cases hk
    rw [if_neg c1] at hp h1 h2
    dsimp only at hp h1 h2
    have ho : old (Tri.put S sK (Pw.digL x.mem)) (aK x.frm) = old S (aK x.frm) := old_other (by rw [Tri.look_put _ _ _ _ hS, if_neg (fun e => aK_sK _ e)])
    rw [hp]
    refine ⟨?_, (hg.put fun e => by rw [isA_sK] at e; cases e).put fun _ => htold h2⟩
    rw [sum_put h1, item_val (name_ne hn) h2 h3, ho, of_, sum_put hS, item_set, old_set]
    omega

/-! ### done once -/
theorem Done.again {S R : St} {x : X} (hS : Rising S) (h : Done S x R) : doP R x = ([], 160) := by
  obtain ⟨a, ha⟩ := h.from_ hS
  obtain ⟨h1, h2, h3⟩ := h.amt hS
  have hd : x.kind = 1 → (acc R x.dst).2 = 0 := fun k1 => by
    by_cases e : x.dst = x.frm
    · rw [e, ha]
    · have hp := h.put
      have hk := h.kind
      have ht := h.dst k1
      obtain ⟨-, tn, t1, t4⟩ := acc_name ht
      obtain ⟨t2, t3⟩ := wi_of t1
      obtain ⟨-, -, -, -, f5⟩ := Txn.fine_of h.fine
      unfold kindP at hp hk h1
      rw [if_pos k1] at hp hk h1
      by_cases c1 : (acc S x.frm).1.amt < x.amt
      · rw [if_pos c1] at hk; cases hk
      rw [if_neg c1, if_neg e] at hp hk h1
      by_cases c3 : most < (acc S x.dst).1.amt + x.amt
      · rw [if_pos c3] at hk; cases hk
      rw [if_neg c3] at hp h1
      dsimp only at hp h1
      have hm : most = 1099511627776 := rfl
      have hq : 1 ≤ x.amt := by
        rcases Txn.kind_of f5 with ⟨_, _, _, q, _⟩ | ⟨q, _⟩ | ⟨q, _⟩ | ⟨q, _⟩ <;> omega
      rw [hp, acc_other (S := Tri.put S (aK x.dst) (valS ((acc S x.dst).1.amt + x.amt) (acc S x.dst).1.seq)) x.dst (by rw [Tri.look_put _ _ _ _ h1, if_neg (fun e2 => e (aK_inj e2))]), acc_put hS tn (by simp only [wi, Bool.and_eq_true, decide_eq_true_eq]; omega) t4]
  unfold doP
  rw [h.fine, if_neg (by decide), if_neg (by
    rintro (e | ⟨e, e2⟩)
    · rw [ha] at e; exact e rfl
    · exact e2 (hd e)), if_pos (Or.inl (by rw [ha]; dsimp only; omega))]
end Go.Proofs.YtlckcfpdiigjiaaGreatDoor.Exc
namespace Go.Proofs.YtlckcfpdiigjiaaGreatDoor.Exc
open Sto (T St Rising)
open Go.Proofs.YtlckcfpdiigjiaaGreatDoor.Pw (M)
open Go.Proofs.YtlckcfpdiigjiaaGreatDoor.Txn (X)

/-- A receipt. -/
structure Rc where
  code : Int
  frm : T
  seq : Int
deriving DecidableEq
/-- A state, the receipts, the next members. -/
structure Al where
  st : St
  rc : List Rc
  nx : List M
/-- One more transaction. -/
def stepA (d : Al) (x : X) : Al := ⟨if (doP d.st x).2 = 0 then (doP d.st x).1 else d.st, d.rc ++ [⟨(doP d.st x).2, x.frm, x.seq⟩], if (doP d.st x).2 = 0 ∧ x.kind = 4 then x.mem else d.nx⟩
def runA (d : Al) (L : List X) : Al := L.foldl stepA d
def allC (L : List X) : Int := if 8 < L.length then 2 else if Txn.fines L = false then 150 else 0
theorem run_snoc (d : Al) (L : List X) (k : Nat) (hk : k < L.length) : runA d (L.take (k + 1)) = stepA (runA d (L.take k)) L[k] := by
  unfold runA
  rw [List.take_succ_eq_append_getElem hk, List.foldl_append]
  rfl
theorem run_rc (d : Al) (L : List X) : (runA d L).rc.length = d.rc.length + L.length := by
  induction L generalizing d with
  | nil => rfl
  | cons x L ih =>
    show (runA (stepA d x) L).rc.length = _
    rw [ih]
    simp [stepA]
    omega
theorem step_rise {d : Al} (h : Rising d.st) (x : X) : Rising (stepA d x).st := by
  unfold stepA
  dsimp only
  split
  · rename_i h0
    exact (do_done (Prod.ext rfl h0 : doP d.st x = ((doP d.st x).1, 0))).rise h
  · exact h
theorem run_rise {d : Al} (h : Rising d.st) (L : List X) : Rising (runA d L).st := by
  induction L generalizing d with
  | nil => exact h
  | cons x L ih => exact ih (step_rise h x)
/-- What ran on other receipts and members ahead. -/
theorem run_from (S : St) (R : List Rc) (N : List M) (L : List X) (hf : Txn.fines L = true) :
    (runA ⟨S, R, N⟩ L).st = (runA ⟨S, [], []⟩ L).st ∧ (runA ⟨S, R, N⟩ L).rc = R ++ (runA ⟨S, [], []⟩ L).rc ∧ (runA ⟨S, R, N⟩ L).nx = if (runA ⟨S, [], []⟩ L).nx = [] then N else (runA ⟨S, [], []⟩ L).nx := by
  have key : ∀ k, k ≤ L.length → (runA ⟨S, R, N⟩ (L.take k)).st = (runA ⟨S, [], []⟩ (L.take k)).st ∧ (runA ⟨S, R, N⟩ (L.take k)).rc = R ++ (runA ⟨S, [], []⟩ (L.take k)).rc ∧ (runA ⟨S, R, N⟩ (L.take k)).nx = if (runA ⟨S, [], []⟩ (L.take k)).nx = [] then N else (runA ⟨S, [], []⟩ (L.take k)).nx := by
    intro k
    induction k with
    | zero => intro _; simp [runA]
    | succ k ih =>
      intro hk
      obtain ⟨h1, h2, h3⟩ := ih (by omega)
      rw [run_snoc _ _ _ (by omega), run_snoc _ _ _ (by omega)]
      unfold stepA
      dsimp only
      rw [h1, h2, h3]
      refine ⟨rfl, by rw [List.append_assoc], ?_⟩
      split
      · rename_i q
        have hx : Txn.fine L[k] = true := List.all_eq_true.1 hf _ (List.getElem_mem (by omega))
        obtain ⟨-, -, -, -, h5⟩ := Txn.fine_of hx
        have hm : (L[k]).mem ≠ [] := by
          rcases Txn.kind_of h5 with ⟨a, _⟩ | ⟨a, _⟩ | ⟨a, _⟩ | ⟨a, p⟩
          · omega
          · omega
          · omega
          · intro e
            have := (Pw.okL_len p.2.2.2.2).1
            rw [e] at this
            simp at this
        rw [if_neg hm]
      · rfl
  have := key L.length (Nat.le_refl _)
  rwa [List.take_length] at this
theorem run_append (d : Al) (L K : List X) : runA d (L ++ K) = runA (runA d L) K := by unfold runA; rw [List.foldl_append]
/-- In two parts. -/
theorem run_parts (S : St) (L : List X) (k : Nat) (hf : Txn.fines L = true) :
    (runA ⟨S, [], []⟩ L).st = (runA ⟨(runA ⟨S, [], []⟩ (L.take k)).st, [], []⟩ (L.drop k)).st ∧
    (runA ⟨S, [], []⟩ L).rc = (runA ⟨S, [], []⟩ (L.take k)).rc ++ (runA ⟨(runA ⟨S, [], []⟩ (L.take k)).st, [], []⟩ (L.drop k)).rc ∧
    (runA ⟨S, [], []⟩ L).nx = if (runA ⟨(runA ⟨S, [], []⟩ (L.take k)).st, [], []⟩ (L.drop k)).nx = [] then (runA ⟨S, [], []⟩ (L.take k)).nx else (runA ⟨(runA ⟨S, [], []⟩ (L.take k)).st, [], []⟩ (L.drop k)).nx := by
  have e : runA ⟨S, [], []⟩ L = runA (runA ⟨S, [], []⟩ (L.take k)) (L.drop k) := by rw [← run_append, List.take_append_drop]
  rw [e]
  refine run_from _ _ _ _ ?_
  unfold Txn.fines at hf ⊢
  exact List.all_eq_true.2 fun x hx => List.all_eq_true.1 hf x (List.mem_of_mem_drop hx)
theorem run_mem (S : St) (L : List X) (hf : Txn.fines L = true) : (runA ⟨S, [], []⟩ L).nx.length ≤ 7 := by
  have key : ∀ k, k ≤ L.length → (runA ⟨S, [], []⟩ (L.take k)).nx.length ≤ 7 := by
    intro k
    induction k with
    | zero => intro _; simp [runA]
    | succ k ih =>
      intro hk
      have h1 := ih (by omega)
      rw [run_snoc _ _ _ (by omega)]
      unfold stepA
      dsimp only
      split
      · rename_i q
        have hx : Txn.fine L[k] = true := List.all_eq_true.1 hf _ (List.getElem_mem (by omega))
        obtain ⟨-, -, -, -, h5⟩ := Txn.fine_of hx
        rcases Txn.kind_of h5 with ⟨a, _⟩ | ⟨a, _⟩ | ⟨a, _⟩ | ⟨a, p⟩
        · omega
        · omega
        · omega
        · exact (Pw.okL_len p.2.2.2.2).2
      · exact h1
  have := key L.length (Nat.le_refl _)
  rwa [List.take_length] at this

/-! ### the beginning -/
def fitA (a : A) : Bool := Txn.nameB a.name && wi a.amt && wi a.seq
def genF : St → List A → St × Int
  | S, [] => (S, 0)
  | S, a :: r => if fitA a = false then ([], 1) else if (Sto.look S (aK a.name)).isSome = true then ([], 6) else genF (Tri.put S (aK a.name) (valS a.amt a.seq)) r
def genP (L : List A) (set : List M) : St × Int :=
  if 8 < L.length then ([], 2) else if (genF [] L).2 ≠ 0 then ([], (genF [] L).2) else if Pw.okL set = false then ([], 50) else (Tri.put (genF [] L).1 sK (Pw.digL set), 0)
theorem gen_good {S : St} (L : List A) (hS : Rising S) (hg : Good S) (h : (genF S L).2 = 0) : Rising (genF S L).1 ∧ Good (genF S L).1 ∧ (genF S L).1.length ≤ S.length + L.length := by
  induction L generalizing S with
  | nil => exact ⟨hS, hg, by simp [genF]⟩
  | cons a r ih =>
    rw [genF] at h ⊢
    split at h
    · cases h
    · rename_i h1
      split at h
      · cases h
      · rename_i h2
        rw [if_neg h1, if_neg h2]
        have hf : fitA a = true := by simpa using h1
        simp only [fitA, Bool.and_eq_true] at hf
        obtain ⟨g1, g2, g3⟩ := ih (Tri.put_rising hS _ _) (hg.put fun _ => by rw [told_val hf.1.2 hf.2]; rfl) h
        refine ⟨g1, g2, ?_⟩
        rw [Tri.put_len] at g3
        rw [List.length_cons]
        split at g3 <;> omega
theorem genP_good {L : List A} {set : List M} (h : (genP L set).2 = 0) : Rising (genP L set).1 ∧ Good (genP L set).1 ∧ (genP L set).1.length ≤ 9 := by
  unfold genP at h ⊢
  split at h
  · cases h
  · rename_i h1
    split at h
    · rename_i h2; exact absurd h h2
    · rename_i h2
      split at h
      · cases h
      · rename_i h3
        rw [if_neg h1, if_neg h2, if_neg h3]
        obtain ⟨g1, g2, g3⟩ := gen_good (S := []) L List.Pairwise.nil (fun p hp => by cases hp) (Decidable.not_not.1 h2)
        refine ⟨Tri.put_rising g1 _ _, g2.put fun e => (by cases e), ?_⟩
        dsimp only
        rw [Tri.put_len]
        simp at g3
        split <;> omega

/-! ### what is told then -/
theorem Done.look_other {S R : St} {x : X} (hS : Rising S) (h : Done S x R) {k : T} (h1 : k ≠ aK x.frm) (h2 : x.kind = 1 → k ≠ aK x.dst) (h3 : x.kind = 2 ∨ x.kind = 3 → k ≠ dK x.key) (h4 : x.kind = 4 → k ≠ sK) : Sto.look R k = Sto.look S k := by
  obtain ⟨r1, -, -⟩ := h.amt hS
  obtain ⟨-, -, -, -, f5⟩ := Txn.fine_of h.fine
  have hk := h.kind
  rw [h.put, Tri.look_put _ _ _ _ r1, if_neg h1]
  unfold kindP at hk ⊢
  rcases Txn.kind_of f5 with ⟨k1, -⟩ | ⟨k1, -⟩ | ⟨k1, -⟩ | ⟨k1, -⟩
  · rw [if_pos k1] at hk ⊢
    by_cases c1 : (Exc.acc S x.frm).1.amt < x.amt
    · rw [if_pos c1] at hk; cases hk
    rw [if_neg c1] at hk ⊢
    by_cases c2 : x.dst = x.frm
    · rw [if_pos c2]
    rw [if_neg c2] at hk ⊢
    by_cases c3 : most < (Exc.acc S x.dst).1.amt + x.amt
    · rw [if_pos c3] at hk; cases hk
    rw [if_neg c3]
    dsimp only
    rw [Tri.look_put _ _ _ _ hS, if_neg (h2 k1)]
  · rw [if_neg (by omega), if_pos k1]
    dsimp only
    rw [Tri.look_put _ _ _ _ hS, if_neg (h3 (Or.inl k1))]
  · rw [if_neg (by omega), if_neg (by omega), if_pos k1]
    dsimp only
    rw [Tri.look_del hS, if_neg (h3 (Or.inr k1))]
  · rw [if_neg (by omega), if_neg (by omega), if_neg (by omega)] at hk ⊢
    by_cases c1 : x.frm ≠ root
    · rw [if_pos c1] at hk; cases hk
    rw [if_neg c1]
    dsimp only
    rw [Tri.look_put _ _ _ _ hS, if_neg (h4 k1)]
theorem Done.acc_other {S R : St} {x : X} (hS : Rising S) (h : Done S x R) {n : T} (h1 : n ≠ x.frm) (h2 : n ≠ x.dst) : acc R n = acc S n :=
  Exc.acc_other n (h.look_other hS (fun e => h1 (aK_inj e)) (fun _ e => h2 (aK_inj e)) (fun _ e => aK_dK _ _ e) (fun _ e => aK_sK _ e))
end Go.Proofs.YtlckcfpdiigjiaaGreatDoor.Exc
namespace Go.Proofs.YtlckcfpdiigjiaaGreatDoor.Exc
open Sto (T St Rising)
open Go.Proofs.YtlckcfpdiigjiaaGreatDoor.Pw (M)
open Go.Proofs.YtlckcfpdiigjiaaGreatDoor.Txn (X)

theorem sz_le6 {n : Nat} (h : n ≤ 1099511627776) : Code.sz n ≤ 6 := by
  obtain ⟨-, h2⟩ := Code.sz_bounds n
  by_cases hk : Code.sz n ≤ 6
  · exact hk
  · exfalso
    have h3 := h2 (by omega)
    have h4 := Nat.pow_le_pow_right (n := 256) (by omega) (show 6 ≤ Code.sz n - 1 by omega)
    have e : (256 : Nat) ^ 6 = 281474976710656 := by decide
    omega
theorem valS_len {a s : Int} (ha : wi a = true) (hs : wi s = true) : 1 ≤ (valS a s).length ∧ (valS a s).length ≤ 14 := by
  obtain ⟨a1, a2⟩ := wi_of ha
  obtain ⟨s1, s2⟩ := wi_of hs
  have h1 := Code.numL_length a.toNat
  have h2 := Code.numL_length s.toNat
  have h3 := sz_le6 (n := a.toNat) (by omega)
  have h4 := sz_le6 (n := s.toNat) (by omega)
  unfold valS
  rw [List.length_append]
  omega
theorem keyed_aK {n : T} (h : Txn.nameB n = true) : Tri.keyed (aK n) = true := by
  simp only [Txn.nameB, Bool.and_eq_true, decide_eq_true_eq] at h
  unfold Tri.keyed aK
  rw [List.length_cons, List.length_cons, decide_eq_true (by omega), decide_eq_true (by omega)]
  rfl
theorem keyed_dK {n : T} (h : Txn.keyB n = true) : Tri.keyed (dK n) = true := by
  simp only [Txn.keyB, Bool.and_eq_true, decide_eq_true_eq] at h
  unfold Tri.keyed dK
  rw [List.length_cons, List.length_cons, decide_eq_true (by omega), decide_eq_true (by omega)]
  rfl
theorem keyed_sK : Tri.keyed sK = true := by decide
theorem putC_few {S : St} {k v : T} (hk : Tri.keyed k = true) (h1 : 1 ≤ v.length) (h2 : v.length ≤ 32) (hl : S.length < 1024) : Tri.putC S k v = 0 := Tri.putC_ok hk ⟨h1, h2, Or.inr hl⟩
theorem digL_len {L : List M} (h : Pw.okL L = true) : (Pw.digL L).length = 32 := by rw [Pw.digL_length, h]; rfl
/-- What At, Get tell of an account's key. -/
theorem getC_acc {S : St} {n : T} (h : Txn.nameB n = true) : Tri.getC S (aK n) = match Sto.look S (aK n) with | some v => (v, 0) | none => ([], 5) := by
  unfold Tri.getC
  rw [keyed_aK h, if_pos rfl]
  cases Sto.look S (aK n) <;> rfl
theorem getC_dat {S : St} (k : T) : dat S k = if Txn.keyB k = false then ([], 1) else ((Tri.getC S (dK k)).1, ((Tri.getC S (dK k)).2 : Int)) := by
  unfold dat
  cases hk : Txn.keyB k with
  | false => rfl
  | true =>
    rw [if_neg (by decide), if_neg (by decide)]
    unfold Tri.getC
    rw [keyed_dK hk, if_pos rfl]
    cases Sto.look S (dK k) <;> rfl
end Go.Proofs.YtlckcfpdiigjiaaGreatDoor.Exc
namespace Go.Proofs.YtlckcfpdiigjiaaGreatDoor
open Go.RowKit Go.ChangeShapes Go.WideShapes
open Sto (T St)

set_option maxRecDepth 100000 in
theorem cellsItem : Tryz.prog.cellsOf 68 = 2 := by kernel_rfl
set_option maxRecDepth 100000 in
theorem item_cells {H : Type} {enc : TypeId × Value → H} {W : World} {fuel : Nat} {cs : List Value} {x : DataW H × List MemPlace} (ht : DataW.trod enc Tryz.prog W 0 (fun _ => true) true fuel 68 cs = some x) :
    ∃ s : T × T, cs = itcl s := by
  obtain ⟨ys, n', _, hy, hcl, hyl, hfs⟩ := DataW.trod_struct Tryz.underlying68 ht
  rw [cellsItem] at hcl
  match cs, hcl, ys, hyl with
  | [v0, v1], _, [y0, y1], _ =>
    have g0 := hfs 0 _ rfl
    have g1 := hfs 1 _ rfl
    simp [cellsS] at g0 g1
    obtain ⟨s0, e0, _, _⟩ := DataW.trod_string Tryz.underlying9 g0
    obtain ⟨s1, e1, _, _⟩ := DataW.trod_string Tryz.underlying9 g1
    obtain rfl : v0 = .string s0 := by simpa using e0
    obtain rfl : v1 = .string s1 := by simpa using e1
    exact ⟨(s0.data.toList, s1.data.toList), by simp [itcl]⟩
end Go.Proofs.YtlckcfpdiigjiaaGreatDoor
namespace Go.Proofs.YtlckcfpdiigjiaaGreatDoor
open Go.RowKit

def Code.few (L : List (List UInt8)) (n e : Nat) : Bool := decide (L.length ≤ n) && L.all fun s => decide (s.length ≤ e)
theorem Code.take_snoc_eq {L M : List (List UInt8)} {k : Nat} (h1 : k < L.length) (h2 : k < M.length) : L.take (k + 1) = M.take (k + 1) ↔ L.take k = M.take k ∧ L[k] = M[k] := by
  rw [List.take_succ_eq_append_getElem h1, List.take_succ_eq_append_getElem h2]
  constructor
  · intro h
    have := List.append_inj' h rfl
    exact ⟨this.1, by simpa using this.2⟩
  · rintro ⟨a, b⟩
    rw [a, b]

end Go.Proofs.YtlckcfpdiigjiaaGreatDoor
namespace Go.Proofs.YtlckcfpdiigjiaaGreatDoor
open Go.RowKit
open Go.Proofs.YtlckcfpdiigjiaaGreatDoor.Pw (M)

theorem run_append_nothing_m (w : World) (v : Value) (n c B : Nat) (xs : List Value) (h : w.ownsRow B 71 2 v n xs) (ty : TypeId) : (Builtin.append_ #[23, 23] ty #[v, .slice none 0 c]).run Tryz.prog w = .ok v w := by
  rcases h.2 with ⟨rfl, rfl⟩ | ⟨g, cap, cur, rfl, hB, hh, hn, _⟩
  · simp [Builtin.append_, run_underlying Tryz.underlying23, Tryz.sizeOf71, Builtin.lenOf, Builtin.firstCells, Result.andThen]
  · simp [Builtin.append_, run_underlying Tryz.underlying23, Tryz.sizeOf71, Builtin.lenOf, Builtin.firstCells, Result.andThen, hn, storeCells]
theorem grown_none (w : World) (r : Option Nat) : w.grownBy w r := ⟨rfl, rfl, rfl, Nat.le_refl _, fun _ _ _ => rfl⟩
/-- The same as a step of a region that draws its order. -/
theorem step_append_run {P : Program} {ops : Array Oper} {o : Oper} {a : Act} {w w' : World} {K : Act → World → Prop} {Q : Exit → Act → World → Prop} {E : Prop} (hg : o.guard = none) (s x : Operand) (t : TypeId) (hop : o.op = Op.call { callee := Callee.builtin Builtin.append, args := #[s, x], argTypes := #[t, t] })
    (sv xv r : Value) (hs : a.eval s = sv) (hx : a.eval x = xv) (hrun : (Builtin.append_ #[t, t] o.type #[sv, xv]).run P w = .ok r w') (hK : K (a.put o.dst r) w') : if Region.wanted o (yielded ops a.tmps) = true then Oper.wp P o a w K Q else E := by
  have hw : Region.wanted o (yielded ops a.tmps) = true := by simp [Region.wanted, hg]
  rw [if_pos hw]
  unfold Oper.wp
  simp [execOp, hop, resolve, invoke, builtin, hs, hx, hrun, Result.andThen]
  exact hK
theorem append_mems {w : World} {v s : Value} {L : List M} {B n : Nat} {xs : List Value} (hv : Mems w v L) (hs : w.ownsRow B 71 2 s n xs) (hl : n + L.length ≤ 1000000) (hB : B ≤ w.heap.size) :
    ∃ v' w', (Builtin.append_ #[23, 23] 23 #[s, v]).run Tryz.prog w = .ok v' w' ∧ w'.ownsRow B 71 2 v' (n + L.length) (xs ++ mrows L) ∧ w.grownBy w' s.ownBlock ∧ (v'.ownBlock = s.ownBlock ∨ v'.ownBlock = some w.heap.size) := by
  obtain ⟨i0, hi, hz0, hz1, hz2⟩ := info_parts Tryz.infoMember
  obtain ⟨A, cap, rfl, hc⟩ := hv
  cases A with
  | none =>
    have h0 : L.length = 0 := by
      by_cases h : L.length = 0
      · exact h
      · obtain ⟨b, o, ha, _⟩ := hc (by omega)
        cases ha
    obtain rfl : L = [] := List.eq_nil_of_length_eq_zero h0
    exact ⟨s, w, run_append_nothing_m w s n cap B xs hs _, by simpa [mrows] using hs, grown_none _ _, Or.inl rfl⟩
  | some a =>
    obtain ⟨v', w', h1, h2, h3, _, h5⟩ := run_append_own_at (P := Tryz.prog) w B 23 23 71 i0 (.agg #[.string ⟨#[]⟩, .int .i64 0]) 2 24 Tryz.underlying23 hi hz0 hz1 hz2 rfl (by decide) s n xs hs a L.length cap (mrows L) (mrows_length L)
      (fun j u hu => by
        have hj : j < L.length * 2 := by
          have := (List.getElem?_eq_some_iff.1 hu).1
          rwa [mrows_length] at this
        obtain ⟨b, o, hb, _, hcell⟩ := hc (by omega)
        cases hb
        obtain ⟨i, r, hr, rfl⟩ : ∃ i r, r < 2 ∧ j = i * 2 + r := ⟨j / 2, j % 2, by omega, by omega⟩
        have hi' : i < L.length := by omega
        have e := mrows_at L i r hi' hr
        rw [hu] at e
        obtain ⟨h1, h2⟩ := hcell i hi'
        rw [Addr.add_mid]
        have hr2 : r = 0 ∨ r = 1 := by omega
        rcases hr2 with rfl | rfl
        · simp only [mcells, List.getElem?_cons_zero, Option.some.injEq] at e
          rw [e]; exact h1
        · simp only [mcells, List.getElem?_cons_succ, List.getElem?_cons_zero, Option.some.injEq] at e
          rw [e]; exact h2) (by
        intro u hu
        obtain ⟨m, _, hm⟩ := List.mem_flatMap.1 hu
        simp only [mcells, List.mem_cons, List.not_mem_nil, or_false] at hm
        rcases hm with rfl | rfl <;> rfl) (by unfold maxLen; omega) (by omega) hB
    exact ⟨v', w', h1, h2, h3, h5⟩
end Go.Proofs.YtlckcfpdiigjiaaGreatDoor
namespace Go.Proofs.YtlckcfpdiigjiaaGreatDoor
open Go.RowKit

def behind : List UInt8 := [98, 101, 104, 105, 110, 100]
/-- A list that is lent: its texts, and a mark behind their end. -/
def Lent (w : World) (B : Nat) (s : Value) (L : List (List UInt8)) : Prop :=
  ∃ g cap, s = .slice (some ⟨g, 0, none⟩) L.length cap ∧ Own w B (.slice (some ⟨g, 0, none⟩) (L.length + 1) cap) (L ++ [behind])
theorem Lent.below {w w' : World} {B : Nat} {s : Value} {L : List (List UInt8)} (h : Lent w B s L) (hb : Below w.heap.size w w') : Lent w' B s L := by
  obtain ⟨g, cap, rfl, h1⟩ := h
  exact ⟨g, cap, rfl, h1.below hb⟩
theorem Lent.cap {w : World} {B : Nat} {A : Option Addr} {n c : Nat} {L : List (List UInt8)} (h : Lent w B (.slice A n c) L) : ∃ g, A = some ⟨g, 0, none⟩ ∧ n = L.length ∧ L.length + 1 ≤ c ∧ c ≤ maxLen ∧ B ≤ g ∧ w.cell? ⟨g, L.length, none⟩ = some (.string ⟨behind.toArray⟩) := by
  obtain ⟨g, cap, hv, h1⟩ := h
  obtain ⟨rfl, rfl, rfl⟩ : A = some ⟨g, 0, none⟩ ∧ n = L.length ∧ c = cap := by simpa using hv
  have h2 := World.ownsRow.cells h1 (g := g) rfl L.length (.string ⟨behind.toArray⟩) (by simp [scells])
  rw [Addr.add_mid, Nat.zero_add] at h2
  rcases h1.2 with ⟨h', _⟩ | ⟨g', cap', cur, hv', hB, hh, hn, hcap, hsz, _⟩
  · simp at h'
  · obtain ⟨rfl, rfl⟩ : g = g' ∧ c = cap' := by simpa using hv'
    exact ⟨g, rfl, rfl, by simpa using hn, hcap, hB, h2⟩

/-- One text of a row of the call's own, set. -/
theorem Own.set {w : World} {B g n cap i : Nat} {L : List (List UInt8)} (h : Own w B (.slice (some ⟨g, 0, none⟩) n cap) L) (_hi : i < L.length) (x : List UInt8) :
    Own (w.setCell ⟨g, i, none⟩ (.string ⟨x.toArray⟩)) B (.slice (some ⟨g, 0, none⟩) n cap) (L.set i x) := by
  have hn : n = L.length := by
    obtain ⟨_, _, hv⟩ := own_form h
    simp at hv
    exact hv.2.1
  subst hn
  have := (World.ownsRow.stored h i (.string ⟨x.toArray⟩)).1
  unfold Own
  rw [List.length_set]
  simpa [scells, List.map_set] using this
end Go.Proofs.YtlckcfpdiigjiaaGreatDoor
namespace Go.Proofs.YtlckcfpdiigjiaaGreatDoor
open Go.RowKit Go.ChangeShapes Go.WideShapes

def StrsC (w : World) (v : Value) (L : List (List UInt8)) : Prop :=
  ∃ (A : Option Addr) (cap : Nat), v = .slice A L.length cap ∧ L.length ≤ cap ∧ ∀ i (h : i < L.length), ∃ a, A = some a ∧ w.cell? (a.add i) = some (.string ⟨L[i].toArray⟩)
theorem StrsC.below {w w' : World} {v : Value} {L : List (List UInt8)} (h : StrsC w v L) (hb : Below w.heap.size w w') : StrsC w' v L := by
  obtain ⟨A, cap, rfl, h1, hc⟩ := h
  refine ⟨A, cap, rfl, h1, fun i hi => ?_⟩
  obtain ⟨a, ha, hcell⟩ := hc i hi
  exact ⟨a, ha, (hb.cell (World.block_lt_of_cell? _ _ hcell)).trans hcell⟩
theorem StrsC.form {w : World} {v : Value} {L : List (List UInt8)} (h : StrsC w v L) : ∃ A cap, v = .slice A L.length cap ∧ L.length ≤ cap := by
  obtain ⟨A, cap, h1, h2, _⟩ := h
  exact ⟨A, cap, h1, h2⟩
theorem StrsC.nil (w : World) (A : Option Addr) (cap : Nat) : StrsC w (.slice A 0 cap) [] := ⟨A, cap, rfl, Nat.zero_le _, fun i h => absurd h (Nat.not_lt_zero i)⟩
/-- The first text. -/
theorem StrsC.head {w : World} {A : Option Addr} {n cap : Nat} {x : List UInt8} {L : List (List UInt8)} (h : StrsC w (.slice A n cap) (x :: L)) : ∃ a, A = some a ∧ w.cell? a = some (.string ⟨x.toArray⟩) ∧ n = L.length + 1 ∧ L.length + 1 ≤ cap := by
  obtain ⟨A', cap', hv, h1, hc⟩ := h
  obtain ⟨rfl, rfl, rfl⟩ : A = A' ∧ n = L.length + 1 ∧ cap = cap' := by simpa using hv
  obtain ⟨a, ha, hcell⟩ := hc 0 (by simp)
  exact ⟨a, ha, by simpa [Addr.add] using hcell, rfl, h1⟩
set_option maxRecDepth 100000 in
/-- What is behind it: 'l[1:]'. -/
theorem StrsC.tail {w : World} {A : Option Addr} {n cap : Nat} {x : List UInt8} {L : List (List UInt8)} (h : StrsC w (.slice A n cap) (x :: L)) :
    ∃ A' cap', (∀ W : World, (Instr.slice 154 (.slice A n cap) (some (.int .i64 1)) none none).run Tryz.prog W = .ok (.slice A' L.length cap') W) ∧ StrsC w (.slice A' L.length cap') L := by
  obtain ⟨A', cap', hv, h1, hc⟩ := h
  obtain ⟨rfl, rfl, rfl⟩ : A = A' ∧ n = L.length + 1 ∧ cap = cap' := by simpa using hv
  rw [List.length_cons] at h1
  obtain ⟨a, ha, -⟩ := hc 0 (by simp)
  subst ha
  have hn : L.length + 1 - 1 = L.length := by omega
  by_cases hc1 : cap = 1
  · subst hc1
    obtain rfl : L = [] := List.length_eq_zero_iff.1 (by omega)
    have hs : ∀ W : World, (sizeOf (Tryz.prog.elem 154)).run Tryz.prog W = .ok 1 W := fun W => by kernel_rfl
    refine ⟨some a, 0, fun W => ?_, StrsC.nil ..⟩
    rw [run_slice_l W 154 (some a) _ 1 Tryz.underlying154 .i64 1 (by omega) (by simp), hs]
    rfl
  · have hs : ∀ W : World, (sizeOf (Tryz.prog.elem 154)).run Tryz.prog W = .ok 1 W := fun W => by kernel_rfl
    refine ⟨some (a.add 1), cap - 1, fun W => ?_, some (a.add 1), cap - 1, rfl, by omega, fun i hi => ⟨_, rfl, ?_⟩⟩
    · rw [run_slice_l W 154 (some a) (L.length + 1) cap Tryz.underlying154 .i64 1 (by omega) (by omega), hs]
      simp [Result.andThen, sliced, hc1]
    · obtain ⟨a', ha', hcell⟩ := hc (i + 1) (by simpa using hi)
      obtain rfl : a = a' := by simpa using ha'
      rw [Addr.add_add, Nat.add_comm 1 i]
      simpa using hcell
/-- 'l[:k]'. -/
theorem StrsC.take {w : World} {A : Option Addr} {n cap : Nat} {L : List (List UInt8)} (h : StrsC w (.slice A n cap) L) (k : Nat) (hk : k ≤ L.length) :
    StrsC w (.slice A k cap) (L.take k) := by
  obtain ⟨A', cap', hv, h1, hc⟩ := h
  obtain ⟨rfl, rfl, rfl⟩ : A = A' ∧ n = L.length ∧ cap = cap' := by simpa using hv
  have e : (L.take k).length = k := by simp; omega
  refine ⟨A, cap, by rw [e], by omega, fun i hi => ?_⟩
  obtain ⟨a, ha, hcell⟩ := hc i (by omega)
  exact ⟨a, ha, by rw [hcell, List.getElem_take]⟩

end Go.Proofs.YtlckcfpdiigjiaaGreatDoor
namespace Go.Proofs.YtlckcfpdiigjiaaGreatDoor
open Go.RowKit Go.ChangeShapes Go.WideShapes
open Sto (T St)

theorem cell_slice_at {P : Program} {W : World} {r : Reach} {b0 : Nat} {t e : TypeId} {v : Value} (ht : P.underlying t = some (.slice e)) (h : Cell.okWide P W r b0 t v) : v = .slice none 0 0 ∨ ∃ b o len cap, v = .slice (some ⟨b, o, none⟩) len cap ∧ len ≤ cap := by
  simp only [Cell.okWide, ht, Cell.ok] at h
  cases v with
  | slice a len cap =>
    cases a with
    | none =>
      left
      cases len <;> cases cap <;> simp_all
    | some a =>
      right
      obtain ⟨h1, _, h2⟩ := h
      obtain ⟨b, o, sp⟩ := a
      have h3 : sp = none := h2.2.1
      subst h3
      exact ⟨b, o, len, cap, rfl, h1⟩
  | _ => simp_all
set_option maxRecDepth 100000 in
theorem itemsI_trod {H : Type} {enc : TypeId × Value → H} {W : World} {r : Reach} {b0 fuel : Nat} {v : Value} {z : DataW H × List MemPlace}
    (hv : Cell.okWide Tryz.prog W r b0 24 v) (hf : DataW.trod enc Tryz.prog W 0 (fun _ => true) true fuel 24 [v] = some z) :
    ∃ L, ItIn W v L ∧ L.length ≤ maxLen := by
  rcases cell_slice_at Tryz.underlying24 hv with rfl | ⟨b, o, len, cap, rfl, hlc⟩
  · exact ⟨[], ⟨none, 0, rfl, Nat.le_refl _, fun _ => Or.inl ⟨rfl, rfl⟩, fun h => absurd h (by simp)⟩, by simp⟩
  rcases Go.Deep.open_slice Tryz.underlying24 hf with ⟨hcs, _⟩ | ⟨x, l, c, m, n, D, Pl, hcs, _, hl, hm, hmm, hx, hel⟩
  · simp at hcs
  · obtain ⟨hx0, rfl, rfl⟩ : (⟨b, o, none⟩ : Addr) = x ∧ len = l ∧ cap = c := by simpa using hcs
    subst hx0
    simp only [if_true] at hmm
    subst hmm
    rw [cellsItem] at hel
    have key : ∀ i, i < len → ∃ q : T × T, W.cell? ⟨b, o + i * 2 + 0, none⟩ = some (.string ⟨q.1.toArray⟩) ∧ W.cell? ⟨b, o + i * 2 + 1, none⟩ = some (.string ⟨q.2.toArray⟩) := fun i hi => by
      obtain ⟨cs', hc, ht⟩ := hel i (by omega)
      obtain ⟨_, _, hat⟩ := World.cells?_some hc
      obtain ⟨q, rfl⟩ := item_cells ht
      have q0 := hat 0 (by omega)
      have q1 := hat 1 (by omega)
      rw [Addr.add_mid, Addr.add_mid] at q0 q1
      exact ⟨q, by simpa [itcl] using q0, by simpa [itcl] using q1⟩
    obtain ⟨f, hf⟩ := Go.Deep.choose_lt (fun i hi => key i hi)
    have hlen : ((List.range len).map f).length = len := by simp
    refine ⟨(List.range len).map f, ⟨some ⟨b, o, none⟩, _, by rw [hlen], by rw [hlen]; exact hlc, fun _ => Or.inr ⟨b, o, rfl⟩, fun h0 => ?_⟩, by rw [hlen]; omega⟩
    rw [hlen] at h0
    obtain ⟨q0, _⟩ := hf 0 h0
    refine ⟨b, o, rfl, block_lt_of_cell q0, fun i hi j u hu => ?_⟩
    rw [hlen] at hi
    obtain ⟨q0, q1⟩ := hf i hi
    have e : ((List.range len).map f)[i]'(by rw [hlen]; exact hi) = f i := by simp
    rw [e] at hu
    match j, hu with
    | 0, hu => simp [itcl] at hu; subst hu; exact q0
    | 1, hu => simp [itcl] at hu; subst hu; exact q1
    | j + 2, hu => simp [itcl] at hu
/-- The cells of a struct that came in. -/
theorem okWide_cells {P : Program} {W : World} {r : Reach} {b0 : Nat} {t : TypeId} {fs : Array Field} {cs : Array Value} {ts : List TypeId} (ht : P.underlying t = some (.struct fs)) (hts : P.cellTypes P.depth t = some ts) (h : Value.okWide P W r b0 t (.agg cs)) :
    ∀ i v, cs[i]? = some v → ∃ u, ts[i % ts.length]? = some u ∧ Cell.okWide P W r b0 u v := by
  simp only [Value.okWide, ht] at h
  obtain ⟨cs', h1, _, ts', h3, _, h4⟩ := h
  obtain rfl : cs = cs' := by simpa using h1
  rw [hts] at h3
  obtain rfl : ts = ts' := Option.some.inj h3
  exact h4
end Go.Proofs.YtlckcfpdiigjiaaGreatDoor
namespace Go.Proofs.YtlckcfpdiigjiaaGreatDoor
open Go.RowKit Go.ChangeShapes Go.WideShapes
open Go.Proofs.YtlckcfpdiigjiaaGreatDoor.Pw (M)

set_option maxRecDepth 100000 in
theorem cellsIn : Tryz.prog.cellsOf 3 = 1 := by kernel_rfl
set_option maxRecDepth 100000 in
theorem cellsMl : Tryz.prog.cellsOf 23 = 1 := by kernel_rfl
set_option maxRecDepth 100000 in
theorem mems_trod {H : Type} {enc : TypeId × Value → H} {W : World} {fuel : Nat} {v : Value} {z : DataW H × List MemPlace}
    (hf : DataW.trod enc Tryz.prog W 0 (fun _ => true) true fuel 23 [v] = some z)
    (hz : ∀ n ∈ z.1.weights Tryz.prog 23, n ≤ reachBytes) :
    ∃ L, Mems W v L ∧ L.length * 24 ≤ reachBytes ∧ ∀ m ∈ L, OkMem m := by
  rcases Go.Deep.open_slice Tryz.underlying23 hf with ⟨hcs, _⟩ | ⟨x, l, c, m, n, D, Pl, hcs, _, hl, hm, hmm, hx, hel⟩
  · obtain rfl : v = .slice none 0 0 := by simpa using hcs
    exact ⟨[], Mems.nil W, by simp, fun n hn => by simp at hn⟩
  · obtain rfl : v = .slice (some x) l c := by simpa using hcs
    simp only [if_true] at hmm
    subst hmm
    rw [cellsM] at hel hx
    have hd : z.1 = _ := congrArg Prod.fst hx
    have hw : ∀ i, i < l → ∀ k ∈ (D i).weights Tryz.prog 71, k ≤ reachBytes := fun i hi k hk => by
      refine hz k ?_
      rw [hd]
      simp only [DataW.weights, Tryz.underlying23, List.mem_cons, List.mem_append]
      exact Or.inr (Or.inl (weights_of_mem (List.mem_map.2 ⟨i, List.mem_range.2 hi, rfl⟩) k hk))
    have hlen24 : l * 24 ≤ reachBytes := by
      have h1 := hz ((((List.range l).map D).length + ((List.range (m - l)).map fun j => D (l + j)).length) * Tryz.prog.bytesOf 71) (by
        rw [hd]; simp [DataW.weights, Tryz.underlying23])
      rw [show Tryz.prog.bytesOf 71 = 24 from by kernel_rfl] at h1
      simp only [List.length_map, List.length_range] at h1
      omega
    have key : ∀ i, i < l → ∃ q : M, OkMem q ∧ W.cell? ((x.add (i * 2)).add 0) = some (.string ⟨q.name.toArray⟩) ∧ W.cell? ((x.add (i * 2)).add 1) = some (.int .i64 q.power) := fun i hi => by
      obtain ⟨cs', hc, ht⟩ := hel i (by omega)
      obtain ⟨ys, n', _, hy, hcl, hyl, hfs⟩ := DataW.trod_struct Tryz.underlying71 ht
      rw [cellsM] at hcl
      obtain ⟨_, _, hat⟩ := World.cells?_some hc
      match cs', hcl, ys, hyl with
      | [v0, v1], _, [y0, y1], _ =>
        have g0 := hfs 0 _ rfl
        have g1 := hfs 1 _ rfl
        simp [cellsIn, cellsS] at g0 g1
        obtain ⟨s0, e0, x0, z0⟩ := DataW.trod_string Tryz.underlying9 g0
        obtain ⟨t, e1, x1, wf⟩ := DataW.trod_int Tryz.underlying3 g1
        obtain rfl : v0 = .string s0 := by simpa using e0
        obtain rfl : v1 = .int .i64 t := by simpa using e1
        have hD : D i = .agg [.lit (.string s0.data.toList), .lit (.int .i64 t)] := by
          have := (Prod.mk.inj hy).1
          simpa [x0, x1] using this
        have hwi := hw i hi
        rw [hD] at hwi
        simp [DataW.weights, DataW.weightsEach, Tryz.underlying71] at hwi
        refine ⟨⟨s0.data.toList, t⟩, ⟨wf, ?_⟩, ?_, ?_⟩
        · have : reachBytes = 140737488351232 := rfl
          simp at hwi ⊢; omega
        · simpa using hat 0 (by omega)
        · simpa using hat 1 (by omega)
    obtain ⟨f, hf⟩ := Go.Deep.choose_lt (fun i hi => key i hi)
    have hlen : ((List.range l).map f).length = l := by simp
    refine ⟨(List.range l).map f, ⟨some x, _, by rw [hlen], fun h0 => ?_⟩, by rw [hlen]; exact hlen24, ?_⟩
    · rw [hlen] at h0
      obtain ⟨b, o, sp⟩ := x
      obtain ⟨_, q0, _⟩ := hf 0 h0
      have hcell' : W.cell? ⟨b, o, sp⟩ = some (.string ⟨(f 0).name.toArray⟩) := by simpa [Addr.add] using q0
      obtain rfl := cell_spot hcell'
      refine ⟨b, o, rfl, block_lt_of_cell hcell', fun i hi => ?_⟩
      rw [hlen] at hi
      obtain ⟨_, q0, q1⟩ := hf i hi
      rw [Addr.add_mid, Addr.add_mid] at q0 q1
      simpa using ⟨q0, q1⟩
    · intro n hn
      obtain ⟨i, hi, rfl⟩ := List.mem_map.1 hn
      exact (hf i (List.mem_range.1 hi)).1
end Go.Proofs.YtlckcfpdiigjiaaGreatDoor
namespace Go.Proofs.YtlckcfpdiigjiaaGreatDoor
open Go.RowKit Go.ChangeShapes Go.WideShapes
open Sto (T St)
open Go.Proofs.YtlckcfpdiigjiaaGreatDoor.Pw (M)
open Go.Proofs.YtlckcfpdiigjiaaGreatDoor.Exc (A)

def accl (a : A) : List Value := [.string ⟨a.name.toArray⟩, .int .i64 a.amt, .int .i64 a.seq]
theorem accl_length (a : A) : (accl a).length = 3 := rfl
def AccIn (w : World) (v : Value) (L : List A) : Prop := RowsIn 3 accl w v L
set_option maxRecDepth 100000 in
theorem cellsAcc : Tryz.prog.cellsOf 55 = 3 := by kernel_rfl
set_option maxRecDepth 100000 in
theorem cellsStA : Tryz.prog.cellsOf 22 = 1 := by kernel_rfl
set_option maxRecDepth 100000 in
theorem cellsStM : Tryz.prog.cellsOf 23 = 1 := by kernel_rfl
set_option maxRecDepth 100000 in
theorem cellsStI : Tryz.prog.cellsOf 24 = 1 := by kernel_rfl
set_option maxRecDepth 100000 in
theorem cellsSt : Tryz.prog.cellsOf 26 = 3 := by kernel_rfl
set_option maxRecDepth 100000 in
theorem typesSt : Tryz.prog.cellTypes Tryz.prog.depth 26 = some [22, 23, 24] := by kernel_rfl
set_option maxRecDepth 100000 in
theorem acc_cells {H : Type} {enc : TypeId × Value → H} {W : World} {fuel : Nat} {cs : List Value} {x : DataW H × List MemPlace} (ht : DataW.trod enc Tryz.prog W 0 (fun _ => true) true fuel 55 cs = some x) :
    ∃ a : A, cs = accl a ∧ (Lit.int .i64 a.amt).wf = true ∧ (Lit.int .i64 a.seq).wf = true := by
  obtain ⟨ys, n', _, hy, hcl, hyl, hfs⟩ := DataW.trod_struct Tryz.underlying55 ht
  rw [cellsAcc] at hcl
  match cs, hcl, ys, hyl with
  | [v0, v1, v2], _, [y0, y1, y2], _ =>
    have g0 := hfs 0 _ rfl
    have g1 := hfs 1 _ rfl
    have g2 := hfs 2 _ rfl
    simp [cellsS, cellsIn] at g0 g1 g2
    obtain ⟨s0, e0, _, _⟩ := DataW.trod_string Tryz.underlying9 g0
    obtain ⟨t1, e1, _, w1⟩ := DataW.trod_int Tryz.underlying3 g1
    obtain ⟨t2, e2, _, w2⟩ := DataW.trod_int Tryz.underlying3 g2
    obtain rfl : v0 = .string s0 := by simpa using e0
    obtain rfl : v1 = .int .i64 t1 := by simpa using e1
    obtain rfl : v2 = .int .i64 t2 := by simpa using e2
    exact ⟨⟨s0.data.toList, t1, t2⟩, by simp [accl], w1, w2⟩
set_option maxRecDepth 100000 in
theorem accsI_trod {H : Type} {enc : TypeId × Value → H} {W : World} {r : Reach} {b0 fuel : Nat} {v : Value} {z : DataW H × List MemPlace}
    (hv : Cell.okWide Tryz.prog W r b0 22 v) (hf : DataW.trod enc Tryz.prog W 0 (fun _ => true) true fuel 22 [v] = some z) :
    ∃ L, AccIn W v L ∧ L.length ≤ maxLen ∧ ∀ a ∈ L, (Lit.int .i64 a.amt).wf = true ∧ (Lit.int .i64 a.seq).wf = true := by
  rcases cell_slice_at Tryz.underlying22 hv with rfl | ⟨b, o, len, cap, rfl, hlc⟩
  · exact ⟨[], ⟨none, 0, rfl, Nat.le_refl _, fun _ => Or.inl ⟨rfl, rfl⟩, fun h => absurd h (by simp)⟩, by simp, fun a ha => by cases ha⟩
  rcases Go.Deep.open_slice Tryz.underlying22 hf with ⟨hcs, _⟩ | ⟨x, l, c, m, n, D, Pl, hcs, _, hl, hm, hmm, hx, hel⟩
  · simp at hcs
  · obtain ⟨hx0, rfl, rfl⟩ : (⟨b, o, none⟩ : Addr) = x ∧ len = l ∧ cap = c := by simpa using hcs
    subst hx0
    simp only [if_true] at hmm
    subst hmm
    rw [cellsAcc] at hel
    have key : ∀ i, i < len → ∃ a : A, ((Lit.int .i64 a.amt).wf = true ∧ (Lit.int .i64 a.seq).wf = true) ∧ ∀ j u, (accl a)[j]? = some u → W.cell? ⟨b, o + i * 3 + j, none⟩ = some u := fun i hi => by
      obtain ⟨cs', hc, ht⟩ := hel i (by omega)
      obtain ⟨_, _, hat⟩ := World.cells?_some hc
      obtain ⟨a, rfl, h1, h2⟩ := acc_cells ht
      refine ⟨a, ⟨h1, h2⟩, fun j u hu => ?_⟩
      have hj : j < 3 := by
        have := (List.getElem?_eq_some_iff.1 hu).1
        simpa [accl] using this
      have q := hat j hj
      rw [Addr.add_mid, Addr.add_mid, hu] at q
      exact q
    obtain ⟨f, hf⟩ := Go.Deep.choose_lt (fun i hi => key i hi)
    have hlen : ((List.range len).map f).length = len := by simp
    refine ⟨(List.range len).map f, ⟨some ⟨b, o, none⟩, _, by rw [hlen], by rw [hlen]; exact hlc, fun _ => Or.inr ⟨b, o, rfl⟩, fun h0 => ?_⟩, by rw [hlen]; omega, fun a ha => ?_⟩
    · rw [hlen] at h0
      have q0 := (hf 0 h0).2 0 _ rfl
      refine ⟨b, o, rfl, block_lt_of_cell q0, fun i hi j u hu => ?_⟩
      rw [hlen] at hi
      have e : ((List.range len).map f)[i]'(by rw [hlen]; exact hi) = f i := by simp
      rw [e] at hu
      exact (hf i hi).2 j u hu
    · obtain ⟨i, hi, rfl⟩ := List.mem_map.1 ha
      exact (hf i (List.mem_range.1 hi)).1
set_option maxRecDepth 100000 in
/-- A state's beginning that came in. -/
theorem start_open {H : Type} {enc : TypeId × Value → H} {W : World} {r : Reach} {b0 : Nat} {v : Value} {d : DataW H} {p : List MemPlace}
    (hv : Value.okWide Tryz.prog W r b0 26 v) (h : DataW.Trod enc Tryz.prog W 0 (fun _ => true) true 26 v d p)
    (hz : ∀ n ∈ d.weights Tryz.prog 26, n ≤ reachBytes) :
    ∃ (za : Value) (L : List A) (zm : Value) (S : List M) (zi : Value) (I : St), v = .agg #[za, zm, zi] ∧ AccIn W za L ∧ (L.length ≤ maxLen ∧ ∀ a ∈ L, (Lit.int .i64 a.amt).wf = true ∧ (Lit.int .i64 a.seq).wf = true) ∧ Mems W zm S ∧ S.length * 24 ≤ reachBytes ∧ ItIn W zi I ∧ I.length ≤ maxLen := by
  obtain ⟨cs, rfl, _⟩ := okWide_struct Tryz.underlying26 hv
  have hcells := okWide_cells Tryz.underlying26 typesSt hv
  obtain ⟨fuel, hf⟩ := h
  obtain ⟨ys, n', _, hy, hcl, hyl, hfs⟩ := DataW.trod_struct Tryz.underlying26 hf
  rw [cellsSt] at hcl
  obtain ⟨l⟩ := cs
  change l.length = 3 at hcl
  match l, hcl, ys, hyl with
  | [v0, v1, v2], _, [y0, y1, y2], _ =>
    have g0 := hfs 0 _ rfl
    have g1 := hfs 1 _ rfl
    have g2 := hfs 2 _ rfl
    simp [cellsStA, cellsStM, cellsStI, Value.cells] at g0 g1 g2
    obtain ⟨u, hu, hok⟩ := hcells 0 v0 rfl
    obtain rfl : u = 22 := by simpa using hu.symm
    obtain ⟨L, hL, hLl, hLw⟩ := accsI_trod hok g0
    have hd : d = .agg [y0.1, y1.1, y2.1] := by simpa using congrArg Prod.fst hy
    obtain ⟨S, hS, hSl, -⟩ := mems_trod g1 (fun n hn => hz n (by rw [hd]; simp [DataW.weights, DataW.weightsEach, Tryz.underlying26, hn]))
    obtain ⟨u, hu, hok2⟩ := hcells 2 v2 rfl
    obtain rfl : u = 24 := by simpa using hu.symm
    obtain ⟨I, hI, hIl⟩ := itemsI_trod hok2 g2
    exact ⟨v0, L, v1, S, v2, I, by simp, hL, ⟨hLl, hLw⟩, hS, hSl, hI, hIl⟩
end Go.Proofs.YtlckcfpdiigjiaaGreatDoor
namespace Go.Proofs.YtlckcfpdiigjiaaGreatDoor
open Go.RowKit Go.ChangeShapes Go.WideShapes
open Go.Proofs.YtlckcfpdiigjiaaGreatDoor.Pw (M)
open Go.Proofs.YtlckcfpdiigjiaaGreatDoor.Txn (X)

/-- A transaction as cells, as a value; its members lie in z. -/
def xcl (x : X) (z : Value) : List Value := [.int .i64 x.kind, .string ⟨x.frm.toArray⟩, .int .i64 x.seq, .string ⟨x.dst.toArray⟩, .int .i64 x.amt, .string ⟨x.key.toArray⟩, .string ⟨x.val.toArray⟩, z]
def xval (x : X) (z : Value) : Value := .agg #[.int .i64 x.kind, .string ⟨x.frm.toArray⟩, .int .i64 x.seq, .string ⟨x.dst.toArray⟩, .int .i64 x.amt, .string ⟨x.key.toArray⟩, .string ⟨x.val.toArray⟩, z]
/-- A transaction that fits. -/
structure OkX (x : X) : Prop where
  kind : (Lit.int .i64 x.kind).wf = true
  seq : (Lit.int .i64 x.seq).wf = true
  amt : (Lit.int .i64 x.amt).wf = true
  frm : x.frm.length ≤ maxLen
  dst : x.dst.length ≤ maxLen
  key : x.key.length ≤ maxLen
  val : x.val.length ≤ maxLen
  mems : x.mem.length * 24 ≤ reachBytes
  mem : ∀ m ∈ x.mem, OkMem m
set_option maxRecDepth 100000 in
theorem cellsTx : Tryz.prog.cellsOf 46 = 8 := by kernel_rfl
set_option maxRecDepth 100000 in
theorem tx_cells {H : Type} {enc : TypeId × Value → H} {W : World} {fuel : Nat} {cs : List Value} {y : DataW H × List MemPlace} (ht : DataW.trod enc Tryz.prog W 0 (fun _ => true) true fuel 46 cs = some y)
    (hz : ∀ n ∈ y.1.weights Tryz.prog 46, n ≤ reachBytes) :
    ∃ (x : X) (z : Value), cs = xcl x z ∧ OkX x ∧ Mems W z x.mem := by
  obtain ⟨ys, n', _, hy, hcl, hyl, hfs⟩ := DataW.trod_struct Tryz.underlying46 ht
  rw [cellsTx] at hcl
  match cs, hcl, ys, hyl with
  | [v0, v1, v2, v3, v4, v5, v6, v7], _, [y0, y1, y2, y3, y4, y5, y6, y7], _ =>
    have g0 := hfs 0 _ rfl
    have g1 := hfs 1 _ rfl
    have g2 := hfs 2 _ rfl
    have g3 := hfs 3 _ rfl
    have g4 := hfs 4 _ rfl
    have g5 := hfs 5 _ rfl
    have g6 := hfs 6 _ rfl
    have g7 := hfs 7 _ rfl
    simp [cellsIn, cellsS, cellsMl] at g0 g1 g2 g3 g4 g5 g6 g7
    obtain ⟨t0, e0, x0, w0⟩ := DataW.trod_int Tryz.underlying3 g0
    obtain ⟨s1, e1, x1, z1⟩ := DataW.trod_string Tryz.underlying9 g1
    obtain ⟨t2, e2, x2, w2⟩ := DataW.trod_int Tryz.underlying3 g2
    obtain ⟨s3, e3, x3, z3⟩ := DataW.trod_string Tryz.underlying9 g3
    obtain ⟨t4, e4, x4, w4⟩ := DataW.trod_int Tryz.underlying3 g4
    obtain ⟨s5, e5, x5, z5⟩ := DataW.trod_string Tryz.underlying9 g5
    obtain ⟨s6, e6, x6, z6⟩ := DataW.trod_string Tryz.underlying9 g6
    obtain rfl : v0 = .int .i64 t0 := by simpa using e0
    obtain rfl : v1 = .string s1 := by simpa using e1
    obtain rfl : v2 = .int .i64 t2 := by simpa using e2
    obtain rfl : v3 = .string s3 := by simpa using e3
    obtain rfl : v4 = .int .i64 t4 := by simpa using e4
    obtain rfl : v5 = .string s5 := by simpa using e5
    obtain rfl : v6 = .string s6 := by simpa using e6
    have hd : y.1 = .agg [y0.1, y1.1, y2.1, y3.1, y4.1, y5.1, y6.1, y7.1] := by simpa using congrArg Prod.fst hy
    have hz7 : ∀ n ∈ y7.1.weights Tryz.prog 23, n ≤ reachBytes := fun n hn => hz n (by
      rw [hd]; simp [DataW.weights, DataW.weightsEach, Tryz.underlying46, hn])
    obtain ⟨L, hL, hL2, hL3⟩ := mems_trod g7 hz7
    exact ⟨⟨t0, s1.data.toList, t2, s3.data.toList, t4, s5.data.toList, s6.data.toList, L⟩, v7, by simp [xcl], ⟨w0, w2, w4, by rw [Array.length_toList]; exact z1, by rw [Array.length_toList]; exact z3, by rw [Array.length_toList]; exact z5, by rw [Array.length_toList]; exact z6, hL2, hL3⟩, hL⟩
set_option maxRecDepth 100000 in
/-- A transaction that came in. -/
theorem tx_open {H : Type} {enc : TypeId × Value → H} {W : World} {r : Reach} {b0 : Nat} {v : Value} {d : DataW H} {p : List MemPlace}
    (hv : Value.okWide Tryz.prog W r b0 46 v) (h : DataW.Trod enc Tryz.prog W 0 (fun _ => true) true 46 v d p)
    (hz : ∀ n ∈ d.weights Tryz.prog 46, n ≤ reachBytes) :
    ∃ (x : X) (z : Value), v = xval x z ∧ OkX x ∧ Mems W z x.mem := by
  obtain ⟨cs, rfl, _⟩ := okWide_struct Tryz.underlying46 hv
  obtain ⟨fuel, hf⟩ := h
  obtain ⟨x, z, hc, h1, h2⟩ := tx_cells (y := (d, p)) hf hz
  refine ⟨x, z, ?_, h1, h2⟩
  simp only [Value.cells] at hc
  rw [xval]
  congr 1
  exact Array.ext' hc
/-- A slice of transactions. -/
def Txs (w : World) (v : Value) (L : List X) : Prop :=
  ∃ (A : Option Addr) (cap : Nat), v = .slice A L.length cap ∧ (0 < L.length → ∃ b o, A = some ⟨b, o, none⟩ ∧ b < w.heap.size ∧ ∀ i (h : i < L.length), ∃ z,
    (∀ j u, (xcl L[i] z)[j]? = some u → w.cell? ⟨b, o + i * 8 + j, none⟩ = some u) ∧ Mems w z L[i].mem)
theorem Txs.below {w w' : World} {v : Value} {L : List X} (h : Txs w v L) (hb : Below w.heap.size w w') : Txs w' v L := by
  obtain ⟨A, cap, rfl, hc⟩ := h
  refine ⟨A, cap, rfl, fun h0 => ?_⟩
  obtain ⟨b, o, rfl, hlt, hcell⟩ := hc h0
  refine ⟨b, o, rfl, Nat.lt_of_lt_of_le hlt hb.size, fun i hi => ?_⟩
  obtain ⟨z, h1, h2⟩ := hcell i hi
  exact ⟨z, fun j u hu => (hb.cell hlt).trans (h1 j u hu), h2.below hb⟩
theorem Txs.form {w : World} {v : Value} {L : List X} (h : Txs w v L) : ∃ A cap, v = .slice A L.length cap := by
  obtain ⟨A, cap, rfl, _⟩ := h
  exact ⟨A, cap, rfl⟩
theorem Txs.at {w : World} {A : Option Addr} {n cap : Nat} {L : List X} (h : Txs w (.slice A n cap) L) (k : Nat) (hk : k < L.length) :
    ∃ b o z, A = some ⟨b, o, none⟩ ∧ (∀ j u, (xcl L[k] z)[j]? = some u → w.cell? ⟨b, o + k * 8 + j, none⟩ = some u) ∧ Mems w z L[k].mem := by
  obtain ⟨A', cap', hv, h1⟩ := h
  obtain ⟨rfl, _⟩ : A = A' ∧ _ := by simpa using hv
  obtain ⟨b, o, rfl, _, hcell⟩ := h1 (by omega)
  obtain ⟨z, q1, q2⟩ := hcell k hk
  exact ⟨b, o, z, rfl, q1, q2⟩
set_option maxRecDepth 100000 in
theorem txs_open {H : Type} {enc : TypeId × Value → H} {W : World} {r : Reach} {b0 : Nat} {v : Value} {d : DataW H} {p : List MemPlace}
    (hv : Value.okWide Tryz.prog W r b0 27 v) (h : DataW.Trod enc Tryz.prog W 0 (fun _ => true) true 27 v d p)
    (hz : ∀ n ∈ d.weights Tryz.prog 27, n ≤ reachBytes) :
    ∃ L, Txs W v L ∧ L.length ≤ maxLen ∧ ∀ x ∈ L, OkX x := by
  obtain ⟨a0, len, cap, rfl⟩ := okWide_slice Tryz.underlying27 hv
  obtain ⟨fuel, hf⟩ := h
  rcases Go.Deep.open_slice Tryz.underlying27 hf with ⟨hcs, _⟩ | ⟨x, l, c, m, n, D, Pl, hcs, _, hl, hm, hmm, hx, hel⟩
  · simp [Value.cells] at hcs
    obtain ⟨rfl, rfl, rfl⟩ := hcs
    exact ⟨[], ⟨none, 0, rfl, fun h => absurd h (by simp)⟩, by simp, fun n hn => by simp at hn⟩
  · simp [Value.cells] at hcs
    obtain ⟨rfl, rfl, rfl⟩ := hcs
    simp only [if_true] at hmm
    subst hmm
    rw [cellsTx] at hel hx
    have hd : d = _ := congrArg Prod.fst hx
    have hw : ∀ i, i < len → ∀ k ∈ (D i).weights Tryz.prog 46, k ≤ reachBytes := fun i hi k hk => by
      refine hz k ?_
      rw [hd]
      simp only [DataW.weights, Tryz.underlying27, List.mem_cons, List.mem_append]
      exact Or.inr (Or.inl (weights_of_mem (List.mem_map.2 ⟨i, List.mem_range.2 hi, rfl⟩) k hk))
    have key : ∀ i, i < len → ∃ q : X × Value, OkX q.1 ∧ Mems W q.2 q.1.mem ∧ ∀ j u, (xcl q.1 q.2)[j]? = some u → W.cell? ((x.add (i * 8)).add j) = some u := fun i hi => by
      obtain ⟨cs', hc, ht⟩ := hel i (by omega)
      obtain ⟨_, _, hat⟩ := World.cells?_some hc
      obtain ⟨q, z, rfl, h1, h2⟩ := tx_cells ht (by simpa using hw i hi)
      refine ⟨(q, z), h1, h2, fun j u hu => ?_⟩
      have hj : j < 8 := by
        have := (List.getElem?_eq_some_iff.1 hu).1
        simpa [xcl] using this
      have h3 := hat j hj
      rw [hu] at h3
      exact h3
    obtain ⟨f, hf⟩ := Go.Deep.choose_lt (fun i hi => key i hi)
    have hlen : ((List.range len).map fun i => (f i).1).length = len := by simp
    refine ⟨(List.range len).map fun i => (f i).1, ⟨some x, _, by rw [hlen], fun h0 => ?_⟩, by rw [hlen]; omega, ?_⟩
    · rw [hlen] at h0
      obtain ⟨b, o, sp⟩ := x
      obtain ⟨-, -, q0⟩ := hf 0 h0
      have hcell' : W.cell? ⟨b, o, sp⟩ = some (.int .i64 (f 0).1.kind) := by simpa [Addr.add] using q0 0 _ rfl
      obtain rfl := cell_spot hcell'
      refine ⟨b, o, rfl, block_lt_of_cell hcell', fun i hi => ⟨(f i).2, fun j u hu => ?_, ?_⟩⟩
      · rw [hlen] at hi
        have q1 := (hf i hi).2.2 j u (by simpa using hu)
        rw [Addr.add_mid, Addr.add_mid] at q1
        exact q1
      · rw [hlen] at hi
        simpa using (hf i hi).2.1
    · intro y hy
      obtain ⟨i, hi, rfl⟩ := List.mem_map.1 hy
      exact (hf i (List.mem_range.1 hi)).1
end Go.Proofs.YtlckcfpdiigjiaaGreatDoor
