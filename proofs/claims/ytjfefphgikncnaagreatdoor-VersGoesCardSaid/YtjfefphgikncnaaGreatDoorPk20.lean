/- OraMath, CertMath, OraBase, ArgTexts, ArgCert, ArgVActs, VerLong, VerWorks, VerWas, VerFind, VerRoots -/
import Derived.KernelRfl
import Derived.Test.YtjfefphgikncnaaGreatDoorPk19
import Derived.Test.YtjfefphgikncnaaGreatDoorPk09
import Derived.Test.YtjfefphgikncnaaGreatDoorPk03
import Derived.Test.YtjfefphgikncnaaGreatDoorPk12
namespace Go.Proofs.YtjfefphgikncnaaGreatDoor
namespace Ora

abbrev K := List UInt8 × List UInt8
abbrev Sig := K × Bool
def kLt (a b : K) : Bool := decide (a.1 < b.1) || (decide (a.1 = b.1) && decide (a.2 < b.2))
theorem kLt_iff (a b : K) : kLt a b = true ↔ a.1 < b.1 ∨ (a.1 = b.1 ∧ a.2 < b.2) := by simp [kLt]
theorem kLt_irrefl (a : K) : kLt a a = false := by
  cases h : kLt a a with
  | false => rfl
  | true =>
    rcases (kLt_iff a a).1 h with h | ⟨_, h⟩
    · exact absurd h (List.lt_irrefl _)
    · exact absurd h (List.lt_irrefl _)
theorem kLt_trans {a b c : K} (h : kLt a b = true) (k : kLt b c = true) : kLt a c = true := by
  rw [kLt_iff] at *
  rcases h with h | ⟨h1, h2⟩
  · rcases k with k | ⟨k1, k2⟩
    · exact Or.inl (List.lt_trans h k)
    · exact Or.inl (k1 ▸ h)
  · rcases k with k | ⟨k1, k2⟩
    · exact Or.inl (h1 ▸ k)
    · exact Or.inr ⟨h1.trans k1, List.lt_trans h2 k2⟩
theorem kLt_ne {a b : K} (h : kLt a b = true) : a ≠ b := by
  rintro rfl
  rw [kLt_irrefl] at h; cases h
theorem tri (x y : List UInt8) : x < y ∨ x = y ∨ y < x := by
  by_cases h : x < y
  · exact Or.inl h
  · rcases List.le_iff_lt_or_eq.1 (List.not_lt.1 h) with h | h
    · exact Or.inr (Or.inr h)
    · exact Or.inr (Or.inl h.symm)
theorem kLt_total {a b : K} (h : kLt a b = false) (hn : a ≠ b) : kLt b a = true := by
  rw [kLt_iff]
  have h' : ¬ (a.1 < b.1 ∨ (a.1 = b.1 ∧ a.2 < b.2)) := fun k => by rw [(kLt_iff a b).2 k] at h; cases h
  rcases tri a.1 b.1 with h1 | h1 | h1
  · exact absurd (Or.inl h1) h'
  · rcases tri a.2 b.2 with h2 | h2 | h2
    · exact absurd (Or.inr ⟨h1, h2⟩) h'
    · exact absurd (Prod.ext h1 h2) hn
    · exact Or.inr ⟨h1.symm, h2⟩
  · exact Or.inl h1

def look : List Sig → K → Option Bool
  | [], _ => none
  | a :: r, k => if k = a.1 then some a.2 else look r k
def put : List Sig → K → Bool → List Sig
  | [], k, h => [(k, h)]
  | a :: r, k, h => if k = a.1 then (k, a.2 && h) :: r else if kLt k a.1 then (k, h) :: a :: r else a :: put r k h
def Rising (S : List Sig) : Prop := S.Pairwise fun a b => kLt a.1 b.1 = true
theorem rising_nil : Rising [] := List.Pairwise.nil
theorem look_none_of {S : List Sig} {k : K} (h : ∀ a ∈ S, a.1 ≠ k) : look S k = none := by
  induction S with
  | nil => rfl
  | cons a r ih =>
    rw [look, if_neg (fun e => h a (List.mem_cons_self ..) e.symm)]
    exact ih fun b hb => h b (List.mem_cons_of_mem _ hb)
theorem look_mem {S : List Sig} (hS : Rising S) (k : K) (b : Bool) : look S k = some b ↔ (k, b) ∈ S := by
  induction S with
  | nil => simp [look]
  | cons a r ih =>
    obtain ⟨h1, h2⟩ := List.pairwise_cons.1 hS
    rw [look]
    by_cases e : k = a.1
    · rw [if_pos e]
      constructor
      · intro h
        simp only [Option.some.injEq] at h
        exact List.mem_cons.2 (Or.inl (Prod.ext e h.symm))
      · intro h
        rcases List.mem_cons.1 h with h | h
        · rw [← h]
        · exact absurd e.symm (kLt_ne (h1 _ h))
    · rw [if_neg e, ih h2]
      constructor
      · exact fun h => List.mem_cons_of_mem _ h
      · intro h
        rcases List.mem_cons.1 h with h | h
        · exact absurd (by rw [← h]) e
        · exact h
theorem put_keys {S : List Sig} {k : K} {h : Bool} {x : Sig} (hx : x ∈ put S k h) : x.1 = k ∨ ∃ y ∈ S, y.1 = x.1 := by
  induction S with
  | nil => simp [put] at hx; exact Or.inl (by rw [hx])
  | cons a r ih =>
    rw [put] at hx
    split at hx
    · rcases List.mem_cons.1 hx with rfl | hx
      · exact Or.inl rfl
      · exact Or.inr ⟨x, List.mem_cons_of_mem _ hx, rfl⟩
    · split at hx
      · rcases List.mem_cons.1 hx with rfl | hx
        · exact Or.inl rfl
        · exact Or.inr ⟨x, hx, rfl⟩
      · rcases List.mem_cons.1 hx with rfl | hx
        · exact Or.inr ⟨x, List.mem_cons_self .., rfl⟩
        · rcases ih hx with h | ⟨y, hy, e⟩
          · exact Or.inl h
          · exact Or.inr ⟨y, List.mem_cons_of_mem _ hy, e⟩
theorem put_rising {S : List Sig} (hS : Rising S) (k : K) (h : Bool) : Rising (put S k h) := by
  induction S with
  | nil => simp [put, Rising]
  | cons a r ih =>
    obtain ⟨h1, h2⟩ := List.pairwise_cons.1 hS
    rw [put]
    split
    · rename_i e
      exact List.pairwise_cons.2 ⟨fun b hb => by show kLt k b.1 = true; rw [e]; exact h1 b hb, h2⟩
    · rename_i e
      split
      · rename_i l
        refine List.pairwise_cons.2 ⟨fun b hb => ?_, hS⟩
        rcases List.mem_cons.1 hb with rfl | hb
        · exact l
        · exact kLt_trans l (h1 b hb)
      · rename_i l
        refine List.pairwise_cons.2 ⟨fun b hb => ?_, ih h2⟩
        rcases put_keys hb with e' | ⟨y, hy, e'⟩
        · rw [e']; exact kLt_total (by simpa using l) e
        · rw [← e']; exact h1 y hy
/-- What an honest or other step makes of what was there. -/
def over (o : Option Bool) (h : Bool) : Bool := match o with | some b => b && h | none => h
theorem look_put {S : List Sig} (hS : Rising S) (k : K) (h : Bool) (x : K) : look (put S k h) x = if x = k then some (over (look S k) h) else look S x := by
  induction S with
  | nil =>
    simp only [put, look, over]
  | cons a r ih =>
    obtain ⟨h1, h2⟩ := List.pairwise_cons.1 hS
    rw [put]
    by_cases e : k = a.1
    · rw [if_pos e]
      simp only [look]
      rw [if_pos e]
      by_cases ex : x = k
      · rw [if_pos ex, if_pos ex]; rfl
      · rw [if_neg ex, if_neg ex, if_neg (fun q => ex (q.trans e.symm))]
    · rw [if_neg e]
      by_cases l : kLt k a.1 = true
      · rw [if_pos l]
        have hn : look (a :: r) k = none := look_none_of fun b hb => by
          rcases List.mem_cons.1 hb with rfl | hb
          · exact fun q => e q.symm
          · exact fun q => kLt_ne (kLt_trans l (h1 b hb)) q.symm
        rw [hn]
        rw [look]
        rfl
      · rw [if_neg l]
        simp only [look]
        rw [if_neg e, ih h2]
        by_cases ex : x = k
        · rw [if_pos ex, if_pos ex, if_neg (fun q => e (ex.symm.trans q))]
        · rw [if_neg ex, if_neg ex]
theorem put_length (S : List Sig) (k : K) (h : Bool) : (put S k h).length ≤ S.length + 1 := by
  induction S with
  | nil => simp [put]
  | cons a r ih =>
    rw [put]
    split
    · simp
    · split
      · simp
      · simp; omega
/-- Sign: what is there then, and its code. -/
def signP (S : List Sig) (k : K) (h : Bool) : List Sig × Int :=
  if k.1.length < 1 ∨ 6 < k.1.length then (S, 1) else if k.2.length ≠ 32 then (S, 3) else if look S k = none ∧ 1024 ≤ S.length then (S, 2) else (put S k h, 0)
theorem sign_length (S : List Sig) (k : K) (h : Bool) : (signP S k h).1.length ≤ S.length + 1 := by
  unfold signP
  split
  · simp
  · split
    · simp
    · split
      · simp
      · exact put_length S k h
/-- A step that signs. -/
structure St where
  who : List UInt8
  mark : List UInt8
  honest : Bool
  fork : Bool
instance : Inhabited St := ⟨⟨[], [], false, false⟩⟩
def St.key (s : St) : K := (s.who, s.mark)
def St.may (s : St) : Bool := decide (1 ≤ s.who.length) && decide (s.who.length ≤ 6) && decide (s.mark.length = 32)
def step (S : List Sig) (s : St) : List Sig := (signP S s.key s.honest).1
def fillP (l : List St) : List Sig := l.foldl step []
theorem fold_length (l : List St) (S : List Sig) : (l.foldl step S).length ≤ S.length + l.length := by
  induction l generalizing S with
  | nil => simp
  | cons s r ih =>
    have h1 := ih (step S s)
    have h2 := sign_length S s.key s.honest
    simp only [List.foldl_cons, List.length_cons]
    unfold step at h1 h2 ⊢
    omega
theorem fill_length (l : List St) : (fillP l).length ≤ l.length := by
  have := fold_length l []
  simpa [fillP] using this
end Ora
end Go.Proofs.YtjfefphgikncnaaGreatDoor
namespace Go.Proofs.YtjfefphgikncnaaGreatDoor.Ct
open Go.Proofs.YtjfefphgikncnaaGreatDoor.Pw (S M okL okFrom okFrom_mem okFrom_pair okL_mem okL_pair okL_len okM ofL tot quo mos both)
open Go.Proofs.YtjfefphgikncnaaGreatDoor.Ora (Sig)

/-- A certificate. -/
structure C where
  dig : S
  sig : List S
instance : Inhabited C := ⟨⟨[], []⟩⟩
def toM (s : S) : M := ⟨s, 1⟩
/-- Names that rise. -/
def okNs (L : List S) : Bool := okFrom [] (L.map toM)
def may (c : C) : Bool := decide (c.dig.length = 32) && decide (c.sig.length ≤ 7) && okNs c.sig
def names (L : List M) : List S := L.map (·.name)
end Go.Proofs.YtjfefphgikncnaaGreatDoor.Ct
namespace Go.Proofs.YtjfefphgikncnaaGreatDoor
open Go.RowKit Go.MapKept Go.ChangeShapes Go.WideShapes
open Go.Maps (Keyed)
open Go.Proofs.YtjfefphgikncnaaGreatDoor.Ora (K Sig)

def Sgs (w : World) (v : Value) (L : List Sig) : Prop :=
  ∃ (A : Option Addr) (cap : Nat), v = .slice A L.length cap ∧ L.length ≤ cap ∧ (0 < L.length → ∃ b o, A = some ⟨b, o, none⟩ ∧ b < w.heap.size ∧ ∀ i (h : i < L.length),
    w.cell? ⟨b, o + i * 3, none⟩ = some (.string ⟨L[i].1.1.toArray⟩) ∧ w.cell? ⟨b, o + i * 3 + 1, none⟩ = some (.string ⟨L[i].1.2.toArray⟩) ∧ w.cell? ⟨b, o + i * 3 + 2, none⟩ = some (.bool L[i].2))
theorem Sgs.nil (w : World) : Sgs w (.slice none 0 0) [] := ⟨none, 0, rfl, Nat.le_refl _, fun h => absurd h (by simp)⟩
theorem Sgs.out {F : Nat → Prop} {w w' : World} {v : Value} {L : List Sig} (h : Sgs w v L) (hb : Out F w w') (hd : ∀ k cs t f, F k → w.heap[k]? ≠ some (.cells cs t f)) : Sgs w' v L := by
  obtain ⟨A, cap, rfl, hcap, hc⟩ := h
  refine ⟨A, cap, rfl, hcap, fun h0 => ?_⟩
  obtain ⟨b, o, rfl, hlt, hcell⟩ := hc h0
  refine ⟨b, o, rfl, Nat.lt_of_lt_of_le hlt hb.size, fun i hi => ?_⟩
  obtain ⟨h1, h2, h3⟩ := hcell i hi
  have hF : ¬ F b := fun hf => by
    unfold World.cell? at h1
    cases hh : w.heap[b]? with
    | none => simp [hh] at h1
    | some ob =>
      cases ob with
      | cells cs t f => exact hd b _ _ _ hf hh
      | _ => simp [hh] at h1
  exact ⟨hb.cell h1 hF, hb.cell h2 hF, hb.cell h3 hF⟩
theorem Sgs.below {w w' : World} {v : Value} {L : List Sig} (h : Sgs w v L) (hb : Below w.heap.size w w') : Sgs w' v L := h.out (F := fun _ => False) (Out.of hb) (fun _ _ _ _ hf => hf.elim)
theorem Sgs.drew {w : World} {v : Value} {L : List Sig} (h : Sgs w v L) : Sgs w.drew v L := h.below (Below.refl _ w).drew
theorem Sgs.at {w w' : World} {A : Option Addr} {n cap : Nat} {L : List Sig} (h : Sgs w (.slice A n cap) L) (hb : Below w.heap.size w w') (k : Nat) (hk : k < L.length) :
    ∃ b o, A = some ⟨b, o, none⟩ ∧ w'.cell? ⟨b, o + k * 3, none⟩ = some (.string ⟨L[k].1.1.toArray⟩) ∧ w'.cell? ⟨b, o + k * 3 + 1, none⟩ = some (.string ⟨L[k].1.2.toArray⟩) ∧ w'.cell? ⟨b, o + k * 3 + 2, none⟩ = some (.bool L[k].2) := by
  obtain ⟨A', cap', hv, _, hc⟩ := h.below hb
  obtain ⟨rfl, rfl, rfl⟩ : A = A' ∧ n = L.length ∧ cap = cap' := by simpa using hv
  obtain ⟨b, o, rfl, _, hcell⟩ := hc (by omega)
  exact ⟨b, o, rfl, hcell k hk⟩
theorem Sgs.form {w : World} {v : Value} {L : List Sig} (h : Sgs w v L) : ∃ A cap, v = .slice A L.length cap ∧ L.length ≤ cap := by
  obtain ⟨A, cap, rfl, hc, _⟩ := h
  exact ⟨A, cap, rfl, hc⟩
end Go.Proofs.YtjfefphgikncnaaGreatDoor
namespace Go.Proofs.YtjfefphgikncnaaGreatDoor
open Go.RowKit Go.ChangeShapes Go.WideShapes

end Go.Proofs.YtjfefphgikncnaaGreatDoor
namespace Go.Proofs.YtjfefphgikncnaaGreatDoor
open Go.RowKit Go.ChangeShapes Go.WideShapes
open Go.Proofs.YtjfefphgikncnaaGreatDoor.Pw (M)

/-- A step that signs a digest's mark. -/
structure Ct.St where
  tag : Int
  who : List UInt8
  sum : List UInt8
  dis : Bool
instance : Inhabited Ct.St := ⟨⟨0, [], [], false⟩⟩
set_option maxRecDepth 100000 in
theorem cellsIn : Tryz.prog.cellsOf 3 = 1 := by kernel_rfl
def Css (w : World) (v : Value) (L : List Ct.St) : Prop :=
  ∃ (A : Option Addr) (cap : Nat), v = .slice A L.length cap ∧ (0 < L.length → ∃ b o, A = some ⟨b, o, none⟩ ∧ b < w.heap.size ∧ ∀ i (h : i < L.length),
    w.cell? ⟨b, o + i * 4, none⟩ = some (.int .i64 L[i].tag) ∧ w.cell? ⟨b, o + i * 4 + 1, none⟩ = some (.string ⟨L[i].who.toArray⟩) ∧ w.cell? ⟨b, o + i * 4 + 2, none⟩ = some (.string ⟨L[i].sum.toArray⟩) ∧ w.cell? ⟨b, o + i * 4 + 3, none⟩ = some (.bool L[i].dis))
theorem Css.below {w w' : World} {v : Value} {L : List Ct.St} (h : Css w v L) (hb : Below w.heap.size w w') : Css w' v L := by
  obtain ⟨A, cap, rfl, hc⟩ := h
  refine ⟨A, cap, rfl, fun h0 => ?_⟩
  obtain ⟨b, o, rfl, hlt, hcell⟩ := hc h0
  refine ⟨b, o, rfl, Nat.lt_of_lt_of_le hlt hb.size, fun i hi => ?_⟩
  obtain ⟨h1, h2, h3, h4⟩ := hcell i hi
  exact ⟨(hb.cell hlt).trans h1, (hb.cell hlt).trans h2, (hb.cell hlt).trans h3, (hb.cell hlt).trans h4⟩
theorem Css.at {w w' : World} {A : Option Addr} {n cap : Nat} {L : List Ct.St} (h : Css w (.slice A n cap) L) (hb : Below w.heap.size w w') (k : Nat) (hk : k < L.length) :
    ∃ b o, A = some ⟨b, o, none⟩ ∧ b < w.heap.size ∧ w'.cell? ⟨b, o + k * 4, none⟩ = some (.int .i64 L[k].tag) ∧ w'.cell? ⟨b, o + k * 4 + 1, none⟩ = some (.string ⟨L[k].who.toArray⟩) ∧ w'.cell? ⟨b, o + k * 4 + 2, none⟩ = some (.string ⟨L[k].sum.toArray⟩) ∧ w'.cell? ⟨b, o + k * 4 + 3, none⟩ = some (.bool L[k].dis) := by
  obtain ⟨A0, cap0, hv0, hc0⟩ := h
  obtain ⟨rfl, rfl, rfl⟩ : A = A0 ∧ n = L.length ∧ cap = cap0 := by simpa using hv0
  obtain ⟨b, o, rfl, hlt, hcell⟩ := hc0 (by omega)
  obtain ⟨h1, h2, h3, h4⟩ := hcell k hk
  exact ⟨b, o, rfl, hlt, (hb.cell hlt).trans h1, (hb.cell hlt).trans h2, (hb.cell hlt).trans h3, (hb.cell hlt).trans h4⟩
theorem Css.form {w : World} {v : Value} {L : List Ct.St} (h : Css w v L) : ∃ A cap, v = .slice A L.length cap := by
  obtain ⟨A, cap, rfl, _⟩ := h
  exact ⟨A, cap, rfl⟩

end Go.Proofs.YtjfefphgikncnaaGreatDoor
namespace Go.Proofs.YtjfefphgikncnaaGreatDoor
open Go.RowKit Go.ChangeShapes Go.WideShapes
open Sto (T St)

instance : Inhabited Ver.Act := ⟨⟨0, 0, []⟩⟩
set_option maxRecDepth 100000 in
theorem cellsVA : Tryz.prog.cellsOf 33 = 3 := by kernel_rfl
set_option maxRecDepth 100000 in
theorem cellsVI : Tryz.prog.cellsOf 31 = 1 := by kernel_rfl
/-- A slice of acts. -/
def VActs (w : World) (v : Value) (L : List Ver.Act) : Prop :=
  ∃ (A : Option Addr) (cap : Nat), v = .slice A L.length cap ∧ (0 < L.length → ∃ b o, A = some ⟨b, o, none⟩ ∧ b < w.heap.size ∧ ∀ i (h : i < L.length), ∃ z,
    w.cell? ⟨b, o + i * 3, none⟩ = some (.int .i64 L[i].kind) ∧ w.cell? ⟨b, o + i * 3 + 1, none⟩ = some (.int .i64 L[i].height) ∧ w.cell? ⟨b, o + i * 3 + 2, none⟩ = some z ∧ ItLo w z L[i].chg)
theorem VActs.below {w w' : World} {v : Value} {L : List Ver.Act} (h : VActs w v L) (hb : Below w.heap.size w w') : VActs w' v L := by
  obtain ⟨A, cap, rfl, hc⟩ := h
  refine ⟨A, cap, rfl, fun h0 => ?_⟩
  obtain ⟨b, o, rfl, hlt, hcell⟩ := hc h0
  refine ⟨b, o, rfl, Nat.lt_of_lt_of_le hlt hb.size, fun i hi => ?_⟩
  obtain ⟨z, h1, h2, h3, h4⟩ := hcell i hi
  exact ⟨z, (hb.cell hlt).trans h1, (hb.cell hlt).trans h2, (hb.cell hlt).trans h3, h4.below hb⟩
theorem VActs.form {w : World} {v : Value} {L : List Ver.Act} (h : VActs w v L) : ∃ A cap, v = .slice A L.length cap := by
  obtain ⟨A, cap, rfl, _⟩ := h
  exact ⟨A, cap, rfl⟩
theorem VActs.at {w : World} {A : Option Addr} {n cap : Nat} {L : List Ver.Act} (h : VActs w (.slice A n cap) L) (k : Nat) (hk : k < L.length) :
    ∃ b o z, A = some ⟨b, o, none⟩ ∧ w.cell? ⟨b, o + k * 3, none⟩ = some (.int .i64 L[k].kind) ∧ w.cell? ⟨b, o + k * 3 + 1, none⟩ = some (.int .i64 L[k].height) ∧ w.cell? ⟨b, o + k * 3 + 2, none⟩ = some z ∧ ItLo w z L[k].chg := by
  obtain ⟨A', cap', hv, h1⟩ := h
  obtain ⟨rfl, _⟩ : A = A' ∧ _ := by simpa using hv
  obtain ⟨b, o, rfl, _, hcell⟩ := h1 (by omega)
  obtain ⟨z, q⟩ := hcell k hk
  exact ⟨b, o, z, rfl, q⟩
/-- A slice of items inside something else. -/
theorem items_trod {H : Type} {enc : TypeId × Value → H} {W : World} {fuel : Nat} {v : Value} {z : DataW H × List MemPlace}
    (hf : DataW.trod enc Tryz.prog W 0 (fun _ => true) true fuel 31 [v] = some z) : ∃ L, ItLo W v L := by
  rcases Go.Deep.open_slice Tryz.underlying31 hf with ⟨hcs, _⟩ | ⟨x, l, c, m, n, D, Pl, hcs, _, hl, hm, hmm, hx, hel⟩
  · obtain rfl : v = .slice none 0 0 := by simpa using hcs
    exact ⟨[], none, 0, rfl, fun h => absurd h (by simp)⟩
  · obtain rfl : v = .slice (some x) l c := by simpa using hcs
    simp only [if_true] at hmm
    subst hmm
    rw [cellsItem] at hel
    have key : ∀ i, i < l → ∃ q : T × T, W.cell? ((x.add (i * 2)).add 0) = some (.string ⟨q.1.toArray⟩) ∧ W.cell? ((x.add (i * 2)).add 1) = some (.string ⟨q.2.toArray⟩) := fun i hi => by
      obtain ⟨cs', hc, ht⟩ := hel i (by omega)
      obtain ⟨_, _, hat⟩ := World.cells?_some hc
      obtain ⟨q, rfl⟩ := item_cells ht
      exact ⟨q, by simpa [itcl] using hat 0 (by omega), by simpa [itcl] using hat 1 (by omega)⟩
    obtain ⟨f, hf⟩ := Go.Deep.choose_lt (fun i hi => key i hi)
    have hlen : ((List.range l).map f).length = l := by simp
    refine ⟨(List.range l).map f, some x, _, by rw [hlen], fun h0 => ?_⟩
    rw [hlen] at h0
    obtain ⟨b, o, sp⟩ := x
    obtain ⟨q0, _⟩ := hf 0 h0
    have hcell' : W.cell? ⟨b, o, sp⟩ = some (.string ⟨(f 0).1.toArray⟩) := by simpa [Addr.add] using q0
    obtain rfl := cell_spot hcell'
    refine ⟨b, o, rfl, block_lt_of_cell hcell', fun i hi => ?_⟩
    rw [hlen] at hi
    obtain ⟨q0, q1⟩ := hf i hi
    rw [Addr.add_mid, Addr.add_mid] at q0 q1
    simpa using ⟨q0, q1⟩
set_option maxRecDepth 100000 in
theorem vact_cells {H : Type} {enc : TypeId × Value → H} {W : World} {fuel : Nat} {cs : List Value} {x : DataW H × List MemPlace} (ht : DataW.trod enc Tryz.prog W 0 (fun _ => true) true fuel 33 cs = some x) :
    ∃ (s : Ver.Act) (z : Value), cs = [.int .i64 s.kind, .int .i64 s.height, z] ∧ ItLo W z s.chg ∧ (Lit.int .i64 s.kind).wf = true ∧ (Lit.int .i64 s.height).wf = true := by
  obtain ⟨ys, n', _, hy, hcl, hyl, hfs⟩ := DataW.trod_struct Tryz.underlying33 ht
  rw [cellsVA] at hcl
  match cs, hcl, ys, hyl with
  | [v0, v1, v2], _, [y0, y1, y2], _ =>
    have g0 := hfs 0 _ rfl
    have g1 := hfs 1 _ rfl
    have g2 := hfs 2 _ rfl
    simp [cellsIn, cellsVI] at g0 g1 g2
    obtain ⟨t0, e0, _, wf0⟩ := DataW.trod_int Tryz.underlying3 g0
    obtain ⟨t1, e1, _, wf1⟩ := DataW.trod_int Tryz.underlying3 g1
    obtain ⟨C, hC⟩ := items_trod g2
    obtain rfl : v0 = .int .i64 t0 := by simpa using e0
    obtain rfl : v1 = .int .i64 t1 := by simpa using e1
    exact ⟨⟨t0, t1, C⟩, v2, rfl, hC, wf0, wf1⟩
set_option maxRecDepth 100000 in
theorem vacts_open {H : Type} {enc : TypeId × Value → H} {W : World} {r : Reach} {b0 : Nat} {v : Value} {d : DataW H} {p : List MemPlace}
    (hv : Value.okWide Tryz.prog W r b0 22 v) (h : DataW.Trod enc Tryz.prog W 0 (fun _ => true) true 22 v d p)
    (hz : ∀ n ∈ d.weights Tryz.prog 22, n ≤ reachBytes) :
    ∃ L, VActs W v L ∧ L.length * 40 ≤ reachBytes ∧ ∀ s ∈ L, (Lit.int .i64 s.kind).wf = true ∧ (Lit.int .i64 s.height).wf = true := by
  obtain ⟨a0, len, cap, rfl⟩ := okWide_slice Tryz.underlying22 hv
  obtain ⟨fuel, hf⟩ := h
  rcases Go.Deep.open_slice Tryz.underlying22 hf with ⟨hcs, _⟩ | ⟨x, l, c, m, n, D, Pl, hcs, _, hl, hm, hmm, hx, hel⟩
  · simp [Value.cells] at hcs
    obtain ⟨rfl, rfl, rfl⟩ := hcs
    exact ⟨[], ⟨none, 0, rfl, fun h => absurd h (by simp)⟩, by simp, fun n hn => by simp at hn⟩
  · simp [Value.cells] at hcs
    obtain ⟨rfl, rfl, rfl⟩ := hcs
    simp only [if_true] at hmm
    subst hmm
    rw [cellsVA] at hel hx
    obtain ⟨hd, -⟩ := Prod.mk.inj hx
    have hlen40 : len * 40 ≤ reachBytes := by
      have h1 := hz ((((List.range len).map D).length + ((List.range (m - len)).map fun j => D (len + j)).length) * Tryz.prog.bytesOf 33) (by
        rw [hd]; simp [DataW.weights, Tryz.underlying22])
      rw [show Tryz.prog.bytesOf 33 = 40 from by kernel_rfl] at h1
      simp only [List.length_map, List.length_range] at h1
      omega
    have key : ∀ i, i < len → ∃ q : Ver.Act × Value, W.cell? ((x.add (i * 3)).add 0) = some (.int .i64 q.1.kind) ∧ W.cell? ((x.add (i * 3)).add 1) = some (.int .i64 q.1.height) ∧ W.cell? ((x.add (i * 3)).add 2) = some q.2 ∧ ItLo W q.2 q.1.chg ∧ (Lit.int .i64 q.1.kind).wf = true ∧ (Lit.int .i64 q.1.height).wf = true := fun i hi => by
      obtain ⟨cs', hc, ht⟩ := hel i (by omega)
      obtain ⟨_, _, hat⟩ := World.cells?_some hc
      obtain ⟨q, z, rfl, h1, h2, h3⟩ := vact_cells ht
      exact ⟨(q, z), hat 0 (by omega), hat 1 (by omega), hat 2 (by omega), h1, h2, h3⟩
    obtain ⟨f, hf⟩ := Go.Deep.choose_lt (fun i hi => key i hi)
    have hlen : ((List.range len).map fun i => (f i).1).length = len := by simp
    refine ⟨(List.range len).map fun i => (f i).1, ⟨some x, _, by rw [hlen], fun h0 => ?_⟩, by rw [hlen]; exact hlen40, ?_⟩
    · rw [hlen] at h0
      obtain ⟨b, o, sp⟩ := x
      obtain ⟨q0, _⟩ := hf 0 h0
      have hcell' : W.cell? ⟨b, o, sp⟩ = some (.int .i64 (f 0).1.kind) := by simpa [Addr.add] using q0
      obtain rfl := cell_spot hcell'
      refine ⟨b, o, rfl, block_lt_of_cell hcell', fun i hi => ⟨(f i).2, ?_⟩⟩
      rw [hlen] at hi
      obtain ⟨q0, q1, q2, q3, _⟩ := hf i hi
      rw [Addr.add_mid, Addr.add_mid] at q0 q1 q2
      simpa using ⟨q0, q1, q2, q3⟩
    · intro s hs
      obtain ⟨i, hi, rfl⟩ := List.mem_map.1 hs
      exact (hf i (List.mem_range.1 hi)).2.2.2.2
end Go.Proofs.YtjfefphgikncnaaGreatDoor
namespace Go.Proofs.YtjfefphgikncnaaGreatDoor
open Go.RowKit
open Sto (T St)

def Ver.FitC (C : St) : Prop := C.length ≤ 10 ∧ ∀ x ∈ C, x.1.length ≤ 100 ∧ x.2.length ≤ 100
def Ver.Fit (L : List Ver.Act) : Prop := L.length ≤ 10 ∧ ∀ a ∈ L, Ver.FitC a.chg
def LongPost (L : List Ver.Act) (w : World) (e : Ending) (w' : World) : Prop := ∃ b : Bool, e = .returned (.bool b) ∧ w = w' ∧ (b = false → Ver.Fit L)
set_option maxRecDepth 100000 in
set_option maxHeartbeats 2000000 in
theorem vlong_any (L : List Ver.Act) (v : Value) (w : World) (hv : VActs w v L) :
    Calls Tryz.prog 10 #[v] w (LongPost L w) := by
  have HV := Lib.hid hv
  obtain ⟨A, cap, rfl⟩ := hv.form
  clear hv
  by_cases hlm : 10 < L.length
  · have h1 : (10 : Int) < (L.length : Int) := by omega
    clear hlm
    go_enter Tryz.func10, Tryz.ntmps10
    go_wp2
    go_ret
    exact ⟨true, rfl, rfl, fun h => by cases h⟩
  have h1 : ¬ ((10 : Int) < (L.length : Int)) := by omega
  have HL10 : Hid (L.length ≤ 10) := Lib.hid (by omega)
  clear hlm
  go_enter Tryz.func10, Tryz.ntmps10
  go_wp2
  go_loopw [3] (fun iv wr => wr = w ∧ ∃ i : Nat, i ≤ L.length ∧ iv = .int .i64 i ∧ ∀ j (hj : j < i) (hj2 : j < L.length), Ver.FitC L[j].chg) (fun i _ => L.length - (intOf i).toNat)
  case atStart => exact ⟨rfl, 0, Nat.zero_le _, rfl, fun j hj => absurd hj (Nat.not_lt_zero _)⟩
  case round =>
    obtain ⟨rfl, i, hi, rfl, hall⟩ := hrel
    have HALL := Lib.hid hall
    clear hall
    by_cases hlt : i < L.length
    · have g1 : (i : Int) < (L.length : Int) := by omega
      have g0 : (0 : Int) ≤ (i : Int) := by omega
      have g2 : (i : Int) ≤ 100000 := by have := HL10.out; omega
      obtain ⟨b, o, z, rfl, -, -, n2, hz⟩ := HV.out.at i hlt
      have HSTEP : Hid (Ver.FitC L[i].chg → ∀ j (hj : j < i + 1) (hj2 : j < L.length), Ver.FitC L[j].chg) := Lib.hid (fun a1 j hj hj2 => by
        by_cases e : j < i
        · exact HALL.out j e hj2
        · obtain rfl : j = i := by omega
          exact a1)
      obtain ⟨C, hC⟩ : ∃ C, L[i].chg = C := ⟨_, rfl⟩
      rw [hC] at hz HSTEP
      have HZ := Lib.hid hz
      obtain ⟨A2, cap2, rfl⟩ := hz.form
      have HLT := Lib.hid hlt
      clear hz hC hlt
      by_cases hc : 10 < C.length
      · have q1 : (10 : Int) < (C.length : Int) := by omega
        clear hc
        go_wp2
        go_ret
        exact ⟨true, rfl, rfl, fun h => by cases h⟩
      have q1 : ¬ ((10 : Int) < (C.length : Int)) := by omega
      have HC10 : Hid (C.length ≤ 10) := Lib.hid (by omega)
      clear hc
      go_wp2
      obtain ⟨wo, rfl⟩ : ∃ y, y = wr := ⟨_, rfl⟩
      go_loopw [4] (fun kv wr => wr = wo ∧ ∃ k : Nat, k ≤ C.length ∧ kv = .int .i64 k ∧ ∀ j (hj : j < k) (hj2 : j < C.length), C[j].1.length ≤ 100 ∧ C[j].2.length ≤ 100) (fun k _ => C.length - (intOf k).toNat)
      case atStart => exact ⟨rfl, 0, Nat.zero_le _, rfl, fun j hj => absurd hj (Nat.not_lt_zero _)⟩
      case round =>
        obtain ⟨rfl, k, hk, rfl, hin⟩ := hrel
        have HIN := Lib.hid hin
        clear hin
        by_cases hlk : k < C.length
        · have e1 : (k : Int) < (C.length : Int) := by omega
          have e0 : (0 : Int) ≤ (k : Int) := by omega
          have e2 : (k : Int) ≤ 100000 := by have := HC10.out; omega
          obtain ⟨b2, o2, rfl, m1, m2⟩ := HZ.out.at k hlk
          have HKK : Hid (C[k].1.length ≤ 100 → C[k].2.length ≤ 100 → ∀ j (hj : j < k + 1) (hj2 : j < C.length), C[j].1.length ≤ 100 ∧ C[j].2.length ≤ 100) := Lib.hid (fun a1 a2 j hj hj2 => by
            by_cases e : j < k
            · exact HIN.out j e hj2
            · obtain rfl : j = k := by omega
              exact ⟨a1, a2⟩)
          obtain ⟨x, hx⟩ : ∃ x, C[k].1 = x := ⟨_, rfl⟩
          obtain ⟨y, hy⟩ : ∃ y, C[k].2 = y := ⟨_, rfl⟩
          rw [hx] at m1
          rw [hy] at m2
          rw [hx, hy] at HKK
          have HLK := Lib.hid hlk
          clear hx hy hlk
          by_cases hx1 : 100 < x.length
          · have p1 : (100 : Int) < (x.length : Int) := by omega
            have p2 : decide ((100 : Int) < (x.length : Int)) = true := decide_eq_true p1
            clear hx1
            go_wp2
            go_ret
            exact ⟨true, rfl, rfl, fun h => by cases h⟩
          have p1 : ¬ ((100 : Int) < (x.length : Int)) := by omega
          have p2 : decide ((100 : Int) < (x.length : Int)) = false := decide_eq_false p1
          by_cases hy1 : 100 < y.length
          · have p3 : (100 : Int) < (y.length : Int) := by omega
            have p4 : decide ((100 : Int) < (y.length : Int)) = true := decide_eq_true p3
            clear hx1 hy1
            go_wp2
            go_ret
            exact ⟨true, rfl, rfl, fun h => by cases h⟩
          have p3 : ¬ ((100 : Int) < (y.length : Int)) := by omega
          have p4 : decide ((100 : Int) < (y.length : Int)) = false := decide_eq_false p3
          have HST := Lib.hid (HKK.out (by omega) (by omega))
          clear hx1 hy1
          go_wp2
          go_roundw
          case rel => exact ⟨trivial, k + 1, by have := HLK.out; omega, by go_num, HST.out⟩
          case measure => have := HLK.out; simp [intOf]; omega
        · obtain rfl : k = C.length := by omega
          have e1 : ¬ ((C.length : Int) < (C.length : Int)) := by omega
          have HFC : Hid (Ver.FitC C) := Lib.hid ⟨HC10.out, fun x hx => by
            obtain ⟨j, hj, rfl⟩ := List.mem_iff_getElem.1 hx
            exact HIN.out j hj hj⟩
          clear hlk
          go_wp2
          go_roundw
          case rel => exact ⟨trivial, i + 1, by have := HLT.out; omega, by go_num, HSTEP.out HFC.out⟩
          case measure => have := HLT.out; simp [intOf]; omega
    · obtain rfl : i = L.length := by omega
      have g1 : ¬ ((L.length : Int) < (L.length : Int)) := by omega
      have HFIT : Hid (Ver.Fit L) := Lib.hid ⟨HL10.out, fun a ha => by
        obtain ⟨j, hj, rfl⟩ := List.mem_iff_getElem.1 ha
        exact HALL.out j hj hj⟩
      clear hlt
      go_wp2
      go_ret
      exact ⟨false, rfl, rfl, fun _ => HFIT.out⟩
end Go.Proofs.YtjfefphgikncnaaGreatDoor
namespace Go.Proofs.YtjfefphgikncnaaGreatDoor
open Go.RowKit
open Sto (T St)
namespace Ver
def i1 : St := [([97], [49])]
def i2 : St := [([97], [50])]
def r1 : T := [179, 96, 70, 33, 115, 212, 72, 145, 239, 123, 146, 240, 71, 3, 73, 52, 245, 159, 167, 130, 109, 137, 73, 71, 223, 255, 148, 59, 122, 58, 38, 210]
def r2 : T := [213, 234, 176, 218, 212, 170, 0, 6, 9, 60, 154, 58, 74, 162, 209, 171, 124, 34, 137, 42, 156, 150, 138, 82, 206, 60, 51, 62, 110, 11, 13, 199]
def t1 : T := [1, 1, 2, 32, 97, 1, 1, 49]
def t2 : T := [1, 1, 2, 32, 97, 1, 1, 50]
theorem n1 : nodesS i1 = [t1] := by decide +kernel
theorem n2 : nodesS i2 = [t2] := by decide +kernel
theorem s1 : Sto.sumOf t1 = r1 := by decide +kernel
theorem s2 : Sto.sumOf t2 = r2 := by decide +kernel
theorem q1 : rootS i1 = r1 := by decide +kernel
theorem q2 : rootS i2 = r2 := by decide +kernel
theorem x1 : chsS [] i1 = i1 := by decide +kernel
theorem x2 : chsS i1 i2 = i2 := by decide +kernel
def k1 : M := ⟨[(1, i1)], 0, [(r1, t1)]⟩
def k2 : M := ⟨[(1, i1), (2, i2)], 0, [(r1, t1), (r2, t2)]⟩
def k3 : M := ⟨[(2, i2)], 2, [(r2, t2)]⟩
theorem c1 : M.zero.comC 1 i1 = 0 := by decide +kernel
theorem c2 : k1.comC 2 i2 = 0 := by decide +kernel
set_option maxRecDepth 100000 in
theorem m1 : M.zero.com 1 i1 = k1 := by
  unfold M.com
  rw [if_pos c1]
  show (⟨[] ++ [(1, chsS [] i1)], 0, putAll [] (nodesS (chsS [] i1))⟩ : M) = k1
  rw [x1, n1]
  show (⟨[(1, i1)], 0, Sto.put [] (Sto.sumOf t1) t1⟩ : M) = k1
  rw [s1]
  have e : Sto.put [] r1 t1 = [(r1, t1)] := by decide +kernel
  rw [e]
  rfl
set_option maxRecDepth 100000 in
theorem m2 : k1.com 2 i2 = k2 := by
  unfold M.com
  rw [if_pos c2]
  show (⟨[(1, i1)] ++ [(2, chsS i1 i2)], 0, putAll [(r1, t1)] (nodesS (chsS i1 i2))⟩ : M) = k2
  rw [x2, n2]
  have e0 : putAll [(r1, t1)] [t2] = Sto.put [(r1, t1)] (Sto.sumOf t2) t2 := rfl
  rw [e0, s2]
  have e : Sto.put [(r1, t1)] r2 t2 = [(r1, t1), (r2, t2)] := by decide +kernel
  rw [e]
  rfl
set_option maxRecDepth 100000 in
theorem m3 : k2.prune 2 = k3 := by
  unfold M.prune
  have e1 : upto k2.vs 2 k2.vs.length = [(2, i2)] := by decide +kernel
  rw [e1]
  show (⟨[(2, i2)], max 0 2, Sto.keepL k2.st [rootS i2]⟩ : M) = k3
  rw [q2]
  have e2 : Sto.keepL k2.st [r2] = [(r2, t2)] := by decide +kernel
  rw [e2]
  rfl
theorem o1 : M.zero.comR 1 i1 = r1 := by
  unfold M.comR
  rw [if_pos c1]
  show rootS (chsS [] i1) = r1
  rw [x1, q1]
theorem o2 : k1.comR 2 i2 = r2 := by
  unfold M.comR
  rw [if_pos c2]
  show rootS (chsS i1 i2) = r2
  rw [x2, q2]
theorem g2 : k2.Good := by rw [← m2, ← m1]; exact (M.Good.zero.com 1 i1).com 2 i2
theorem no12 : ¬ Clash ([t1] ++ [t2]) := by
  rintro ⟨s, hs, t, ht, h1, h2⟩
  simp only [List.cons_append, List.nil_append, List.mem_cons, List.not_mem_nil, or_false] at hs ht
  have hr : r1 ≠ r2 := by decide
  rcases hs with rfl | rfl <;> rcases ht with rfl | rfl
  · exact h1 rfl
  · rw [s1, s2] at h2; exact hr h2
  · rw [s1, s2] at h2; exact hr h2.symm
  · exact h1 rfl
theorem no0 : ¬ Clash [] := by
  rintro ⟨s, hs, _⟩
  cases hs
theorem no1 : ¬ Clash ([] ++ [t1]) := by
  rintro ⟨s, hs, t, ht, h1, _⟩
  simp only [List.nil_append, List.mem_cons, List.not_mem_nil, or_false] at hs ht
  exact h1 (hs.trans ht.symm)
theorem h1 : k1.Has ([] ++ [t1]) := by
  have a1 := M.Has.zero.com c1
  rw [m1] at a1
  have e1 : nodesS (chsS M.zero.top i1) = [t1] := by
    show nodesS (chsS [] i1) = [t1]
    rw [x1, n1]
  rw [e1] at a1
  exact a1
theorem h2 : k2.Has ([t1] ++ [t2]) := by
  have a1 := M.Has.zero.com c1
  rw [m1] at a1
  have a2 := a1.com c2
  rw [m2] at a2
  have e1 : nodesS (chsS M.zero.top i1) = [t1] := by
    show nodesS (chsS [] i1) = [t1]
    rw [x1, n1]
  have e2 : nodesS (chsS k1.top i2) = [t2] := by
    show nodesS (chsS i1 i2) = [t2]
    rw [x2, n2]
  rw [e1, e2] at a2
  exact a2
theorem h3 : k3.Has ([t1] ++ [t2]) := by rw [← m3]; exact h2.prune g2 2
theorem g3 : k3.Good := by rw [← m3]; exact g2.prune 2
theorem f1 : k2.find 1 = some i1 := by decide +kernel
theorem f2 : k3.find 1 = none := by decide +kernel
theorem f3 : k3.find 2 = some i2 := by decide +kernel
theorem f4 : k3.findC 1 = 120 := by decide +kernel
/-- What is loaded where no two texts clash. -/
theorem load_one {m : M} {C : List T} (h : m.Has C) (g : m.Good) (hn : ¬ Clash C) {x : Int × St} (hx : x ∈ m.vs) {w w' : World} {e : Ending} (hp : LoadPost m.st (rootS x.2) w e w') :
    ∃ gt, e = .returned (.tuple #[ptr gt, .int .i64 0]) ∧ TrAt w' gt x.2 ∧ Below w.heap.size w w' := by
  obtain ⟨z, c, rfl, hb, ⟨rfl, gt, S, t, rfl, h1, h2, h3, h4⟩ | ⟨_, _, hbad⟩⟩ := hp
  · have e1 := h.load g hn hx h2 h3 h4
    subst e1
    exact ⟨gt, rfl, h1, hb⟩
  · obtain ⟨S, t, h1, h2, h3⟩ := h.loads g hn hx
    exact (hbad S t h1 h2 h3).elim
end Ver

theorem height_at (m : Ver.M) (i : Nat) (h : i < m.vs.length) : (m.vs.map (·.1))[i]'(by rw [List.length_map]; exact h) = m.vs[i].1 := List.getElem_map ..
theorem one_items (w : World) (x y : T) : ItLo (w.alloc (.cells #[.string ⟨x.toArray⟩, .string ⟨y.toArray⟩] 39)) (.slice (some ⟨w.heap.size, 0, none⟩) 1 1) [(x, y)] :=
  ItLo.of_at (OwnI.at_ (B := w.heap.size) ⟨rfl, Or.inr ⟨w.heap.size, 1, _, rfl, Nat.le_refl _, heap_alloc_new w _, by simp, by simp [maxLen], rfl, rfl⟩⟩)
/-- Behind New: all that lay stays. -/
theorem next_below {VAt : World → (Nat → Prop) → Nat → Ver.M → Prop} {w w' : World} {F : Nat → Prop} {v B : Nat} {m : Ver.M} (h : VNext VAt w F v m w') (hF : ∀ k, F k → B ≤ k) (hB : B ≤ w.heap.size) : Below B w w' := by
  obtain ⟨F', _, ho, _, _⟩ := h
  exact ho.below hF hB
set_option maxRecDepth 100000 in
set_option maxHeartbeats 4000000 in
theorem vworks_any {VAt : World → (Nat → Prop) → Nat → Ver.M → Prop} (HV : VerOkL VAt) (w : World) (hT : Tab w) : Calls Tryz.prog 9 #[] w fun e w' => e = .returned (.bool true) ∧ Below w.heap.size w w' := by
  have HNW := Lib.hid (HV.new w hT)
  have HT := Lib.hid hT
  have HV := Lib.hid HV
  clear hT
  go_enter Tryz.func9, Tryz.ntmps9
  go_wp2_with fail
  refine HNW.out.mono ?_
  rintro e w1 ⟨v, F1, rfl, hv1, hF1, hb1⟩
  have HB1 := Lib.hid hb1
  have HV1 := Lib.hid hv1
  have HF1 := Lib.hid hF1
  have HT1 := Lib.hid (HT.out.below hb1)
  clear hv1 hF1 hb1
  unfold ptr
  go_wp2_with fail
  have HA1 : Hid (Below w1.heap.size w1 (w1.alloc (.cells #[.string ⟨#[97]⟩, .string ⟨#[49]⟩] 39))) := Lib.hid ((Below.refl _ w1).alloc (Nat.le_refl _) _)
  have HC1 : Hid (Calls Tryz.prog 14 #[ptr v, .int .i64 1, .slice (some ⟨w1.heap.size, 0, none⟩) 1 1] (w1.alloc (.cells #[.string ⟨#[97]⟩, .string ⟨#[49]⟩] 39)) fun e w' => e = .returned (.tuple #[.string ⟨Ver.r1.toArray⟩, .int .i64 0]) ∧ VNext VAt (w1.alloc (.cells #[.string ⟨#[97]⟩, .string ⟨#[49]⟩] 39)) F1 v Ver.k1 w') := Lib.hid ((HV.out.commitL 1 _ Ver.i1 (HV.out.keep HV1.out HA1.out) (HT1.out.below HA1.out) (one_items w1 [97] [49]) (by decide) (by decide) (by decide) (by decide)).mono fun e w' ⟨m', c, r, hk, h1, h2⟩ => by
    obtain ⟨e1, e2, e3⟩ := hk.exact_ Ver.M.Has.zero Ver.no0 Ver.c1
    subst e1 e2 e3
    rw [Ver.o1] at h1
    rw [Ver.m1] at h2
    exact ⟨h1, h2⟩)
  unfold ptr at HC1
  refine HC1.out.mono ?_
  rintro e w2 ⟨rfl, hn2⟩
  have hb2 := next_below hn2 (B := w.heap.size) HF1.out (Nat.le_trans HB1.out.size HA1.out.size)
  have HB2 : Hid (Below w.heap.size w w2) := Lib.hid ((bchain HB1.out HA1.out).trans hb2)
  obtain ⟨F2, hv2, -, hf2, ht2⟩ := hn2
  have HF2 : Hid (∀ k, F2 k → w.heap.size ≤ k) := Lib.hid (fun k hk => by
    rcases hf2 k hk with h | h
    · exact HF1.out k h
    · exact Nat.le_trans HB1.out.size (Nat.le_trans HA1.out.size h))
  have HV2 := Lib.hid hv2
  have HT2 := Lib.hid ht2
  have HA2 : Hid (Below w2.heap.size w2 (w2.alloc (.cells #[.string ⟨#[97]⟩, .string ⟨#[50]⟩] 39))) := Lib.hid ((Below.refl _ w2).alloc (Nat.le_refl _) _)
  have HC2 : Hid (Calls Tryz.prog 14 #[ptr v, .int .i64 2, .slice (some ⟨w2.heap.size, 0, none⟩) 1 1] (w2.alloc (.cells #[.string ⟨#[97]⟩, .string ⟨#[50]⟩] 39)) fun e w' => e = .returned (.tuple #[.string ⟨Ver.r2.toArray⟩, .int .i64 0]) ∧ VNext VAt (w2.alloc (.cells #[.string ⟨#[97]⟩, .string ⟨#[50]⟩] 39)) F2 v Ver.k2 w') := Lib.hid ((HV.out.commitL 2 _ Ver.i2 (HV.out.keep HV2.out HA2.out) (HT2.out.below HA2.out) (one_items w2 [97] [50]) (by decide) (by decide) (by decide) (by decide)).mono fun e w' ⟨m', c, r, hk, h1, h2⟩ => by
    obtain ⟨e1, e2, e3⟩ := hk.exact_ Ver.h1 Ver.no1 Ver.c2
    subst e1 e2 e3
    rw [Ver.o2] at h1
    rw [Ver.m2] at h2
    exact ⟨h1, h2⟩)
  unfold ptr at HC2
  clear hv2 hf2 ht2 hb2
  go_wp2_with fail
  refine HC2.out.mono ?_
  rintro e w3 ⟨rfl, hn3⟩
  have hb3 := next_below hn3 (B := w.heap.size) HF2.out (Nat.le_trans HB2.out.size HA2.out.size)
  have HB3 : Hid (Below w.heap.size w w3) := Lib.hid ((bchain HB2.out HA2.out).trans hb3)
  obtain ⟨F3, hv3, -, hf3, ht3⟩ := hn3
  have HF3 : Hid (∀ k, F3 k → w.heap.size ≤ k) := Lib.hid (fun k hk => by
    rcases hf3 k hk with h | h
    · exact HF2.out k h
    · exact Nat.le_trans HB2.out.size (Nat.le_trans HA2.out.size h))
  have HV3 := Lib.hid hv3
  have HT3 := Lib.hid ht3
  have HAT1 : Hid (Calls Tryz.prog 18 #[ptr v, .int .i64 1] w3 fun e w' => ∃ gt, e = .returned (.tuple #[ptr gt, .int .i64 0]) ∧ TrAt w' gt Ver.i1 ∧ Below w3.heap.size w3 w') := Lib.hid ((HV.out.at_ 1 (by decide) (by decide) hv3).mono fun e w' h => by
    unfold AtPost at h
    rw [Ver.f1] at h
    exact Ver.load_one Ver.h2 Ver.g2 Ver.no12 (x := (1, Ver.i1)) (List.mem_cons_self ..) h)
  unfold ptr at HAT1
  clear hv3 hf3 ht3 hb3 HC1 HC2 HNW
  go_wp2_with fail
  refine HAT1.out.mono ?_
  rintro e w4 ⟨gt, rfl, tt4, hb4⟩
  have HB4 := Lib.hid (bchain HB3.out hb4)
  have HV4 := Lib.hid (HV.out.keep HV3.out hb4)
  have HT4 := Lib.hid (HT3.out.below hb4)
  have HK4 := Lib.hid hb4
  have HTT := Lib.hid (sroot_any w4 tt4)
  rw [Ver.q1] at HTT
  unfold ptr at HTT
  have e1 : (Ver.r1 == Ver.r2) = false := by decide
  have e2 : (Ver.r1 == Ver.r1) = true := by decide
  have e3 : (Ver.r1 != Ver.r1) = false := by decide
  have e4 : (Ver.r2 == Ver.r2) = true := by decide
  clear tt4 hb4
  go_wp2_with fail
  refine HTT.out.mono ?_
  rintro e w5 ⟨rfl, hb5⟩
  have HB5 := Lib.hid (bchain HB4.out hb5)
  have HPR := Lib.hid (HV.out.prune 2 (HV.out.keep HV4.out hb5) (HT4.out.below hb5) (by decide) (by decide))
  rw [Ver.m3] at HPR
  have e5 : ((Ver.k2.vs.length - Ver.k3.vs.length : Nat) : Int) = 1 := by decide
  rw [e5] at HPR
  unfold ptr at HPR
  have HK5 := Lib.hid (bchain HK4.out hb5)
  clear hb5 e5
  go_wp2_with fail
  refine HPR.out.mono ?_
  rintro e w6 ⟨rfl, hn6⟩
  have hb6 := next_below hn6 (B := w.heap.size) HF3.out HB5.out.size
  have HB6 := Lib.hid (HB5.out.trans hb6)
  obtain ⟨F6, hv6, -, -, ht6⟩ := hn6
  have HV6 := Lib.hid hv6
  have HAT2 : Hid (Calls Tryz.prog 18 #[ptr v, .int .i64 1] w6 fun e w' => e = .returned (.tuple #[nilp, .int .i64 120]) ∧ Below w6.heap.size w6 w') := Lib.hid ((HV.out.at_ 1 (by decide) (by decide) hv6).mono fun e w' h => by
    unfold AtPost at h
    rw [Ver.f2, Ver.f4] at h
    exact h)
  unfold ptr nilp at HAT2
  clear hv6 hb6 ht6
  go_wp2_with fail
  refine HAT2.out.mono ?_
  rintro e w7 ⟨rfl, hb7⟩
  have HB7 := Lib.hid (bchain HB6.out hb7)
  have HV7 := Lib.hid (HV.out.keep HV6.out hb7)
  have HAT3 : Hid (Calls Tryz.prog 18 #[ptr v, .int .i64 2] w7 fun e w' => ∃ gt, e = .returned (.tuple #[ptr gt, .int .i64 0]) ∧ TrAt w' gt Ver.i2 ∧ Below w7.heap.size w7 w') := Lib.hid ((HV.out.at_ 2 (by decide) (by decide) HV7.out).mono fun e w' h => by
    unfold AtPost at h
    rw [Ver.f3] at h
    exact Ver.load_one Ver.h3 Ver.g3 Ver.no12 (x := (2, Ver.i2)) (List.mem_cons_self ..) h)
  unfold ptr at HAT3
  clear hb7
  go_wp2_with fail
  refine HAT3.out.mono ?_
  rintro e w8 ⟨gu, rfl, tt8, hb8⟩
  have HB8 := Lib.hid (bchain HB7.out hb8)
  have HV8 := Lib.hid (HV.out.keep HV7.out hb8)
  have HTU := Lib.hid (sroot_any w8 tt8)
  rw [Ver.q2] at HTU
  unfold ptr at HTU
  clear tt8 hb8
  go_wp2_with fail
  refine HTU.out.mono ?_
  rintro e w9 ⟨rfl, hb9⟩
  have HB9 := Lib.hid (bchain HB8.out hb9)
  have HTX := Lib.hid (HV.out.texts (HV.out.keep HV8.out hb9) (by decide))
  have e6 : ((Ver.k3.st.length : Nat) : Int) = 1 := by decide
  rw [e6] at HTX
  unfold ptr at HTX
  clear hb9 e6
  go_wp2_with fail
  refine HTX.out.mono ?_
  rintro e w10 ⟨rfl, hb10⟩
  go_wp2
  go_ret
  exact ⟨rfl, bchain HB9.out hb10⟩
end Go.Proofs.YtjfefphgikncnaaGreatDoor
namespace Go.Proofs.YtjfefphgikncnaaGreatDoor
open Go.RowKit
open Sto (T St)

theorem keyI (h : Int) (hw : (Lit.int .i64 h).wf = true) : ∃ l, keyOf Tryz.prog 3 (.int .i64 h) = some l := ⟨_, Go.Maps.keyOf_int_mk Tryz.underlying3 hw⟩
def wasMap : MapLaw Tryz.prog 3 Int Nat := ⟨fun h => .int .i64 h, fun g => ptr g, fun h => (Lit.int .i64 h).wf = true, Go.Maps.int_keyed Tryz.underlying3, keyI, fun _ _ h => by injection h⟩
set_option maxRecDepth 100000 in
theorem zeroTrie (w : World) : (zeroValue 29).run Tryz.prog w = .ok (.pointer none) w := by kernel_rfl
/-- The map in block b has, for each of the versions, its trie. -/
def WasAt (w : World) (b : Nat) (L : List (Int × St)) : Prop := ∃ f, FnAt wasMap w b f ∧ ∀ x ∈ L, ∃ g, f x.1 = some g ∧ TrAt w g x.2
theorem WasAt.made (w : World) (b : Nat) (h : b = w.heap.size) : WasAt (w.alloc (.map #[] 0)) b [] := ⟨_, FnAt.made wasMap w b h, fun x hx => by cases hx⟩
theorem WasAt.lt {w : World} {b : Nat} {L : List (Int × St)} (h : WasAt w b L) : b < w.heap.size := by
  obtain ⟨f, h1, _⟩ := h
  exact h1.lt
theorem WasAt.no_cells {w : World} {b : Nat} {L : List (Int × St)} (h : WasAt w b L) (cs : Array Value) (t : TypeId) (fr : Nat × Nat) : w.heap[b]? ≠ some (.cells cs t fr) := by
  obtain ⟨f, h1, _⟩ := h
  exact h1.no_cells b cs t fr rfl
theorem WasAt.outB {F : Nat → Prop} {w w' : World} {b : Nat} {L : List (Int × St)} (h : WasAt w b L) (ho : Out F w w') (hb : ¬ F b) (hF : ∀ k, F k → ∀ cs t f, w.heap[k]? = some (.cells cs t f) → t ≠ 99 ∧ t ≠ 82) : WasAt w' b L := by
  obtain ⟨f, h1, h2⟩ := h
  exact ⟨f, h1.out ho hb, fun x hx => let ⟨g, e, ht⟩ := h2 x hx; ⟨g, e, ht.outB ho hF⟩⟩
theorem WasAt.below {w w' : World} {b : Nat} {L : List (Int × St)} (h : WasAt w b L) (hb : Below w.heap.size w w') : WasAt w' b L := h.outB (F := fun _ => False) (Out.of hb) id (fun _ hk => hk.elim)
theorem WasAt.sub {w : World} {b : Nat} {L M : List (Int × St)} (h : WasAt w b L) (hs : ∀ x ∈ M, x ∈ L) : WasAt w b M := by
  obtain ⟨f, h1, h2⟩ := h
  exact ⟨f, h1, fun x hx => h2 x (hs x hx)⟩
/-- The newest version's trie is put. -/
theorem WasAt.put {w : World} {b g : Nat} {L : List (Int × St)} {h : Int} {S : St} (hw : WasAt w b L) (hh : (Lit.int .i64 h).wf = true) (hL : ∀ x ∈ L, x.1 < h) (ht : TrAt w g S) :
    ∃ w', (Instr.mapUpdate 27 (.map (some b)) (.int .i64 h) (.pointer (some ⟨g, 0, none⟩))).run Tryz.prog w = .ok () w' ∧ WasAt w' b (L ++ [(h, S)]) ∧ Out (fun i => i = b) w w' := by
  have hnc := hw.no_cells
  obtain ⟨f, h1, h2⟩ := hw
  obtain ⟨w', r1, r2, r3, _⟩ := h1.put Tryz.underlying27 (s := h) hh g
  have hF : ∀ k, (fun i => i = b) k → ∀ cs t f, w.heap[k]? = some (.cells cs t f) → t ≠ 99 ∧ t ≠ 82 := fun k hk cs t f e => absurd (by rw [← show k = b from hk]; exact e) (hnc cs t f)
  refine ⟨w', r1, ⟨_, r2, fun x hx => ?_⟩, r3⟩
  rcases List.mem_append.1 hx with hx | hx
  · obtain ⟨g', e, ht'⟩ := h2 x hx
    have hne : x.1 ≠ h := by have := hL x hx; omega
    exact ⟨g', by rw [updF_other _ _ _ _ hne]; exact e, ht'.outB r3 hF⟩
  · rw [List.mem_singleton.1 hx]
    exact ⟨g, updF_same .., ht.outB r3 hF⟩
theorem WasAt.look {w : World} {b : Nat} {L : List (Int × St)} (h : WasAt w b L) {x : Int × St} (hx : x ∈ L) (hw : (Lit.int .i64 x.1).wf = true) :
    ∃ g, (Instr.lookup 27 (.map (some b)) (.int .i64 x.1) false).run Tryz.prog w = .ok (.pointer (some ⟨g, 0, none⟩)) w ∧ TrAt w g x.2 := by
  obtain ⟨f, h1, h2⟩ := h
  obtain ⟨g, e, ht⟩ := h2 x hx
  have := h1.look Tryz.underlying27 (s := x.1) hw false (zeroTrie w)
  rw [e] at this
  exact ⟨g, this, ht⟩
/-- The law's own trie with a change. -/
def withC (S : St) (x : T × T) : Nat := if x.2 = [] then (Tri.getC S x.1).2 else Tri.putC S x.1 x.2
theorem withC_go {S : St} {x : T × T} (h : withC S x ≠ 0) (hc : Ver.chC S x = 0) : Ver.chS S x = S := by
  unfold withC at h
  unfold Ver.chC at hc
  unfold Ver.chS
  by_cases hx : x.2 = []
  · rw [if_pos hx] at h ⊢
    rw [if_neg h]
  · rw [if_neg hx] at h hc
    exact absurd hc h
set_option maxRecDepth 100000 in
set_option maxHeartbeats 2000000 in
theorem vwith_any {g : Nat} {S : St} (x : T × T) (w : World) (h : TrAt w g S) (hT : Tab w) :
    Calls Tryz.prog 15 #[.pointer (some ⟨g, 0, none⟩), .agg #[.string ⟨x.1.toArray⟩, .string ⟨x.2.toArray⟩]] w fun e w' => ∃ z, e = .returned (.tuple #[z, .int .i64 (withC S x)]) ∧ (withC S x = 0 → ∃ g', z = .pointer (some ⟨g', 0, none⟩) ∧ TrAt w' g' (Ver.chS S x)) ∧ (withC S x ≠ 0 → z = .pointer none) ∧ Below w.heap.size w w' := by
  obtain ⟨k, y⟩ := x
  dsimp only
  have hA : Below w.heap.size w (w.alloc (.cells #[.string ⟨k.toArray⟩, .string ⟨y.toArray⟩] 39)) := (Below.refl _ w).alloc (Nat.le_refl _) _
  have HA := Lib.hid hA
  have ra := heap_alloc_new w (.cells #[.string ⟨k.toArray⟩, .string ⟨y.toArray⟩] 39)
  have a0 : (w.alloc (.cells #[.string ⟨k.toArray⟩, .string ⟨y.toArray⟩] 39)).cell? ⟨w.heap.size, 0, none⟩ = some (.string ⟨k.toArray⟩) := by rw [cell_of_row _ _ 0 _ _ _ ra]; rfl
  have a1 : (w.alloc (.cells #[.string ⟨k.toArray⟩, .string ⟨y.toArray⟩] 39)).cell? ⟨w.heap.size, 1, none⟩ = some (.string ⟨y.toArray⟩) := by rw [cell_of_row _ _ 1 _ _ _ ra]; rfl
  by_cases hy : y = []
  · subst hy
    have HD := Lib.hid (tdel_any k _ (h.below hA) (hT.below hA))
    unfold TDelPost at HD
    have e1 : withC S (k, []) = (Tri.getC S k).2 := by simp [withC]
    have HCS : Hid ((Tri.getC S k).2 = 0 → Ver.chS S (k, []) = Tri.del S k) := Lib.hid (fun h => by simp [Ver.chS, h])
    rw [e1]
    obtain ⟨c, hc⟩ : ∃ c, (Tri.getC S k).2 = c := ⟨_, rfl⟩
    rw [hc] at HD HCS ⊢
    unfold ptr nilp at HD
    clear e1 hc hT h ra
    go_enter Tryz.func15, Tryz.ntmps15
    go_wp2_with fail
    refine HD.out.mono ?_
    rintro e w1 ⟨z, rfl, h1, h2, hb1⟩
    have H1 : Hid (c = 0 → ∃ g', z = .pointer (some ⟨g', 0, none⟩) ∧ TrAt w1 g' (Ver.chS S (k, []))) := Lib.hid (fun e => by rw [HCS.out e]; exact h1 e)
    have H2 := Lib.hid h2
    have HB1 := Lib.hid (bchain HA.out hb1)
    clear h1 h2 hb1
    go_wp2
    go_ret2
    exact ⟨z, rfl, H1.out, H2.out, HB1.out⟩
  · have HD := Lib.hid (tput_any k y _ (h.below hA) (hT.below hA))
    unfold TPutPost at HD
    have e1 : withC S (k, y) = Tri.putC S k y := by simp [withC, hy]
    have e2 : Ver.chS S (k, y) = Tri.put S k y := by simp [Ver.chS, hy]
    rw [e1, e2]
    obtain ⟨c, hc⟩ : ∃ c, Tri.putC S k y = c := ⟨_, rfl⟩
    rw [hc] at HD ⊢
    have q1 : (y == []) = false := beq_eq_false_iff_ne.2 hy
    have q2 : y.isEmpty = false := by cases y <;> simp_all
    unfold ptr nilp at HD
    clear e1 e2 hc hT h ra hy
    go_enter Tryz.func15, Tryz.ntmps15
    go_wp2_with fail
    refine HD.out.mono ?_
    rintro e w1 ⟨z, rfl, h1, h2, hb1⟩
    have H1 := Lib.hid h1
    have H2 := Lib.hid h2
    have HB1 := Lib.hid (bchain HA.out hb1)
    clear h1 h2 hb1
    go_wp2
    go_ret2
    exact ⟨z, rfl, H1.out, H2.out, HB1.out⟩
end Go.Proofs.YtjfefphgikncnaaGreatDoor
namespace Go.Proofs.YtjfefphgikncnaaGreatDoor
open Sto (T St)

theorem reach_set {S : St} {l k : List T} (h : ∀ x, x ∈ l → x ∈ k) {x : T} (hr : Sto.Reach S l x) : Sto.Reach S k x := by
  induction hr with
  | here h1 h2 => exact .here (h _ h1) h2
  | step _ h2 h3 h4 ih => exact .step ih h2 h3 h4
theorem keepL_set {S : St} (hS : Sto.Rising S) {l k : List T} (h : ∀ x, x ∈ l ↔ x ∈ k) : Sto.keepL S l = Sto.keepL S k := by
  unfold Sto.keepL
  refine List.filter_congr fun a _ => decide_eq_decide.2 ?_
  rw [Sto.reachL_mem hS, Sto.reachL_mem hS]
  exact ⟨reach_set fun x => (h x).1, reach_set fun x => (h x).2⟩
namespace Ver
def M.last (m : M) : Option Int := m.vs.getLast?.map (·.1)
theorem find_iff {m : M} (g : m.Good) {x : Int} {I : St} : m.find x = some I ↔ (x, I) ∈ m.vs := ⟨M.find_mem, fun h => M.find_of g h⟩
theorem find_comI {m : M} {h : Int} {C I : St} (h3 : ∀ x ∈ m.vs, x.1 < h) (x : Int) : (m.comI h C I).find x = if x = h then some (chsS I C) else m.find x := by
  unfold M.comI M.find
  simp only [List.find?_append]
  by_cases e : x = h
  · rw [if_pos e]
    have hn : m.vs.find? (fun y => decide (y.1 = x)) = none := List.find?_eq_none.2 fun y hy => by
      have := h3 y hy
      simp
      omega
    rw [hn]
    simp [e]
  · rw [if_neg e]
    have e2 : ¬ (h = x) := fun e3 => e e3.symm
    cases m.vs.find? (fun y => decide (y.1 = x)) with
    | none => simp [e2]
    | some y => simp
theorem last_comI {m : M} {h : Int} {C I : St} : (m.comI h C I).last = some h := by
  unfold M.comI
  simp [M.last]
/-- The newest version's height, and what stands for it where there is none. -/
def M.newest (m : M) : Int := m.last.getD (-9223372036854775808)
theorem newest_comI {m : M} {h : Int} {C I : St} : (m.comI h C I).newest = h := by
  unfold M.newest
  rw [last_comI]; rfl
theorem last_at {m : M} {x : Int} : m.last = some x ↔ ∃ h : 0 < m.vs.length, (m.vs[m.vs.length - 1]'(by omega)).1 = x := by
  unfold M.last
  rw [List.getLast?_eq_getElem?]
  by_cases h : 0 < m.vs.length
  · rw [List.getElem?_eq_getElem (by omega)]
    simp only [Option.map_some, Option.some.injEq]
    exact ⟨fun e => ⟨h, e⟩, fun ⟨_, e⟩ => e⟩
  · rw [List.getElem?_eq_none (by omega)]
    simp [h]
theorem find_prune {m : M} (g : m.Good) (b x : Int) : (m.prune b).find x = if x < b ∧ m.last ≠ some x then none else m.find x := by
  cases hf : m.find x with
  | none =>
    have : (m.prune b).find x = none := M.find_none fun y hy e => by
      have h1 := (upto_sub m.vs b).subset hy
      have h2 := M.find_of g h1
      rw [e, hf] at h2
      cases h2
    rw [this]
    split <;> rfl
  | some I =>
    obtain ⟨i, hi, hie⟩ := List.mem_iff_getElem.1 (M.find_mem hf)
    have hx : m.vs[i].1 = x := by rw [hie]
    have hI : m.vs[i].2 = I := by rw [hie]
    have h1 := prune_find g b hi
    rw [hx, hI] at h1
    rw [h1]
    by_cases hs : stay m.vs b i = true
    · rw [if_pos hs, if_neg]
      rintro ⟨h2, h3⟩
      rcases (stay_iff hi).1 hs with h4 | h4
      · rw [hx] at h4; omega
      · exact h3 (last_at.2 ⟨by omega, by simp only [show m.vs.length - 1 = i from by omega]; exact hx⟩)
    · rw [if_neg hs, if_pos]
      have h2 : ¬ (b ≤ m.vs[i].1 ∨ i + 1 = m.vs.length) := fun e => hs ((stay_iff hi).2 e)
      refine ⟨by rw [hx] at h2; omega, fun e => h2 (Or.inr ?_)⟩
      obtain ⟨h3, h4⟩ := last_at.1 e
      have := rise_inj g.rise hi (j := m.vs.length - 1) (by omega) (by rw [hx, h4])
      omega
theorem last_prune (m : M) (b : Int) : (m.prune b).last = m.last := by
  unfold M.last M.prune
  simp only [last_upto]
/-- Nothing of a height that is not less is there: what Commit asks, by the newest height alone. -/
theorem above_last {m : M} (g : m.Good) (h : Int) : (∃ x ∈ m.vs, h ≤ x.1) ↔ ∃ y, m.last = some y ∧ h ≤ y := by
  constructor
  · rintro ⟨x, hx, hle⟩
    obtain ⟨i, hi, rfl⟩ := List.mem_iff_getElem.1 hx
    refine ⟨_, last_at.2 ⟨by omega, rfl⟩, ?_⟩
    rcases Nat.lt_or_ge i (m.vs.length - 1) with h1 | h1
    · have := List.pairwise_iff_getElem.1 g.rise i (m.vs.length - 1) hi (by omega) h1
      omega
    · have e : i = m.vs.length - 1 := by omega
      subst e
      exact hle
  · rintro ⟨y, hy, hle⟩
    obtain ⟨h1, h2⟩ := last_at.1 hy
    exact ⟨_, List.getElem_mem (show m.vs.length - 1 < m.vs.length by omega), by rw [h2]; exact hle⟩
end Ver
end Go.Proofs.YtjfefphgikncnaaGreatDoor
namespace Go.Proofs.YtjfefphgikncnaaGreatDoor
open Go.RowKit
open Sto (T St)

/-- A version's own struct: its root alone. -/
def rval (r : T) : Value := .agg #[.string ⟨r.toArray⟩]
def rootsMap : MapLaw Tryz.prog 3 Int T := ⟨fun h => .int .i64 h, rval, fun h => (Lit.int .i64 h).wf = true, Go.Maps.int_keyed Tryz.underlying3, keyI, fun _ _ h => by injection h⟩
set_option maxRecDepth 100000 in
theorem zeroRoot (w : World) : (zeroValue 84).run Tryz.prog w = .ok (rval []) w := by kernel_rfl
/-- The map in block b has each version's root. -/
def RootsAt (w : World) (b : Nat) (m : Ver.M) : Prop := FnAt rootsMap w b fun h => (m.find h).map rootS
theorem RootsAt.made (w : World) (b : Nat) (h : b = w.heap.size) : RootsAt (w.alloc (.map #[] 0)) b .zero := FnAt.made rootsMap w b h
theorem RootsAt.out {F : Nat → Prop} {w w' : World} {b : Nat} {m : Ver.M} (h : RootsAt w b m) (ho : Out F w w') (hF : ¬ F b) : RootsAt w' b m := FnAt.out h ho hF
theorem findR_eq (m : Ver.M) (x : Int) : (((m.find x).map rootS).map rootsMap.val).getD (rval []) = rval (m.findR x) := by
  unfold Ver.M.findR
  cases m.find x <;> rfl
theorem RootsAt.look {w : World} {b : Nat} {m : Ver.M} (h : RootsAt w b m) (x : Int) (hx : (Lit.int .i64 x).wf = true) :
    (Instr.lookup 77 (.map (some b)) (.int .i64 x) true).run Tryz.prog w = .ok (.tuple #[.agg #[.string ⟨(m.findR x).toArray⟩], .bool (m.find x).isSome]) w := by
  have := FnAt.look h Tryz.underlying77 (s := x) hx true (zeroRoot w)
  have e2 : ((m.find x).map rootS).isSome = (m.find x).isSome := by cases m.find x <;> rfl
  rw [findR_eq, e2] at this
  exact this
theorem RootsAt.put {w : World} {b : Nat} {m : Ver.M} {x : Int} {C I : St} (h : RootsAt w b m) (hc : m.comCI x C I = 0) :
    ∃ w', (Instr.mapUpdate 77 (.map (some b)) (.int .i64 x) (.agg #[.string ⟨(rootS (Ver.chsS I C)).toArray⟩])).run Tryz.prog w = .ok () w' ∧ RootsAt w' b (m.comI x C I) ∧ Out (fun i => i = b) w w' := by
  obtain ⟨h1, h2, h3, _⟩ := Ver.M.comCI_zero hc
  obtain ⟨w', r1, r2, r3, _⟩ := FnAt.put h Tryz.underlying77 (s := x) (wf_height ⟨h1, h2⟩) (rootS (Ver.chsS I C))
  refine ⟨w', r1, FnAt.congr r2 fun s => ?_, r3⟩
  rw [Ver.find_comI h3]
  unfold updF
  split <;> rfl
end Go.Proofs.YtjfefphgikncnaaGreatDoor
