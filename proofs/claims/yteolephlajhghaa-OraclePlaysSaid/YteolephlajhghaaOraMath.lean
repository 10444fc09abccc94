/- Signatures as lists in order: plain functions and what follows. -/
import Derived.KernelRfl
namespace Go.Proofs.Yteolephlajhghaa
namespace Ora

abbrev K := List UInt8 × List UInt8
abbrev Sig := K × Bool
def kLt (a b : K) : Bool := decide (a.1 < b.1) || (decide (a.1 = b.1) && decide (a.2 < b.2))
theorem kLt_iff (a b : K) : kLt a b = true ↔ a.1 < b.1 ∨ (a.1 = b.1 ∧ a.2 < b.2) := by simp [kLt]
theorem kLt_irrefl (a : K) : kLt a a = false := by
  cases h : kLt a a with
  | false => rfl
  | true =>
    rcases (kLt_iff a a).1 h with h | ⟨_, h⟩
    · exact absurd h (List.lt_irrefl _)
    · exact absurd h (List.lt_irrefl _)
theorem kLt_trans {a b c : K} (h : kLt a b = true) (k : kLt b c = true) : kLt a c = true := by
  rw [kLt_iff] at *
  rcases h with h | ⟨h1, h2⟩
  · rcases k with k | ⟨k1, k2⟩
    · exact Or.inl (List.lt_trans h k)
    · exact Or.inl (k1 ▸ h)
  · rcases k with k | ⟨k1, k2⟩
    · exact Or.inl (h1 ▸ k)
    · exact Or.inr ⟨h1.trans k1, List.lt_trans h2 k2⟩
theorem kLt_ne {a b : K} (h : kLt a b = true) : a ≠ b := by
  rintro rfl
  rw [kLt_irrefl] at h; cases h
theorem kLt_asymm {a b : K} (h : kLt a b = true) : kLt b a = false := by
  cases k : kLt b a with
  | false => rfl
  | true => exact absurd rfl (kLt_ne (kLt_trans h k))
theorem tri (x y : List UInt8) : x < y ∨ x = y ∨ y < x := by
  by_cases h : x < y
  · exact Or.inl h
  · rcases List.le_iff_lt_or_eq.1 (List.not_lt.1 h) with h | h
    · exact Or.inr (Or.inr h)
    · exact Or.inr (Or.inl h.symm)
theorem kLt_total {a b : K} (h : kLt a b = false) (hn : a ≠ b) : kLt b a = true := by
  rw [kLt_iff]
  have h' : ¬ (a.1 < b.1 ∨ (a.1 = b.1 ∧ a.2 < b.2)) := fun k => by rw [(kLt_iff a b).2 k] at h; cases h
  rcases tri a.1 b.1 with h1 | h1 | h1
  · exact absurd (Or.inl h1) h'
  · rcases tri a.2 b.2 with h2 | h2 | h2
    · exact absurd (Or.inr ⟨h1, h2⟩) h'
    · exact absurd (Prod.ext h1 h2) hn
    · exact Or.inr ⟨h1.symm, h2⟩
  · exact Or.inl h1

def look : List Sig → K → Option Bool
  | [], _ => none
  | a :: r, k => if k = a.1 then some a.2 else look r k
def put : List Sig → K → Bool → List Sig
  | [], k, h => [(k, h)]
  | a :: r, k, h => if k = a.1 then (k, a.2 && h) :: r else if kLt k a.1 then (k, h) :: a :: r else a :: put r k h
def Rising (S : List Sig) : Prop := S.Pairwise fun a b => kLt a.1 b.1 = true
theorem rising_nil : Rising [] := List.Pairwise.nil
theorem look_none_of {S : List Sig} {k : K} (h : ∀ a ∈ S, a.1 ≠ k) : look S k = none := by
  induction S with
  | nil => rfl
  | cons a r ih =>
    rw [look, if_neg (fun e => h a (List.mem_cons_self ..) e.symm)]
    exact ih fun b hb => h b (List.mem_cons_of_mem _ hb)
theorem look_mem {S : List Sig} (hS : Rising S) (k : K) (b : Bool) : look S k = some b ↔ (k, b) ∈ S := by
  induction S with
  | nil => simp [look]
  | cons a r ih =>
    obtain ⟨h1, h2⟩ := List.pairwise_cons.1 hS
    rw [look]
    by_cases e : k = a.1
    · rw [if_pos e]
      constructor
      · intro h
        simp only [Option.some.injEq] at h
        exact List.mem_cons.2 (Or.inl (Prod.ext e h.symm))
      · intro h
        rcases List.mem_cons.1 h with h | h
        · rw [← h]
        · exact absurd e.symm (kLt_ne (h1 _ h))
    · rw [if_neg e, ih h2]
      constructor
      · exact fun h => List.mem_cons_of_mem _ h
      · intro h
        rcases List.mem_cons.1 h with h | h
        · exact absurd (by rw [← h]) e
        · exact h
theorem put_keys {S : List Sig} {k : K} {h : Bool} {x : Sig} (hx : x ∈ put S k h) : x.1 = k ∨ ∃ y ∈ S, y.1 = x.1 := by
  induction S with
  | nil => simp [put] at hx; exact Or.inl (by rw [hx])
  | cons a r ih =>
    rw [put] at hx
    split at hx
    · rcases List.mem_cons.1 hx with rfl | hx
      · exact Or.inl rfl
      · exact Or.inr ⟨x, List.mem_cons_of_mem _ hx, rfl⟩
    · split at hx
      · rcases List.mem_cons.1 hx with rfl | hx
        · exact Or.inl rfl
        · exact Or.inr ⟨x, hx, rfl⟩
      · rcases List.mem_cons.1 hx with rfl | hx
        · exact Or.inr ⟨x, List.mem_cons_self .., rfl⟩
        · rcases ih hx with h | ⟨y, hy, e⟩
          · exact Or.inl h
          · exact Or.inr ⟨y, List.mem_cons_of_mem _ hy, e⟩
theorem put_rising {S : List Sig} (hS : Rising S) (k : K) (h : Bool) : Rising (put S k h) := by
  induction S with
  | nil => simp [put, Rising]
  | cons a r ih =>
    obtain ⟨h1, h2⟩ := List.pairwise_cons.1 hS
    rw [put]
    split
    · rename_i e
      exact List.pairwise_cons.2 ⟨fun b hb => by show kLt k b.1 = true; rw [e]; exact h1 b hb, h2⟩
    · rename_i e
      split
      · rename_i l
        refine List.pairwise_cons.2 ⟨fun b hb => ?_, hS⟩
        rcases List.mem_cons.1 hb with rfl | hb
        · exact l
        · exact kLt_trans l (h1 b hb)
      · rename_i l
        refine List.pairwise_cons.2 ⟨fun b hb => ?_, ih h2⟩
        rcases put_keys hb with e' | ⟨y, hy, e'⟩
        · rw [e']; exact kLt_total (by simpa using l) e
        · rw [← e']; exact h1 y hy
/-- What an honest or other step makes of what was there. -/
def over (o : Option Bool) (h : Bool) : Bool := match o with | some b => b && h | none => h
theorem look_put {S : List Sig} (hS : Rising S) (k : K) (h : Bool) (x : K) : look (put S k h) x = if x = k then some (over (look S k) h) else look S x := by
  induction S with
  | nil =>
    simp only [put, look, over]
  | cons a r ih =>
    obtain ⟨h1, h2⟩ := List.pairwise_cons.1 hS
    rw [put]
    by_cases e : k = a.1
    · rw [if_pos e]
      simp only [look]
      rw [if_pos e]
      by_cases ex : x = k
      · rw [if_pos ex, if_pos ex]; rfl
      · rw [if_neg ex, if_neg ex, if_neg (fun q => ex (q.trans e.symm))]
    · rw [if_neg e]
      by_cases l : kLt k a.1 = true
      · rw [if_pos l]
        have hn : look (a :: r) k = none := look_none_of fun b hb => by
          rcases List.mem_cons.1 hb with rfl | hb
          · exact fun q => e q.symm
          · exact fun q => kLt_ne (kLt_trans l (h1 b hb)) q.symm
        rw [hn]
        rw [look]
        rfl
      · rw [if_neg l]
        simp only [look]
        rw [if_neg e, ih h2]
        by_cases ex : x = k
        · rw [if_pos ex, if_pos ex, if_neg (fun q => e (ex.symm.trans q))]
        · rw [if_neg ex, if_neg ex]
theorem put_length (S : List Sig) (k : K) (h : Bool) : (put S k h).length ≤ S.length + 1 := by
  induction S with
  | nil => simp [put]
  | cons a r ih =>
    rw [put]
    split
    · simp
    · split
      · simp
      · simp; omega
theorem rising_ext {S T : List Sig} (hS : Rising S) (hT : Rising T) (h : ∀ k, look S k = look T k) : S = T := by
  have nd : ∀ {L : List Sig}, Rising L → L.Nodup := fun hL => List.Pairwise.imp (fun {a b} hab => fun (e : a = b) => kLt_ne hab (congrArg Prod.fst e)) hL
  have hp : S.Perm T := (List.perm_ext_iff_of_nodup (nd hS) (nd hT)).2 fun ⟨k, b⟩ => by rw [← look_mem hS, ← look_mem hT, h k]
  refine List.Perm.eq_of_pairwise (le := fun (a b : Sig) => kLt a.1 b.1 = true) ?_ hS hT hp
  intro a b _ _ h1 h2
  exact absurd h2 (by rw [kLt_asymm h1]; simp)
/-- Whatever is as the signatures are, in some order, and rises: the signatures. -/
theorem rising_of_perm {S T : List Sig} (hS : Rising S) (hp : T.Perm S) (hT : T.Pairwise fun a b => kLt b.1 a.1 = false) : T = S := by
  refine List.Perm.eq_of_pairwise (le := fun (a b : Sig) => kLt b.1 a.1 = false) ?_ hT (List.Pairwise.imp (fun {a b} h => kLt_asymm h) hS) hp
  intro a b ha hb h1 h2
  have ha' := hp.subset ha
  have e : a.1 = b.1 := by
    by_cases e : a.1 = b.1
    · exact e
    · exact absurd (kLt_total h1 (fun q => e q.symm)) (by rw [h2]; simp)
  obtain ⟨k, x⟩ := a
  obtain ⟨k', y⟩ := b
  obtain rfl : k = k' := e
  have q1 := (look_mem hS k x).2 ha'
  have q2 := (look_mem hS k y).2 hb
  rw [q1] at q2
  cases q2
  rfl

/-- Sign: what is there then, and its code. -/
def signP (S : List Sig) (k : K) (h : Bool) : List Sig × Int :=
  if k.1.length < 1 ∨ 6 < k.1.length then (S, 1) else if k.2.length ≠ 32 then (S, 3) else if look S k = none ∧ 1024 ≤ S.length then (S, 2) else (put S k h, 0)
theorem sign_rising {S : List Sig} (hS : Rising S) (k : K) (h : Bool) : Rising (signP S k h).1 := by
  unfold signP
  split
  · exact hS
  · split
    · exact hS
    · split
      · exact hS
      · exact put_rising hS k h
theorem sign_length (S : List Sig) (k : K) (h : Bool) : (signP S k h).1.length ≤ S.length + 1 := by
  unfold signP
  split
  · simp
  · split
    · simp
    · split
      · simp
      · exact put_length S k h
/-- All signatures of who are honest. -/
def honP (S : List Sig) (who : List UInt8) : Bool := S.all fun s => !decide (s.1.1 = who) || s.2

/-- A step that signs. -/
structure St where
  who : List UInt8
  mark : List UInt8
  honest : Bool
  fork : Bool
instance : Inhabited St := ⟨⟨[], [], false, false⟩⟩
def St.key (s : St) : K := (s.who, s.mark)
def St.may (s : St) : Bool := decide (1 ≤ s.who.length) && decide (s.who.length ≤ 6) && decide (s.mark.length = 32)
def step (S : List Sig) (s : St) : List Sig := (signP S s.key s.honest).1
def fillP (l : List St) : List Sig := l.foldl step []
theorem fill_snoc (l : List St) (s : St) : fillP (l ++ [s]) = step (fillP l) s := by simp [fillP]
theorem fill_take (l : List St) (k : Nat) (hk : k < l.length) : fillP (l.take (k + 1)) = step (fillP (l.take k)) l[k] := by
  rw [List.take_succ_eq_append_getElem hk, fill_snoc]
theorem fold_rising (l : List St) {S : List Sig} (hS : Rising S) : Rising (l.foldl step S) := by
  induction l generalizing S with
  | nil => exact hS
  | cons s r ih => exact ih (sign_rising hS _ _)
theorem fill_rising (l : List St) : Rising (fillP l) := fold_rising l rising_nil
theorem fold_length (l : List St) (S : List Sig) : (l.foldl step S).length ≤ S.length + l.length := by
  induction l generalizing S with
  | nil => simp
  | cons s r ih =>
    have h1 := ih (step S s)
    have h2 := sign_length S s.key s.honest
    simp only [List.foldl_cons, List.length_cons]
    unfold step at h1 h2 ⊢
    omega
theorem fill_length (l : List St) : (fillP l).length ≤ l.length := by
  have := fold_length l []
  simpa [fillP] using this
theorem step_may {S : List Sig} {s : St} (hl : S.length < 1024) : step S s = if s.may then put S s.key s.honest else S := by
  unfold step signP St.may St.key
  dsimp only
  by_cases h1 : s.who.length < 1 ∨ 6 < s.who.length
  · rw [if_pos h1, if_neg]
    simp only [Bool.and_eq_true, decide_eq_true_eq]
    omega
  · rw [if_neg h1]
    by_cases h2 : s.mark.length ≠ 32
    · rw [if_pos h2, if_neg]
      simp only [Bool.and_eq_true, decide_eq_true_eq]
      omega
    · rw [if_neg h2, if_neg (by omega), if_pos]
      simp only [Bool.and_eq_true, decide_eq_true_eq]
      omega
/-- What steps make of a signature. -/
def toldOf (l : List St) (k : K) : Option Bool :=
  if l.any (fun s => s.may && decide (s.key = k)) then some (l.all fun s => !(s.may && decide (s.key = k)) || s.honest) else none
theorem snoc_ind {α : Type} {p : List α → Prop} (h0 : p []) (h1 : ∀ l a, p l → p (l ++ [a])) (l : List α) : p l := by
  rw [← List.reverse_reverse l]
  induction l.reverse with
  | nil => exact h0
  | cons a r ih => rw [List.reverse_cons]; exact h1 _ _ ih
theorem fill_look (l : List St) (hl : l.length ≤ 1000) (k : K) : look (fillP l) k = toldOf l k := by
  induction l using snoc_ind with
  | h0 => rfl
  | h1 l s ih =>
    have hl' : l.length ≤ 1000 := by simp at hl; omega
    have hf := fill_length l
    rw [fill_snoc, step_may (by omega)]
    unfold toldOf at ih ⊢
    simp only [List.any_append, List.all_append, List.any_cons, List.all_cons, List.any_nil, List.all_nil, Bool.or_false, Bool.and_true]
    by_cases hm : s.may = true
    · rw [if_pos hm, look_put (fill_rising l), hm]
      by_cases e : k = s.key
      · rw [if_pos e]
        subst e
        rw [ih hl']
        simp only [decide_true, Bool.true_and, Bool.or_true, if_true, Bool.not_true, Bool.false_or]
        by_cases ha : (l.any fun x => x.may && decide (x.key = s.key)) = true
        · rw [if_pos ha]; rfl
        · rw [if_neg ha]
          have : (l.all fun x => !(x.may && decide (x.key = s.key)) || x.honest) = true := by
            rw [List.all_eq_true]
            intro x hx
            have : (x.may && decide (x.key = s.key)) = false := by
              cases hc : (x.may && decide (x.key = s.key)) with
              | false => rfl
              | true => exact absurd (List.any_eq_true.2 ⟨x, hx, hc⟩) ha
            rw [this]; rfl
          rw [this]; rfl
      · rw [if_neg e, ih hl']
        have : decide (s.key = k) = false := by simpa using fun q => e q.symm
        rw [this]
        simp
    · rw [if_neg hm, ih hl']
      have : s.may = false := by simpa using hm
      rw [this]
      simp
end Ora
end Go.Proofs.Yteolephlajhghaa
