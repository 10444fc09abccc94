/- Plain functions for the laws on logs: two unlike things of one sum, what a log and a list of what was taken have in common. -/
import Derived.Test.YtebjckodfbailaaDoorDigFill
namespace Go.Proofs.YtebjckodfbailaaDoor.Dig

def unl (a b : N) : Bool := decide (a ≠ b ∧ a.dig = b.dig)
def pre (I : List N) : Nat → Bool
  | 0 => false
  | i + 1 => pre I i || (I.take i).any (unl (I.getD i zero))
theorem pre_succ (I : List N) (i : Nat) : pre I (i + 1) = (pre I i || (I.take i).any (unl (I.getD i zero))) := rfl
theorem any_snoc (I : List N) (n : N) (k : Nat) (hk : k < I.length) : (I.take (k + 1)).any (unl n) = ((I.take k).any (unl n) || unl n I[k]) := by
  rw [List.take_succ_eq_append_getElem hk, List.any_append]; simp
theorem pre_iff (I : List N) (i : Nat) (hi : i ≤ I.length) : pre I i = true ↔ ∃ j k, ∃ (hj : j < i) (hk : k < j), I[j]'(by omega) ≠ I[k]'(by omega) ∧ (I[j]'(by omega)).dig = (I[k]'(by omega)).dig := by
  induction i with
  | zero => simp [pre]
  | succ i ih =>
    have hil : i < I.length := by omega
    have hg : I.getD i zero = I[i] := by simp [List.getD, List.getElem?_eq_getElem hil]
    rw [pre_succ, Bool.or_eq_true, ih (by omega), hg]
    constructor
    · rintro (⟨j, k, hj, hk, h⟩ | h)
      · exact ⟨j, k, by omega, hk, h⟩
      · obtain ⟨m, hm, hu⟩ := List.any_eq_true.1 h
        obtain ⟨k, hk, rfl⟩ := List.getElem_of_mem hm
        have hk' : k < i := by simp at hk; omega
        refine ⟨i, k, by omega, hk', ?_⟩
        simpa [unl] using hu
    · rintro ⟨j, k, hj, hk, h⟩
      by_cases e : j < i
      · exact Or.inl ⟨j, k, e, hk, h⟩
      · obtain rfl : j = i := by omega
        refine Or.inr (List.any_eq_true.2 ⟨I[k], ?_, by simpa [unl] using h⟩)
        exact List.mem_iff_getElem.2 ⟨k, by simp; omega, by simp⟩
theorem pre_all (I : List N) : pre I I.length = true ↔ ∃ a ∈ I, ∃ b ∈ I, a ≠ b ∧ a.dig = b.dig := by
  rw [pre_iff I _ (Nat.le_refl _)]
  constructor
  · rintro ⟨j, k, hj, hk, h⟩
    exact ⟨_, List.getElem_mem hj, _, List.getElem_mem (by omega), h⟩
  · rintro ⟨a, ha, b, hb, hne, hd⟩
    obtain ⟨j, hj, rfl⟩ := List.getElem_of_mem ha
    obtain ⟨k, hk, rfl⟩ := List.getElem_of_mem hb
    rcases Nat.lt_trichotomy j k with h | h | h
    · exact ⟨k, j, hk, h, fun e => hne e.symm, hd.symm⟩
    · subst h; exact absurd rfl hne
    · exact ⟨j, k, hj, h, hne, hd⟩
theorem clash_iff (G : List N) : (clash G).isSome = true ↔ ∃ a ∈ G, ∃ b ∈ G, a ≠ b ∧ a.dig = b.dig := by
  unfold clash
  rw [Option.isSome_map, List.find?_isSome]
  constructor
  · rintro ⟨n, hn, h⟩
    obtain ⟨m, hm⟩ := find_mem hn
    have h' : find G n.dig ≠ some n := by simpa using h
    exact ⟨m, (find_some hm).1, n, hn, fun e => h' (by rw [hm, e]), (find_some hm).2⟩
  · rintro ⟨a, ha, b, hb, hne, hd⟩
    obtain ⟨m, hm⟩ := find_mem ha
    by_cases e : m = a
    · refine ⟨b, hb, ?_⟩
      have : find G b.dig = some a := by rw [← hd, hm, e]
      simp [this, hne]
    · exact ⟨a, ha, by simp [hm, e]⟩
/-- What a clash tells. -/
theorem clash_told {G : List N} (h : (clash G).isSome = true) : clashA G ≠ clashB G ∧ (clashA G).dig = (clashB G).dig ∧ clashA G ∈ G ∧ clashB G ∈ G := by
  unfold clashA clashB
  cases hc : clash G with
  | none => rw [hc] at h; cases h
  | some p =>
    obtain ⟨a, b⟩ := p
    unfold clash at hc
    rw [Option.map_eq_some_iff] at hc
    obtain ⟨n, hn, e⟩ := hc
    have hn1 := List.mem_of_find?_eq_some hn
    have hn2 := List.find?_some hn
    obtain ⟨m, hm⟩ := find_mem hn1
    rw [hm] at e hn2
    simp at e hn2
    obtain ⟨rfl, rfl⟩ := e
    exact ⟨hn2, (find_some hm).2, (find_some hm).1, hn1⟩
theorem clash_none' {G : List N} (h : (clash G).isSome = false) : clashA G = zero ∧ clashB G = zero := by
  cases hc : clash G with
  | none => simp [clashA, clashB, hc]
  | some p => rw [hc] at h; cases h

/-- What is in a log may be noted. -/
def good (G : List N) : Prop := ∀ n ∈ G, isTag n.tag = true ∧ n.dig.length = 32
theorem putL_iff (G : List N) (n m : N) : m ∈ putL G n ↔ m ∈ G ∨ (m = n ∧ putC G n = 0) := by
  unfold putL putC taken
  by_cases h1 : isTag n.tag = true
  · by_cases h2 : n.dig.length = 32
    · by_cases h3 : n ∈ G
      · simp [h1, h2, h3]; exact fun h => h ▸ h3
      · by_cases h4 : G.length < 1024
        · simp [h1, h2, h3, h4, Nat.not_le.2 h4]
        · simp [h1, h2, h3, h4, Nat.not_lt.1 h4]
    · simp [h1, h2]
  · simp [h1]
theorem good_put {G : List N} (hg : good G) (n : N) : good (putL G n) := by
  intro m hm
  rcases putL_mem hm with h | rfl
  · exact hg m h
  · unfold putL at hm
    split at hm
    · rename_i ht; exact ⟨ht.1, ht.2.1⟩
    · exact hg m hm
theorem putC_mem {G : List N} (hg : good G) {n : N} (h : n ∈ G) : putC G n = 0 ∧ putL G n = G := by
  obtain ⟨h1, h2⟩ := hg n h
  simp [putC, putL, taken, h1, h2, h]
theorem fill_all (L : List N) : ∀ (G I : List N), good G → (∀ m, m ∈ G ↔ m ∈ I) → G.length ≤ I.length → good (fillG G L) ∧ (∀ m, m ∈ fillG G L ↔ m ∈ fillI G I L) ∧ (fillG G L).length ≤ (fillI G I L).length := by
  induction L with
  | nil => exact fun G I h1 h2 h3 => ⟨h1, h2, h3⟩
  | cons n L ih =>
    intro G I h1 h2 h3
    refine ih (putL G n) _ (good_put h1 n) ?_ ?_
    · intro m
      rw [putL_iff G n m, h2 m]
      by_cases h : putC G n = 0
      · simp [h]
      · simp [h]
    · by_cases h : putC G n = 0
      · rw [if_pos h]; unfold putL; split <;> simp <;> omega
      · rw [if_neg h]
        have : ¬ taken G n := fun ht => h (by
          obtain ⟨t1, t2, t3, t4⟩ := ht
          simp [putC, t1, t2, t3, Nat.not_le.2 t4])
        rw [putL, if_neg this]
        exact h3
theorem fill_good (L : List N) : good (fillG [] L) := (fill_all L [] [] (fun _ h => by simp at h) (fun _ => Iff.rfl) (Nat.le_refl _)).1
theorem fill_mem (L : List N) (m : N) : m ∈ fillG [] L ↔ m ∈ fillI [] [] L := (fill_all L [] [] (fun _ h => by simp at h) (fun _ => Iff.rfl) (Nat.le_refl _)).2.1 m
theorem fill_len (L : List N) : (fillG [] L).length ≤ (fillI [] [] L).length := (fill_all L [] [] (fun _ h => by simp at h) (fun _ => Iff.rfl) (Nat.le_refl _)).2.2
theorem fill_pre (L : List N) : pre (fillI [] [] L) (fillI [] [] L).length = (clash (fillG [] L)).isSome := by
  rw [Bool.eq_iff_iff, pre_all, clash_iff]
  constructor
  · rintro ⟨a, ha, b, hb, h⟩
    exact ⟨a, (fill_mem L a).2 ha, b, (fill_mem L b).2 hb, h⟩
  · rintro ⟨a, ha, b, hb, h⟩
    exact ⟨a, (fill_mem L a).1 ha, b, (fill_mem L b).1 hb, h⟩
/-- How often a thing stands in a list. -/
def cnt (n : N) : List N → Nat
  | [] => 0
  | m :: L => (if m = n then 1 else 0) + cnt n L
theorem cnt_append (n : N) (L M : List N) : cnt n (L ++ M) = cnt n L + cnt n M := by
  induction L with
  | nil => simp [cnt]
  | cons a L ih => simp only [List.cons_append, cnt, ih]; omega
theorem cnt_zero {n : N} {L : List N} (h : n ∉ L) : cnt n L = 0 := by
  induction L with
  | nil => rfl
  | cons a L ih =>
    simp only [List.mem_cons, not_or] at h
    rw [cnt, ih h.2, if_neg (fun e => h.1 e.symm)]
theorem cnt_one {n : N} {L : List N} (hd : L.Nodup) (h : n ∈ L) : cnt n L = 1 := by
  induction L with
  | nil => cases h
  | cons a L ih =>
    rw [List.nodup_cons] at hd
    rw [cnt]
    by_cases e : a = n
    · subst e; rw [cnt_zero hd.1, if_pos rfl]
    · rw [if_neg e, ih hd.2 (by simpa [Ne.symm e] using h)]
theorem cnt_le (n : N) (L : List N) : cnt n L ≤ L.length := by
  induction L with
  | nil => exact Nat.le_refl _
  | cons a L ih => rw [cnt, List.length_cons]; split <;> omega
theorem cnt_snoc (n : N) (L : List N) (k : Nat) (hk : k < L.length) : cnt n (L.take (k + 1)) = cnt n (L.take k) + if L[k] = n then 1 else 0 := by
  rw [List.take_succ_eq_append_getElem hk, cnt_append]; simp [cnt]
end Go.Proofs.YtebjckodfbailaaDoor.Dig
namespace Go.Proofs.YtebjckodfbailaaDoor
open Go.RowKit
theorem bDrewN {B : Nat} {a w : World} (h : Below B a w) (n : Nat) : Below B a (w.drewN n) := h.trans ⟨rfl, rfl, rfl, Nat.le_refl _, fun _ _ => rfl⟩
end Go.Proofs.YtebjckodfbailaaDoor
