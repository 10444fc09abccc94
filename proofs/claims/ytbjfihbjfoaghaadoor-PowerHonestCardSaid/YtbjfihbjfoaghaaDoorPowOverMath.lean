/- Two quorums, those who are faulty and the others, as plain functions on lists. -/
import Derived.Test.YtbjfihbjfoaghaaDoorPowMath
namespace Go.Proofs.YtbjfihbjfoaghaaDoor.Pw

theorem pick_le_tot {L : List M} (h : okL L = true) (N : List S) : ofL L N ≤ tot L := by
  have h1 := pick_range h N
  have h2 := (tot_range L).2.1 h
  simp only [ofL, h, if_true]
  omega
theorem ofL_eq {L : List M} (h : okL L = true) (N : List S) : (ofL L N : Int) = sumP (pick L N) := by
  have h1 := pick_range h N
  simp only [ofL, h, if_true]
  omega
theorem ofL_mono {L : List M} (h : okL L = true) {A B : List S} (hs : ∀ m ∈ L, m.name ∈ A → m.name ∈ B) : ofL L A ≤ ofL L B := by
  have h1 := ofL_eq h A
  have h2 := ofL_eq h B
  have h3 := sumP_filter_le (L := L) (fun m => decide (m.name ∈ A)) (fun m => decide (m.name ∈ B)) (fun m hm => by have := (okL_mem h m hm).2.2; omega) (fun m hm hA => by
    simp only [decide_eq_true_eq] at hA ⊢
    exact hs m hm hA)
  unfold pick at h1 h2
  omega
/-- What is in both, and what is in either. -/
theorem both_count {L : List M} (h : okL L = true) (a b : List S) : ofL L a + ofL L b ≤ tot L + ofL L (both a b) := by
  have h1 := ofL_eq h a
  have h2 := ofL_eq h b
  have h3 := ofL_eq h (both a b)
  have h4 := ((tot_range L).2.1 h).2
  have hnn : ∀ m ∈ L, 0 ≤ m.power := fun m hm => by have := (okL_mem h m hm).2.2; omega
  have key : ∀ K : List M, (∀ m ∈ K, 0 ≤ m.power) → sumP (pick K a) + sumP (pick K b) ≤ sumP K + sumP (pick K (both a b)) := by
    intro K
    induction K with
    | nil => intro _; simp [pick, sumP]
    | cons m K ih =>
      intro hk
      have h5 := ih (fun x hx => hk x (List.mem_cons_of_mem _ hx))
      have h6 := hk m (List.mem_cons_self ..)
      have hb : m.name ∈ both a b ↔ m.name ∈ a ∧ m.name ∈ b := both_mem a b m.name
      unfold pick at h5 ⊢
      simp only [List.filter_cons]
      by_cases ha : m.name ∈ a <;> by_cases hbb : m.name ∈ b
      · have : m.name ∈ both a b := hb.2 ⟨ha, hbb⟩
        simp [ha, hbb, this, sumP] at h5 ⊢; omega
      · have : m.name ∉ both a b := fun h => hbb (hb.1 h).2
        simp [ha, hbb, this, sumP] at h5 ⊢; omega
      · have : m.name ∉ both a b := fun h => ha (hb.1 h).1
        simp [ha, hbb, this, sumP] at h5 ⊢; omega
      · have : m.name ∉ both a b := fun h => ha (hb.1 h).1
        simp [ha, hbb, this, sumP] at h5 ⊢; omega
  have := key L hnn
  omega
theorem both_le_left {L : List M} (h : okL L = true) (a b : List S) : ofL L (both a b) ≤ ofL L a := ofL_mono h (fun m _ hm => ((both_mem a b m.name).1 hm).1)
theorem both_le_right {L : List M} (h : okL L = true) (a b : List S) : ofL L (both a b) ≤ ofL L b := ofL_mono h (fun m _ hm => ((both_mem a b m.name).1 hm).2)
theorem quorums {L : List M} (h : okL L = true) (a b : List S) (ha : quo L ≤ ofL L a) (hb : quo L ≤ ofL L b) : mos L < ofL L (both a b) ∧ tot L < 3 * ofL L (both a b) := by
  have h1 := both_count h a b
  have h2 := ((tot_range L).2.1 h).1
  unfold quo at ha hb
  rw [if_neg (by omega)] at ha hb
  unfold mos
  omega

/-! ### those who are faulty, and the others -/
/-- The members that are not among bad, up to k. -/
def good (L : List M) (bad : List S) : List S := (L.filter fun m => !decide (m.name ∈ bad)).map (·.name)
theorem good_mem (L : List M) (bad : List S) (s : S) : s ∈ good L bad ↔ (∃ m ∈ L, m.name = s) ∧ s ∉ bad := by
  simp only [good, List.mem_map, List.mem_filter, Bool.not_eq_true', decide_eq_false_iff_not]
  constructor
  · rintro ⟨m, ⟨h1, h2⟩, rfl⟩; exact ⟨⟨m, h1, rfl⟩, h2⟩
  · rintro ⟨⟨m, h1, rfl⟩, h2⟩; exact ⟨m, ⟨h1, h2⟩, rfl⟩
theorem good_take (L : List M) (bad : List S) (k : Nat) (h : k < L.length) : good (L.take (k + 1)) bad = if L[k].name ∈ bad then good (L.take k) bad else good (L.take k) bad ++ [L[k].name] := by
  unfold good
  rw [List.take_succ_eq_append_getElem h, List.filter_append, List.map_append]
  by_cases e : L[k].name ∈ bad
  · rw [if_pos e]; simp [e]
  · rw [if_neg e]; simp [e]
theorem good_length (L : List M) (bad : List S) : (good L bad).length ≤ L.length := by
  unfold good
  rw [List.length_map]
  exact List.length_filter_le _ _
/-- What they have in common with some. -/
def met (L : List M) (bad some : List S) : List S := (good L bad).flatMap fun s => both [s] some
theorem met_take (L : List M) (bad some : List S) (k : Nat) (h : k < L.length) : met (L.take (k + 1)) bad some = if L[k].name ∈ bad then met (L.take k) bad some else met (L.take k) bad some ++ both [L[k].name] some := by
  unfold met
  rw [good_take L bad k h]
  split
  · rfl
  · simp
theorem met_length (L : List M) (bad some : List S) : (met L bad some).length ≤ L.length := by
  have key : ∀ l : List S, (l.flatMap fun s => both [s] some).length ≤ l.length := by
    intro l
    induction l with
    | nil => simp
    | cons s l ih =>
      have := both_length [s] some
      simp only [List.flatMap_cons, List.length_append, List.length_cons] at this ⊢
      simp only [List.length_nil] at this
      omega
  exact Nat.le_trans (key _) (good_length L bad)
theorem met_empty {L : List M} {bad some : List S} (h : met L bad some = []) : ∀ m ∈ L, m.name ∉ bad → m.name ∉ some := by
  intro m hm hb hs
  have hg := (good_mem L bad m.name).2 ⟨⟨m, hm, rfl⟩, hb⟩
  have hin : m.name ∈ met L bad some := List.mem_flatMap.2 ⟨m.name, hg, (both_mem _ _ _).2 ⟨by simp, hs⟩⟩
  rw [h] at hin
  cases hin
theorem both_one (s : S) (bad : List S) : (both [s] bad).length = 0 ↔ s ∉ bad := by
  constructor
  · intro h hs
    have : s ∈ both [s] bad := (both_mem _ _ _).2 ⟨by simp, hs⟩
    rw [List.eq_nil_of_length_eq_zero h] at this
    cases this
  · intro h
    cases hb : both [s] bad with
    | nil => rfl
    | cons x r =>
      have hx : x ∈ both [s] bad := by rw [hb]; exact List.mem_cons_self ..
      have := (both_mem _ _ _).1 hx
      simp at this
      obtain ⟨rfl, h2⟩ := this
      exact absurd h2 h
theorem good_count {L : List M} (h : okL L = true) (bad : List S) : ofL L (good L bad) + ofL L bad = tot L := by
  have h1 := ofL_eq h (good L bad)
  have h2 := ofL_eq h bad
  have h4 := ((tot_range L).2.1 h).2
  have h5 := sumP_filter_split L (fun m => decide (m.name ∈ bad))
  have e : pick L (good L bad) = L.filter (fun m => !decide (m.name ∈ bad)) := by
    unfold pick
    apply List.filter_congr
    intro m hm
    have := good_mem L bad m.name
    by_cases hb : m.name ∈ bad
    · have hn : m.name ∉ good L bad := fun hh => (this.1 hh).2 hb
      simp [hb, hn]
    · have hy : m.name ∈ good L bad := this.2 ⟨⟨m, hm, rfl⟩, hb⟩
      simp [hb, hy]
  rw [e] at h1
  unfold pick at h2
  omega
theorem others {L : List M} (h : okL L = true) (bad some : List S) (hbad : ofL L bad ≤ mos L) :
    quo L ≤ ofL L (good L bad) ∧ (ofL L some ≤ mos L ∨ 0 < (met L bad some).length) ∧ 3 * mos L < tot L ∧ 2 * tot L < 3 * quo L := by
  have h1 := good_count h bad
  have h2 := ((tot_range L).2.1 h).1
  have h3 : quo L = 2 * tot L / 3 + 1 := by unfold quo; rw [if_neg (by omega)]
  have h4 : mos L = (tot L - 1) / 3 := rfl
  refine ⟨by omega, ?_, by omega, by omega⟩
  by_cases hm : met L bad some = []
  · left
    have h5 := met_empty hm
    have h6 : ofL L some ≤ ofL L bad := ofL_mono h (fun m hm hs => by
      by_cases hb : m.name ∈ bad
      · exact hb
      · exact absurd hs (h5 m hm hb))
    omega
  · right
    exact Nat.pos_of_ne_zero (fun e => hm (List.eq_nil_of_length_eq_zero e))
end Go.Proofs.YtbjfihbjfoaghaaDoor.Pw
