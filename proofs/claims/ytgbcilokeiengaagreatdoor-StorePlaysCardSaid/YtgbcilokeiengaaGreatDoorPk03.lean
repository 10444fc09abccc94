/- StorePlain, OwnStr, PowMath, StrClone, PowBase, StoreList, MapFn -/
import Derived.Test.YtgbcilokeiengaaGreatDoorPk01
import Derived.Test.YtgbcilokeiengaaGreatDoorPk02
import Derived.Test.YtgbcilokeiengaaGreatDoorChecked
import Derived.Deep.RegionWith
import Derived.Deep.Slices
import Derived.DataReads
import Derived.OpenShut
import Derived.SizedLaws
import Derived.Lib.LaidU8
import Derived.Maps.AppendAt
import Derived.WalkSpells
import Derived.WalkLawsBesides
import Derived.Lib.Strings
import Derived.Maps.OwnSet
namespace Go.Proofs.YtgbcilokeiengaaGreatDoor.Sto
abbrev T := List UInt8
abbrev St := List (T × T)
def Rising (S : St) : Prop := S.Pairwise fun a b => a.1 < b.1
def look : St → T → Option T
  | [], _ => none
  | a :: r, x => if x = a.1 then some a.2 else look r x
def put : St → T → T → St
  | [], k, t => [(k, t)]
  | a :: r, k, t => if k = a.1 then a :: r else if k < a.1 then (k, t) :: a :: r else a :: put r k t
def keys (S : St) : List T := S.map (·.1)

theorem tri (x y : T) : x < y ∨ x = y ∨ y < x := by
  by_cases h : x < y
  · exact Or.inl h
  · rcases List.le_iff_lt_or_eq.1 (List.not_lt.1 h) with h | h
    · exact Or.inr (Or.inr h)
    · exact Or.inr (Or.inl h.symm)
theorem lt_ne {x y : T} (h : x < y) : x ≠ y := fun e => by subst e; exact List.lt_irrefl _ h
theorem rising_nil : Rising [] := List.Pairwise.nil
theorem keys_rise {S : St} (h : Rising S) : (keys S).Pairwise (· < ·) := List.pairwise_map.2 h
/-- Two lists that rise and have the same members. -/
theorem rise_unique {a b : List T} (ha : a.Pairwise (· < ·)) (hb : b.Pairwise (· < ·)) (h : ∀ x, x ∈ a ↔ x ∈ b) : a = b := by
  have na : a.Nodup := ha.imp fun h => lt_ne h
  have nb : b.Nodup := hb.imp fun h => lt_ne h
  have hp : a.Perm b := (List.perm_ext_iff_of_nodup na nb).2 h
  exact hp.eq_of_pairwise (le := (· ≤ ·)) (fun x y _ _ h1 h2 => List.le_antisymm h1 h2) (ha.imp fun h => List.le_of_lt h) (hb.imp fun h => List.le_of_lt h)

theorem look_isSome (S : St) (x : T) : (look S x).isSome = true ↔ x ∈ keys S := by
  induction S with
  | nil => simp [look, keys]
  | cons a r ih =>
    rw [look]
    by_cases e : x = a.1
    · rw [if_pos e]; simp [keys, e]
    · rw [if_neg e, ih]
      simp only [keys, List.map_cons, List.mem_cons]
      exact ⟨Or.inr, fun h => h.resolve_left e⟩
theorem look_none (S : St) (x : T) : look S x = none ↔ x ∉ keys S := by
  rw [← look_isSome]; cases look S x <;> simp
theorem look_mem {S : St} (hS : Rising S) (x t : T) : look S x = some t ↔ (x, t) ∈ S := by
  induction S with
  | nil => simp [look]
  | cons a r ih =>
    obtain ⟨h1, h2⟩ := List.pairwise_cons.1 hS
    rw [look]
    by_cases e : x = a.1
    · rw [if_pos e]
      constructor
      · intro h
        simp only [Option.some.injEq] at h
        exact List.mem_cons.2 (Or.inl (Prod.ext e h.symm))
      · intro h
        rcases List.mem_cons.1 h with h | h
        · rw [← h]
        · exact absurd e.symm (lt_ne (h1 _ h))
    · rw [if_neg e, ih h2]
      constructor
      · exact fun h => List.mem_cons_of_mem _ h
      · intro h
        rcases List.mem_cons.1 h with h | h
        · exact absurd (by rw [← h]) e
        · exact h
theorem look_at {S : St} (hS : Rising S) (i : Nat) (hi : i < S.length) : look S S[i].1 = some S[i].2 := (look_mem hS _ _).2 (List.getElem_mem hi)
theorem put_mem {S : St} {k t : T} {p : T × T} (h : p ∈ put S k t) : p ∈ S ∨ p = (k, t) := by
  induction S with
  | nil => simp [put] at h; exact Or.inr h
  | cons a r ih =>
    rw [put] at h
    split at h
    · exact Or.inl h
    · split at h
      · rcases List.mem_cons.1 h with h | h
        · exact Or.inr h
        · exact Or.inl h
      · rcases List.mem_cons.1 h with h | h
        · exact Or.inl (by rw [h]; exact List.mem_cons_self ..)
        · exact (ih h).imp (List.mem_cons_of_mem _) id
theorem put_rising {S : St} (hS : Rising S) (k t : T) : Rising (put S k t) := by
  induction S with
  | nil => simp [put, Rising]
  | cons a r ih =>
    obtain ⟨h1, h2⟩ := List.pairwise_cons.1 hS
    rw [put]
    split
    · exact hS
    · rename_i e
      split
      · rename_i l
        refine List.pairwise_cons.2 ⟨fun b hb => ?_, hS⟩
        rcases List.mem_cons.1 hb with rfl | hb
        · exact l
        · exact List.lt_trans l (h1 b hb)
      · rename_i l
        refine List.pairwise_cons.2 ⟨fun b hb => ?_, ih h2⟩
        rcases put_mem hb with hb | rfl
        · exact h1 b hb
        · exact ((tri k a.1).resolve_left l).resolve_left e
theorem look_put {S : St} (hS : Rising S) (k t x : T) : look (put S k t) x = if x = k then some ((look S k).getD t) else look S x := by
  induction S with
  | nil => simp only [put, look, Option.getD]
  | cons a r ih =>
    obtain ⟨h1, h2⟩ := List.pairwise_cons.1 hS
    rw [put]
    by_cases e : k = a.1
    · rw [if_pos e]
      by_cases ex : x = k
      · rw [if_pos ex, ex]
        simp only [look]
        rw [if_pos e]
        rfl
      · rw [if_neg ex]
    · rw [if_neg e]
      by_cases l : k < a.1
      · rw [if_pos l]
        have hn : look (a :: r) k = none := (look_none _ _).2 fun h => by
          obtain ⟨b, hb, e1⟩ := List.mem_map.1 h
          rcases List.mem_cons.1 hb with rfl | hb
          · exact e e1.symm
          · exact lt_ne (List.lt_trans l (h1 b hb)) e1.symm
        rw [hn]
        simp only [look, Option.getD]
      · rw [if_neg l]
        simp only [look]
        by_cases ex : x = a.1
        · have : x ≠ k := fun q => e (q.symm.trans ex)
          rw [if_pos ex, if_neg this, if_pos ex]
        · rw [if_neg ex, ih h2, if_neg e, if_neg ex]
theorem put_same {S : St} {k : T} (h : (look S k).isSome = true) (t : T) : Rising S → put S k t = S := by
  induction S with
  | nil => simp [look] at h
  | cons a r ih =>
    intro hS
    obtain ⟨h1, h2⟩ := List.pairwise_cons.1 hS
    rw [put]
    by_cases e : k = a.1
    · rw [if_pos e]
    · rw [if_neg e]
      rw [look, if_neg e] at h
      have hm := (look_isSome r k).1 h
      obtain ⟨b, hb, e1⟩ := List.mem_map.1 hm
      have hlt : a.1 < k := e1 ▸ h1 b hb
      rw [if_neg (fun l => List.lt_irrefl _ (List.lt_trans l hlt)), ih h h2]
/-- At the place of a sum that is not there. -/
theorem put_place {S : St} (k t : T) (i : Nat) (hi : i ≤ S.length) (hlo : ∀ j (h : j < i), (S[j]'(by omega)).1 < k) (hhi : ∀ h : i < S.length, k < S[i].1) : put S k t = S.take i ++ (k, t) :: S.drop i := by
  induction S generalizing i with
  | nil => simp [put]
  | cons a r ih =>
    rw [put]
    cases i with
    | zero =>
      have := hhi (by simp)
      simp only [List.getElem_cons_zero] at this
      rw [if_neg (lt_ne this), if_pos this]
      rfl
    | succ i =>
      have h0 := hlo 0 (by omega)
      simp only [List.getElem_cons_zero] at h0
      rw [if_neg (fun e => lt_ne h0 e.symm), if_neg (fun l => List.lt_irrefl _ (List.lt_trans l h0))]
      rw [ih i (by simpa using hi) (fun j h => by have := hlo (j + 1) (by omega); simpa using this) (fun h => by have := hhi (by simpa using h); simpa using this)]
      rfl
theorem put_len (S : St) (k t : T) : (put S k t).length ≤ S.length + 1 := by
  induction S with
  | nil => simp [put]
  | cons a r ih =>
    rw [put]
    split
    · simp
    · split
      · simp
      · simp only [List.length_cons]; omega
theorem put_keys {S : St} (hS : Rising S) (k t x : T) : x ∈ keys (put S k t) ↔ x = k ∨ x ∈ keys S := by
  rw [← look_isSome, look_put hS, ← look_isSome]
  by_cases e : x = k
  · rw [if_pos e]; simp [e]
  · rw [if_neg e]; simp [e]

/-! ### what is reached -/
/-- The sums that a text names, if it is a node. -/
def kidsT (t : T) : List T := Nd.kidsL (Nd.dec t).1.kids
inductive Reach (S : St) (l : List T) : T → Prop
  | here {x} : x ∈ l → x ∈ keys S → Reach S l x
  | step {x t k} : Reach S l x → look S x = some t → k ∈ kidsT t → k ∈ keys S → Reach S l k
theorem Reach.key {S : St} {l : List T} {x : T} (h : Reach S l x) : x ∈ keys S := by
  cases h <;> assumption
def idx (S : St) (x : T) : Option Nat := S.findIdx? fun a => decide (a.1 = x)
theorem idx_some {S : St} {x : T} {k : Nat} (h : idx S x = some k) : ∃ hk : k < S.length, S[k].1 = x := by
  obtain ⟨h1, h2, _⟩ := List.findIdx?_eq_some_iff_getElem.1 h
  exact ⟨h1, by simpa using h2⟩
theorem idx_of_key {S : St} {x : T} (h : x ∈ keys S) : ∃ k, idx S x = some k := by
  cases hi : idx S x with
  | some k => exact ⟨k, rfl⟩
  | none =>
    obtain ⟨a, ha, e⟩ := List.mem_map.1 h
    have := List.findIdx?_eq_none_iff.1 hi a ha
    simp [e] at this
theorem idx_at {S : St} (hS : Rising S) (i : Nat) (hi : i < S.length) : idx S S[i].1 = some i := by
  obtain ⟨k, hk⟩ := idx_of_key (S := S) (x := S[i].1) (List.mem_map.2 ⟨_, List.getElem_mem hi, rfl⟩)
  obtain ⟨h1, h2⟩ := idx_some hk
  have : k = i := by
    rcases Nat.lt_trichotomy k i with h | h | h
    · exact absurd h2 (lt_ne (List.pairwise_iff_getElem.1 hS k i h1 hi h))
    · exact h
    · exact absurd h2.symm (lt_ne (List.pairwise_iff_getElem.1 hS i k hi h1 h))
  rw [hk, this]
def kidI (S : St) (i : Nat) : List Nat := match S[i]? with | some a => (kidsT a.2).filterMap (idx S) | none => []
theorem kidI_at (S : St) (i : Nat) (hi : i < S.length) : kidI S i = (kidsT S[i].2).filterMap (idx S) := by
  unfold kidI
  rw [List.getElem?_eq_getElem hi]
theorem kidI_lt (S : St) (i k : Nat) (h : k ∈ kidI S i) : k < S.length := by
  unfold kidI at h
  split at h
  · obtain ⟨x, _, hx⟩ := List.mem_filterMap.1 h
    exact (idx_some hx).1
  · cases h
def marks0 (S : St) (l : List T) : List Bool := S.map fun a => decide (a.1 ∈ l)
def marks (S : St) (l : List T) : List Bool := rounds (kidI S) (List.range S.length) S.length (marks0 S l)
theorem marks0_len (S : St) (l : List T) : (marks0 S l).length = S.length := by simp [marks0]
theorem marks_len (S : St) (l : List T) : (marks S l).length = S.length := by
  rw [marks, ← (rounds_le _ _ _ _).1, marks0_len]
def pick (S : St) (m : List Bool) : List T := ((S.zip m).filter (·.2)).map (·.1.1)
def reachL (S : St) (l : List T) : List T := pick S (marks S l)
theorem pick_sub (S : St) (m : List Bool) (h : m.length = S.length) : (pick S m).Sublist (keys S) := by
  have h1 : ((S.zip m).map (·.1.1)) = keys S := by
    rw [keys, show (fun x : (T × T) × Bool => x.1.1) = (fun a : T × T => a.1) ∘ Prod.fst from rfl, ← List.map_map, List.map_fst_zip (by omega)]
  rw [← h1]
  exact (List.filter_sublist).map _
theorem pick_mem (S : St) (m : List Bool) (h : m.length = S.length) (x : T) : x ∈ pick S m ↔ ∃ i, ∃ hi : i < S.length, S[i].1 = x ∧ On m i := by
  unfold pick
  rw [List.mem_map]
  constructor
  · rintro ⟨⟨a, b⟩, hm, rfl⟩
    obtain ⟨h1, h2⟩ := List.mem_filter.1 hm
    obtain ⟨i, hi, e⟩ := List.mem_iff_getElem.1 h1
    simp only [List.length_zip] at hi
    rw [List.getElem_zip] at e
    obtain ⟨e1, e2⟩ := Prod.mk.inj e
    refine ⟨i, by omega, by rw [e1], ?_⟩
    unfold On
    rw [List.getElem?_eq_getElem (by omega), e2]
    simpa using h2
  · rintro ⟨i, hi, rfl, hon⟩
    have hl := hon.lt
    unfold On at hon
    rw [List.getElem?_eq_getElem hl] at hon
    refine ⟨(S[i], m[i]), List.mem_filter.2 ⟨?_, by simpa using hon⟩, rfl⟩
    exact List.mem_iff_getElem.2 ⟨i, by simp; omega, by rw [List.getElem_zip]⟩
theorem pick_snoc (S : St) (m : List Bool) (i : Nat) (hi : i < S.length) (hm : i < m.length) : pick (S.take (i + 1)) (m.take (i + 1)) = if m[i] = true then pick (S.take i) (m.take i) ++ [S[i].1] else pick (S.take i) (m.take i) := by
  unfold pick
  rw [List.take_succ_eq_append_getElem hi, List.take_succ_eq_append_getElem hm, List.zip_append (by simp; omega), List.filter_append, List.map_append]
  by_cases h : m[i] = true
  · simp [h]
  · simp [h]
theorem on_marks0 (S : St) (l : List T) (i : Nat) : On (marks0 S l) i ↔ ∃ hi : i < S.length, S[i].1 ∈ l := by
  unfold On marks0
  rw [List.getElem?_map]
  by_cases hi : i < S.length
  · rw [List.getElem?_eq_getElem hi]
    simp [hi]
  · rw [List.getElem?_eq_none (by omega)]
    simp [hi]
theorem on_marks {S : St} (hS : Rising S) (l : List T) (i : Nat) : On (marks S l) i ↔ ∃ hi : i < S.length, Reach S l S[i].1 := by
  unfold marks
  rw [rounds_reach (kidI S) S.length (marks0 S l) (marks0_len S l) (fun i k h => kidI_lt S i k h)]
  constructor
  · intro h
    induction h with
    | here h =>
      obtain ⟨hi, hm⟩ := (on_marks0 S l _).1 h
      exact ⟨hi, .here hm (List.mem_map.2 ⟨_, List.getElem_mem hi, rfl⟩)⟩
    | @step i k _ hk ih =>
      obtain ⟨hi, hr⟩ := ih
      rw [kidI_at S i hi] at hk
      obtain ⟨x, hx, hxi⟩ := List.mem_filterMap.1 hk
      obtain ⟨hk', e⟩ := idx_some hxi
      refine ⟨hk', .step hr (look_at hS i hi) (by rw [e]; exact hx) (List.mem_map.2 ⟨_, List.getElem_mem hk', rfl⟩)⟩
  · rintro ⟨hi, h⟩
    have key : ∀ x, Reach S l x → ∀ j, idx S x = some j → Rch (kidI S) (On (marks0 S l)) j := by
      intro x h
      induction h with
      | @here x h1 h2 =>
        intro j hj
        obtain ⟨hl, e⟩ := idx_some hj
        exact .here ((on_marks0 S l j).2 ⟨hl, by rw [e]; exact h1⟩)
      | @step x t k h1 h2 h3 h4 ih =>
        intro j hj
        obtain ⟨a, ha⟩ := idx_of_key h1.key
        obtain ⟨hal, e⟩ := idx_some ha
        have e2 := look_at hS a hal
        rw [e, h2] at e2
        refine .step (ih a ha) ?_
        rw [kidI_at S a hal, ← Option.some.inj e2]
        exact List.mem_filterMap.2 ⟨k, h3, hj⟩
    exact key _ h i (idx_at hS i hi)
theorem reachL_mem {S : St} (hS : Rising S) (l : List T) (x : T) : x ∈ reachL S l ↔ Reach S l x := by
  unfold reachL
  rw [pick_mem S _ (marks_len S l)]
  constructor
  · rintro ⟨i, hi, rfl, hon⟩
    exact ((on_marks hS l i).1 hon).2
  · intro h
    obtain ⟨i, hi⟩ := idx_of_key h.key
    obtain ⟨hl, e⟩ := idx_some hi
    exact ⟨i, hl, e, (on_marks hS l i).2 ⟨hl, by rw [e]; exact h⟩⟩
theorem reachL_rise {S : St} (hS : Rising S) (l : List T) : (reachL S l).Pairwise (· < ·) := (keys_rise hS).sublist (pick_sub S _ (marks_len S l))
theorem reachL_len (S : St) (l : List T) : (reachL S l).length ≤ S.length := by
  have := (pick_sub S _ (marks_len S l)).length_le
  rw [keys, List.length_map] at this
  exact this
theorem reachL_only {S : St} (hS : Rising S) (l : List T) {R : List T} (hR : R.Pairwise (· < ·)) (h : ∀ x, x ∈ R ↔ Reach S l x) : R = reachL S l :=
  rise_unique hR (reachL_rise hS l) fun x => by rw [h, reachL_mem hS]

/-! ### what is kept -/
def keepL (S : St) (l : List T) : St := S.filter fun a => decide (a.1 ∈ reachL S l)
theorem keepL_rising {S : St} (hS : Rising S) (l : List T) : Rising (keepL S l) := List.Pairwise.sublist List.filter_sublist hS
theorem keepL_sub (S : St) (l : List T) {p : T × T} (h : p ∈ keepL S l) : p ∈ S := (List.mem_filter.1 h).1
theorem keepL_keys {S : St} (hS : Rising S) (l : List T) : keys (keepL S l) = reachL S l := by
  refine rise_unique (keys_rise (keepL_rising hS l)) (reachL_rise hS l) fun x => ?_
  unfold keys keepL
  rw [List.mem_map]
  constructor
  · rintro ⟨a, ha, rfl⟩
    simpa using (List.mem_filter.1 ha).2
  · intro h
    obtain ⟨a, ha, rfl⟩ := List.mem_map.1 ((reachL_mem hS l x).1 h).key
    exact ⟨a, List.mem_filter.2 ⟨ha, by simpa using h⟩, rfl⟩
theorem keepL_len {S : St} (hS : Rising S) (l : List T) : (keepL S l).length = (reachL S l).length := by
  have := congrArg List.length (keepL_keys hS l)
  simpa [keys] using this
theorem look_keepL {S : St} (hS : Rising S) (l : List T) (x : T) : look (keepL S l) x = if x ∈ reachL S l then look S x else none := by
  by_cases h : x ∈ reachL S l
  · rw [if_pos h]
    have hk := h
    rw [← keepL_keys hS l] at hk
    obtain ⟨t, ht⟩ := Option.isSome_iff_exists.1 ((look_isSome _ _).2 hk)
    rw [ht]
    exact ((look_mem hS x t).2 (keepL_sub S l ((look_mem (keepL_rising hS l) x t).1 ht))).symm
  · rw [if_neg h, look_none, keepL_keys hS l]
    exact h
/-- What has been reached so far (V), what is still to be looked at (O). -/
structure Work (S : St) (l V O : List T) : Prop where
  nd : V.Nodup
  sub : ∀ x ∈ V, Reach S l x
  opn : ∀ x ∈ O, x ∈ keys S → Reach S l x
  start : ∀ x ∈ l, x ∈ keys S → x ∈ V ∨ x ∈ O
  kids : ∀ x ∈ V, ∀ t, look S x = some t → ∀ k ∈ kidsT t, k ∈ keys S → k ∈ V ∨ k ∈ O
theorem Work.begin (S : St) (l : List T) : Work S l [] l :=
  ⟨List.nodup_nil, fun x h => (by cases h), fun x h hk => .here h hk, fun x h _ => Or.inr h, fun x h => (by cases h)⟩
theorem Work.skip {S : St} {l V O : List T} {x : T} (h : Work S l V (O ++ [x])) (hx : x ∈ V ∨ x ∉ keys S) : Work S l V O := by
  refine ⟨h.nd, h.sub, fun y hy => h.opn y (List.mem_append_left _ hy), fun y hy hk => ?_, fun y hy t ht k hk hkk => ?_⟩
  · rcases h.start y hy hk with h1 | h1
    · exact Or.inl h1
    · rcases List.mem_append.1 h1 with h1 | h1
      · exact Or.inr h1
      · obtain rfl : y = x := by simpa using h1
        exact Or.inl (hx.resolve_right (fun q => q hk))
  · rcases h.kids y hy t ht k hk hkk with h1 | h1
    · exact Or.inl h1
    · rcases List.mem_append.1 h1 with h1 | h1
      · exact Or.inr h1
      · obtain rfl : k = x := by simpa using h1
        exact Or.inl (hx.resolve_right (fun q => q hkk))
theorem Work.take {S : St} {l V O : List T} {x t : T} (h : Work S l V (O ++ [x])) (hx : x ∉ V) (ht : look S x = some t) : Work S l (V ++ [x]) (O ++ kidsT t) := by
  have hkx : x ∈ keys S := (look_isSome S x).1 (by rw [ht]; rfl)
  have hr : Reach S l x := h.opn x (by simp) hkx
  refine ⟨?_, ?_, ?_, ?_, ?_⟩
  · rw [List.nodup_append]
    exact ⟨h.nd, by simp, fun a ha b hb e => hx (by obtain rfl : b = x := (by simpa using hb); rw [← e]; exact ha)⟩
  · intro y hy
    rcases List.mem_append.1 hy with hy | hy
    · exact h.sub y hy
    · obtain rfl : y = x := by simpa using hy
      exact hr
  · intro y hy hk
    rcases List.mem_append.1 hy with hy | hy
    · exact h.opn y (List.mem_append_left _ hy) hk
    · exact .step hr ht hy hk
  · intro y hy hk
    rcases h.start y hy hk with h1 | h1
    · exact Or.inl (List.mem_append_left _ h1)
    · rcases List.mem_append.1 h1 with h1 | h1
      · exact Or.inr (List.mem_append_left _ h1)
      · exact Or.inl (List.mem_append_right _ h1)
  · intro y hy u hu k hk hkk
    rcases List.mem_append.1 hy with hy | hy
    · rcases h.kids y hy u hu k hk hkk with h1 | h1
      · exact Or.inl (List.mem_append_left _ h1)
      · rcases List.mem_append.1 h1 with h1 | h1
        · exact Or.inr (List.mem_append_left _ h1)
        · exact Or.inl (List.mem_append_right _ h1)
    · obtain rfl : y = x := by simpa using hy
      rw [ht] at hu
      obtain rfl := Option.some.inj hu
      exact Or.inr (List.mem_append_right _ hk)
theorem Work.done {S : St} {l V : List T} (h : Work S l V []) (x : T) : x ∈ V ↔ Reach S l x := by
  constructor
  · exact h.sub x
  · intro hr
    induction hr with
    | here h1 h2 => exact (h.start _ h1 h2).resolve_right (by simp)
    | step h1 h2 h3 h4 ih => exact (h.kids _ ih _ h2 _ h3 h4).resolve_right (by simp)
theorem le_of_sub {α : Type} [BEq α] [LawfulBEq α] : ∀ {l M : List α}, l.Nodup → (∀ x ∈ l, x ∈ M) → l.length ≤ M.length
  | [], _, _, _ => Nat.zero_le _
  | a :: r, M, hn, hs => by
    obtain ⟨h1, h2⟩ := List.nodup_cons.1 hn
    have ha := hs a (List.mem_cons_self ..)
    have := le_of_sub (M := M.erase a) h2 fun x hx => (List.mem_erase_of_ne (fun e => h1 (by rw [← e]; exact hx))).2 (hs x (List.mem_cons_of_mem _ hx))
    rw [List.length_erase_of_mem ha] at this
    have hpos : 0 < M.length := List.length_pos_of_mem ha
    simp only [List.length_cons]
    omega
theorem Work.len {S : St} {l V O : List T} (h : Work S l V O) : V.length ≤ S.length := by
  have := le_of_sub (M := keys S) h.nd fun x hx => (h.sub x hx).key
  simpa [keys] using this
theorem kidsT_len (t : T) : (kidsT t).length ≤ 16 := by
  have h16 : (Nd.dec t).1.kids.length = 16 := by
    rcases Nd.dec_is t with ⟨_, _, h, _⟩ | ⟨_, h, _⟩
    · exact h
    · rw [h]; rfl
  unfold kidsT Nd.kidsL
  exact Nat.le_trans (List.length_filter_le _ _) (Nat.le_of_eq h16)
end Go.Proofs.YtgbcilokeiengaaGreatDoor.Sto
namespace Go.Proofs.YtgbcilokeiengaaGreatDoor
open Go.RowKit

def scells (L : List (List UInt8)) : List Value := L.map fun l => .string ⟨l.toArray⟩
theorem scells_length (L : List (List UInt8)) : (scells L).length = L.length := by simp [scells]
theorem scells_append (L K : List (List UInt8)) : scells (L ++ K) = scells L ++ scells K := by simp [scells]
/-- A row of texts of the call's own, in a block from B on. -/
def Own (w : World) (B : Nat) (s : Value) (L : List (List UInt8)) : Prop := w.ownsRow B 9 1 s L.length (scells L)
theorem Own.nil (w : World) (B : Nat) : Own w B (.slice none 0 0) [] := ⟨rfl, Or.inl ⟨rfl, rfl⟩⟩
theorem Own.strs {w : World} {B : Nat} {s : Value} {L : List (List UInt8)} (h : Own w B s L) : Strs w s L := by
  obtain ⟨A, cap, rfl⟩ := own_form h
  refine ⟨A, cap, rfl, fun i hi => ?_⟩
  obtain ⟨g, cap', hv, hB, hlt⟩ := World.ownsRow.form h (by omega)
  obtain ⟨rfl, rfl⟩ : A = some ⟨g, 0, none⟩ ∧ cap = cap' := by simpa using hv
  exact ⟨_, rfl, World.ownsRow.cells h rfl i _ (by simp [scells, hi])⟩
theorem Own.below {w w' : World} {B : Nat} {s : Value} {L : List (List UInt8)} (h : Own w B s L) (hb : Below w.heap.size w w') : Own w' B s L :=
  row_out (G := fun _ => False) h (Out.of hb) (fun _ _ _ _ hf => hf.elim)
theorem Own.lt {w : World} {B : Nat} {s : Value} {L : List (List UInt8)} (h : Own w B s L) (k : Nat) (hk : s.ownBlock = some k) : B ≤ k ∧ k < w.heap.size := World.ownsRow.lt h k hk
theorem Own.strs_at {w w' : World} {B : Nat} {A : Option Addr} {n cap : Nat} {L : List (List UInt8)} (h : Own w B (.slice A n cap) L) (hb : Below w.heap.size w w') (k : Nat) (hk : k < L.length) : ∃ a, A = some a ∧ w'.cell? (a.add k) = some (.string ⟨L[k].toArray⟩) := by
  obtain ⟨A', cap', hv, hc⟩ := (h.below hb).strs
  obtain ⟨rfl, _⟩ : A = A' ∧ _ := by simpa using hv
  exact hc k hk
end Go.Proofs.YtgbcilokeiengaaGreatDoor
namespace Go.Proofs.YtgbcilokeiengaaGreatDoor.Pw

abbrev S := List UInt8
structure M where
  name : S
  power : Int
instance : Inhabited M := ⟨⟨[], 0⟩⟩
theorem M.ext' {a b : M} (h : a.name = b.name) (k : a.power = b.power) : a = b := by cases a; cases b; simp_all
instance : DecidableEq M := fun a b =>
  if h : a.name = b.name ∧ a.power = b.power then isTrue (M.ext' h.1 h.2) else isFalse (fun e => h (by subst e; exact ⟨rfl, rfl⟩))

def okM (p : S) (m : M) : Bool := decide (p < m.name) && decide (m.name.length ≤ 6) && decide (1 ≤ m.power) && decide (m.power ≤ 1000)
def okFrom : S → List M → Bool
  | _, [] => true
  | p, m :: t => okM p m && okFrom m.name t
def okL (L : List M) : Bool := decide (1 ≤ L.length) && decide (L.length ≤ 7) && okFrom [] L
def sumP (L : List M) : Int := L.foldr (fun m n => m.power + n) 0
def pick (L : List M) (names : List S) : List M := L.filter fun m => decide (m.name ∈ names)
def ofL (L : List M) (names : List S) : Nat := if okL L then (sumP (pick L names)).toNat else 0
theorem snocInd {α : Type} {p : List α → Prop} (h0 : p []) (h1 : ∀ l d, p l → p (l ++ [d])) (l : List α) : p l := by
  have h : ∀ r : List α, p r.reverse := by
    intro r
    induction r with
    | nil => exact h0
    | cons d r ih => rw [List.reverse_cons]; exact h1 _ _ ih
  have := h l.reverse
  rwa [List.reverse_reverse] at this
end Go.Proofs.YtgbcilokeiengaaGreatDoor.Pw
namespace Go.Proofs.YtgbcilokeiengaaGreatDoor
open Go.RowKit

theorem size_list (s : List UInt8) : (⟨s.toArray⟩ : ByteArray).size = s.length := by simp [ByteArray.size]
theorem dclone_any (s : List UInt8) (w : World) (hl : s.length ≤ 140737488351232) :
    Calls Tryz.prog 21 #[.string ⟨s.toArray⟩] w fun e w' => e = .returned (.string ⟨s.toArray⟩) ∧ Below w.heap.size w w' := by
  go_enter Tryz.func21, Tryz.ntmps21
  go_wp2_with fail
  refine (shelf_clone ⟨s.toArray⟩ w (by rw [size_list]; omega)).mono ?_
  rintro e w1 ⟨rfl, hb⟩
  go_wp2
  go_ret
  exact ⟨rfl, hb⟩
end Go.Proofs.YtgbcilokeiengaaGreatDoor
namespace Go.Proofs.YtgbcilokeiengaaGreatDoor
open Go.RowKit Go.ChangeShapes Go.WideShapes
open Go.Proofs.YtgbcilokeiengaaGreatDoor.Pw (M)

theorem less_lt : ∀ (x y : List UInt8), Op.bytesLess x y = decide (x < y)
  | [], [] => by simp [Op.bytesLess]
  | _ :: _, [] => by simp [Op.bytesLess]
  | [], _ :: _ => by simp [Op.bytesLess]
  | a :: x, b :: y => by
    rw [Op.bytesLess, less_lt x y, Bool.eq_iff_iff]
    simp only [Bool.or_eq_true, Bool.and_eq_true, decide_eq_true_eq, beq_iff_eq, List.cons_lt_cons_iff]
theorem Tryz.infoStr : (Tryz.prog.info? 9).map (fun i => (i.zero, i.size, i.bytes)) = some (some (.string ⟨#[]⟩), 1, 16) := by kernel_rfl

/-- A slice that has these members. -/
def Mems (w : World) (v : Value) (L : List M) : Prop :=
  ∃ (A : Option Addr) (cap : Nat), v = .slice A L.length cap ∧ (0 < L.length → ∃ b o, A = some ⟨b, o, none⟩ ∧ b < w.heap.size ∧ ∀ i (h : i < L.length),
    w.cell? ⟨b, o + i * 2, none⟩ = some (.string ⟨L[i].name.toArray⟩) ∧ w.cell? ⟨b, o + i * 2 + 1, none⟩ = some (.int .i64 L[i].power))
theorem Mems.nil (w : World) : Mems w (.slice none 0 0) [] := ⟨none, 0, rfl, fun h => absurd h (by simp)⟩
theorem Mems.below {w w' : World} {v : Value} {L : List M} (h : Mems w v L) (hb : Below w.heap.size w w') : Mems w' v L := by
  obtain ⟨A, cap, rfl, hc⟩ := h
  refine ⟨A, cap, rfl, fun h0 => ?_⟩
  obtain ⟨b, o, rfl, hlt, hcell⟩ := hc h0
  refine ⟨b, o, rfl, Nat.lt_of_lt_of_le hlt hb.size, fun i hi => ?_⟩
  obtain ⟨h1, h2⟩ := hcell i hi
  exact ⟨(hb.cell hlt).trans h1, (hb.cell hlt).trans h2⟩
theorem Mems.drew {w : World} {v : Value} {L : List M} (h : Mems w v L) : Mems w.drew v L := h.below (Below.refl _ w).drew
/-- One member's cells. -/
theorem Mems.at {w w' : World} {A : Option Addr} {n cap : Nat} {L : List M} (h : Mems w (.slice A n cap) L) (hb : Below w.heap.size w w') (k : Nat) (hk : k < L.length) :
    ∃ b o, A = some ⟨b, o, none⟩ ∧ w'.cell? ⟨b, o + k * 2, none⟩ = some (.string ⟨L[k].name.toArray⟩) ∧ w'.cell? ⟨b, o + k * 2 + 1, none⟩ = some (.int .i64 L[k].power) := by
  obtain ⟨A', cap', hv, hc⟩ := h.below hb
  obtain ⟨rfl, rfl, rfl⟩ : A = A' ∧ n = L.length ∧ cap = cap' := by simpa using hv
  obtain ⟨b, o, rfl, _, hcell⟩ := hc (by omega)
  exact ⟨b, o, rfl, hcell k hk⟩
theorem Mems.len {w : World} {A : Option Addr} {n cap : Nat} {L : List M} (h : Mems w (.slice A n cap) L) : n = L.length := by
  obtain ⟨A', cap', hv, _⟩ := h
  simp at hv
  exact hv.2.1
theorem Mems.form {w : World} {v : Value} {L : List M} (h : Mems w v L) : ∃ A cap, v = .slice A L.length cap := by
  obtain ⟨A, cap, rfl, _⟩ := h
  exact ⟨A, cap, rfl⟩
end Go.Proofs.YtgbcilokeiengaaGreatDoor
namespace Go.Proofs.YtgbcilokeiengaaGreatDoor
open Go.RowKit
open Go.Proofs.YtgbcilokeiengaaGreatDoor.Sto (St)

def stcl (p : List UInt8 × List UInt8) : List Value := [.int .i64 1, .string ⟨p.2.toArray⟩, .string ⟨p.1.toArray⟩]
def strows (S : St) : List Value := S.flatMap stcl
theorem strows_length (S : St) : (strows S).length = S.length * 3 := by
  induction S with
  | nil => rfl
  | cons a L ih => simp [strows, stcl] at ih ⊢; omega
theorem strows_append (S T : St) : strows (S ++ T) = strows S ++ strows T := by simp [strows]
theorem strows_at (S : St) (i j : Nat) (hi : i < S.length) (hj : j < 3) : (strows S)[i * 3 + j]? = (stcl S[i])[j]? := by
  induction S generalizing i with
  | nil => simp at hi
  | cons a L ih =>
    have e : strows (a :: L) = stcl a ++ strows L := by simp [strows]
    rw [e]
    cases i with
    | zero =>
      rw [List.getElem?_append_left (by simp [stcl]; omega)]
      simp
    | succ i =>
      rw [List.getElem?_append_right (by simp [stcl]; omega)]
      have : (i + 1) * 3 + j - (stcl a).length = i * 3 + j := by simp [stcl]; omega
      rw [this, ih i (by simpa using hi)]
      simp
theorem strows_one (S : St) : ∀ u ∈ strows S, u.oneCell' = true := by
  intro u hu
  obtain ⟨n, _, hn⟩ := List.mem_flatMap.1 hu
  simp [stcl] at hn
  rcases hn with rfl | rfl | rfl <;> rfl
set_option maxRecDepth 100000 in
theorem Tryz.infoNotedS : (Tryz.prog.info? 48).map (fun i => (i.zero, i.size, i.bytes)) = some (some (.agg #[.int .i64 0, .string ⟨#[]⟩, .string ⟨#[]⟩]), 3, 40) := by kernel_rfl
/-- A slice that has the texts S, with their sums. -/
def StL (w : World) (v : Value) (S : St) : Prop :=
  ∃ (A : Option Addr) (cap : Nat), v = .slice A S.length cap ∧ S.length ≤ cap ∧ (S = [] → A = none ∧ cap = 0 ∨ ∃ b o, A = some ⟨b, o, none⟩) ∧ (0 < S.length → ∃ b o, A = some ⟨b, o, none⟩ ∧ (∃ cs f, w.heap[b]? = some (.cells cs 48 f)) ∧ ∀ i (h : i < S.length),
    w.cell? ⟨b, o + i * 3, none⟩ = some (.int .i64 1) ∧ w.cell? ⟨b, o + i * 3 + 1, none⟩ = some (.string ⟨(S[i].2).toArray⟩) ∧ w.cell? ⟨b, o + i * 3 + 2, none⟩ = some (.string ⟨(S[i].1).toArray⟩))
theorem StL.nil (w : World) : StL w (.slice none 0 0) [] := ⟨none, 0, rfl, Nat.le_refl _, fun _ => Or.inl ⟨rfl, rfl⟩, fun h => absurd h (by simp)⟩
theorem StL.form {w : World} {v : Value} {S : St} (h : StL w v S) : ∃ A cap, v = .slice A S.length cap ∧ S.length ≤ cap ∧ ((S = [] ∧ A = none ∧ cap = 0) ∨ ∃ b o, A = some ⟨b, o, none⟩) := by
  obtain ⟨A, cap, rfl, hc, h0, h1⟩ := h
  refine ⟨A, cap, rfl, hc, ?_⟩
  by_cases hs : S = []
  · exact (h0 hs).imp (fun h => ⟨hs, h⟩) id
  · obtain ⟨b, o, rfl, _⟩ := h1 (List.length_pos_iff.2 hs)
    exact Or.inr ⟨b, o, rfl⟩
theorem StL.outF {F : Nat → Prop} {w w' : World} {v : Value} {S : St} (h : StL w v S) (ho : Out F w w') (hF : ∀ k cs f, F k → w.heap[k]? ≠ some (.cells cs 48 f)) : StL w' v S := by
  obtain ⟨A, cap, rfl, hc, h0, h1⟩ := h
  refine ⟨A, cap, rfl, hc, h0, fun hp => ?_⟩
  obtain ⟨b, o, rfl, ⟨cs, f, hh⟩, hcell⟩ := h1 hp
  have hb : ¬ F b := fun hf => hF b cs f hf hh
  refine ⟨b, o, rfl, ⟨cs, f, ho.heap hh hb⟩, fun i hi => ?_⟩
  obtain ⟨g1, g2, g3⟩ := hcell i hi
  exact ⟨ho.cell g1 hb, ho.cell g2 hb, ho.cell g3 hb⟩
theorem StL.below {w w' : World} {v : Value} {S : St} (h : StL w v S) (hb : Below w.heap.size w w') : StL w' v S := h.outF (F := fun _ => False) (Out.of hb) fun _ _ _ hf => hf.elim
/-- A row of texts that is written. -/
theorem StL.outRow {w w' : World} {v s : Value} {S : St} {K : List (List UInt8)} {B : Nat} (h : StL w v S) (hs : Own w B s K) (ho : Out (fun j => s.ownBlock = some j) w w') : StL w' v S := h.outF ho fun k cs f e hh => by
  rcases hs.2 with ⟨rfl, _⟩ | ⟨g, c, cur, rfl, _, hk, _⟩
  · simp [Value.ownBlock] at e
  · have : g = k := by simpa [Value.ownBlock] using e
    subst this
    rw [hk] at hh
    simp at hh
theorem StL.at {w : World} {A : Option Addr} {n cap : Nat} {S : St} (h : StL w (.slice A n cap) S) (k : Nat) (hk : k < S.length) :
    ∃ b o, A = some ⟨b, o, none⟩ ∧ w.cell? ⟨b, o + k * 3, none⟩ = some (.int .i64 1) ∧ w.cell? ⟨b, o + k * 3 + 1, none⟩ = some (.string ⟨(S[k].2).toArray⟩) ∧ w.cell? ⟨b, o + k * 3 + 2, none⟩ = some (.string ⟨(S[k].1).toArray⟩) := by
  obtain ⟨A', cap', hv, _, _, h1⟩ := h
  obtain ⟨rfl, _⟩ : A = A' ∧ _ := by simpa using hv
  obtain ⟨b, o, rfl, _, hcell⟩ := h1 (by omega)
  obtain ⟨g1, g2, g3⟩ := hcell k hk
  exact ⟨b, o, rfl, g1, g2, g3⟩
theorem StL.own {w : World} {B : Nat} {v : Value} {S : St} (h : w.ownsRow B 48 3 v S.length (strows S)) : StL w v S := by
  rcases h.2 with ⟨rfl, h0⟩ | ⟨g, cap, cur, rfl, hB, hh, hn, _⟩
  · obtain rfl : S = [] := List.eq_nil_of_length_eq_zero h0
    exact StL.nil w
  · refine ⟨_, cap, rfl, hn, fun _ => Or.inr ⟨_, _, rfl⟩, fun h0 => ⟨g, 0, rfl, ⟨_, _, hh⟩, fun i hi => ?_⟩⟩
    have hc := h.cells (g := g) rfl
    rw [Nat.zero_add]
    refine ⟨?_, ?_, ?_⟩
    · have := hc (i * 3 + 0) _ (by rw [strows_at S i 0 hi (by omega)]; rfl)
      rw [Addr.add_mid] at this; simpa using this
    · have := hc (i * 3 + 1) _ (by rw [strows_at S i 1 hi (by omega)]; rfl)
      rw [Addr.add_mid] at this; simpa using this
    · have := hc (i * 3 + 2) _ (by rw [strows_at S i 2 hi (by omega)]; rfl)
      rw [Addr.add_mid] at this; simpa using this
theorem StL.take {w : World} {A : Option Addr} {n cap : Nat} {S : St} (h : StL w (.slice A n cap) S) (k : Nat) (hk : k ≤ S.length) : StL w (.slice A k cap) (S.take k) := by
  obtain ⟨A', cap', hv, hcap, h0, h1⟩ := h
  obtain ⟨rfl, rfl, rfl⟩ : A = A' ∧ n = S.length ∧ cap = cap' := by simpa using hv
  have hl : (S.take k).length = k := by simp; omega
  refine ⟨A, cap, by rw [hl], by omega, fun _ => ?_, fun hp => ?_⟩
  · by_cases hs : S = []
    · exact h0 hs
    · obtain ⟨b, o, rfl, _⟩ := h1 (List.length_pos_iff.2 hs)
      exact Or.inr ⟨b, o, rfl⟩
  · obtain ⟨b, o, rfl, hlt, hcell⟩ := h1 (by omega)
    refine ⟨b, o, rfl, hlt, fun i hi => ?_⟩
    rw [hl] at hi
    have := hcell i (by omega)
    simpa using this
theorem StL.drop {w : World} {b o n cap : Nat} {S : St} (h : StL w (.slice (some ⟨b, o, none⟩) n cap) S) (k : Nat) (hk : k ≤ S.length) (b' o' : Nat) (hbo : k < S.length → b' = b ∧ o' = o + k * 3) : StL w (.slice (some ⟨b', o', none⟩) (n - k) (cap - k)) (S.drop k) := by
  obtain ⟨A', cap', hv, hcap, h0, h1⟩ := h
  obtain ⟨rfl, rfl, rfl⟩ : some ⟨b, o, none⟩ = A' ∧ n = S.length ∧ cap = cap' := by simpa using hv
  have hl : (S.drop k).length = S.length - k := by simp
  refine ⟨_, _, by rw [hl], by omega, fun _ => Or.inr ⟨_, _, rfl⟩, fun hp => ?_⟩
  rw [hl] at hp
  have hp1 : k < S.length := by omega
  have hp2 : 0 < S.length := by omega
  obtain ⟨rfl, rfl⟩ := hbo hp1
  obtain ⟨b2, o2, he, hlt, hcell⟩ := h1 hp2
  cases he
  refine ⟨_, _, rfl, hlt, fun i hi => ?_⟩
  have hki : k + i < S.length := by rw [hl] at hi; clear hcell hlt h1 h0; omega
  have := hcell (k + i) hki
  have e : o + (k + i) * 3 = o + k * 3 + i * 3 := by omega
  rw [e] at this
  simpa using this
theorem run_append_nothing_st (w : World) (v : Value) (n c B : Nat) (xs : List Value) (h : w.ownsRow B 48 3 v n xs) (ty : TypeId) : (Builtin.append_ #[25, 25] ty #[v, .slice none 0 c]).run Tryz.prog w = .ok v w := by
  rcases h.2 with ⟨rfl, rfl⟩ | ⟨g, cap, cur, rfl, hB, hh, hn, _⟩
  · simp [Builtin.append_, run_underlying Tryz.underlying25, Tryz.sizeOf48, Builtin.lenOf, Builtin.firstCells, Result.andThen]
  · simp [Builtin.append_, run_underlying Tryz.underlying25, Tryz.sizeOf48, Builtin.lenOf, Builtin.firstCells, Result.andThen, hn, storeCells]
theorem append_st {w : World} {v s : Value} {S : St} {B n : Nat} {xs : List Value} (hv : StL w v S) (hs : w.ownsRow B 48 3 s n xs) (hl : n + S.length ≤ 1000000) (hB : B ≤ w.heap.size) :
    ∃ v' w', (Builtin.append_ #[25, 25] 25 #[s, v]).run Tryz.prog w = .ok v' w' ∧ w'.ownsRow B 48 3 v' (n + S.length) (xs ++ strows S) ∧ w.grownBy w' s.ownBlock ∧ (v'.ownBlock = s.ownBlock ∨ v'.ownBlock = some w.heap.size) := by
  obtain ⟨i0, hi, hz0, hz1, hz2⟩ := info_parts Tryz.infoNotedS
  obtain ⟨A, cap, rfl, -, -, hc⟩ := hv
  cases A with
  | none =>
    have h0 : S.length = 0 := by
      by_cases h : S.length = 0
      · exact h
      · obtain ⟨b, o, ha, _⟩ := hc (by omega)
        cases ha
    obtain rfl : S = [] := List.eq_nil_of_length_eq_zero h0
    exact ⟨s, w, run_append_nothing_st w s n cap B xs hs _, by simpa [strows] using hs, ⟨rfl, rfl, rfl, Nat.le_refl _, fun _ _ _ => rfl⟩, Or.inl rfl⟩
  | some a =>
    obtain ⟨v', w', h1, h2, h3, _, h5⟩ := run_append_own_at (P := Tryz.prog) w B 25 25 48 i0 (.agg #[.int .i64 0, .string ⟨#[]⟩, .string ⟨#[]⟩]) 3 40 Tryz.underlying25 hi hz0 hz1 hz2 rfl (by decide) s n xs hs a S.length cap (strows S) (strows_length S)
      (fun j u hu => by
        have hj : j < S.length * 3 := by
          have := (List.getElem?_eq_some_iff.1 hu).1
          rwa [strows_length] at this
        obtain ⟨b, o, hb, _, hcell⟩ := hc (by omega)
        cases hb
        obtain ⟨i, r, hr, rfl⟩ : ∃ i r, r < 3 ∧ j = i * 3 + r := ⟨j / 3, j % 3, by omega, by omega⟩
        have hi' : i < S.length := by omega
        have e := strows_at S i r hi' hr
        rw [hu] at e
        obtain ⟨h1, h2, h3⟩ := hcell i hi'
        rw [Addr.add_mid]
        have hr3 : r = 0 ∨ r = 1 ∨ r = 2 := by omega
        rcases hr3 with rfl | rfl | rfl
        · simp only [stcl, List.getElem?_cons_zero, Option.some.injEq] at e
          rw [e]; exact h1
        · simp only [stcl, List.getElem?_cons_succ, List.getElem?_cons_zero, Option.some.injEq] at e
          rw [e]; exact h2
        · simp only [stcl, List.getElem?_cons_succ, List.getElem?_cons_zero, Option.some.injEq] at e
          rw [e]; exact h3) (strows_one S) (by unfold maxLen; omega) (by omega) hB
    exact ⟨v', w', h1, h2, h3, h5⟩

/-! ### At -/
/-- The place of a sum, or of the first one behind it; whether it is there. -/
def Sto.AtIs (S : St) (x : List UInt8) (i : Nat) (b : Bool) : Prop :=
  ∃ hi : i ≤ S.length, (∀ j (h : j < i), (S[j]'(by omega)).1 < x) ∧ (∀ h : i < S.length, ¬ S[i].1 < x) ∧ (b = true ↔ ∃ h : i < S.length, S[i].1 = x)
theorem Sto.AtIs.there {S : St} {x : List UInt8} {i : Nat} (h : Sto.AtIs S x i true) (hS : Sto.Rising S) : ∃ hi : i < S.length, S[i].1 = x ∧ Sto.look S x = some S[i].2 ∧ Sto.idx S x = some i := by
  obtain ⟨_, _, _, hb⟩ := h
  obtain ⟨hi, e⟩ := hb.1 rfl
  exact ⟨hi, e, by rw [← e]; exact Sto.look_at hS i hi, by rw [← e]; exact Sto.idx_at hS i hi⟩
theorem Sto.AtIs.lost {S : St} {x : List UInt8} {i : Nat} (h : Sto.AtIs S x i false) (hS : Sto.Rising S) : x ∉ Sto.keys S ∧ Sto.look S x = none ∧ Sto.idx S x = none := by
  obtain ⟨hi, hlo, hhi, hb⟩ := h
  have hk : x ∉ Sto.keys S := fun hx => by
    obtain ⟨p, hp, e⟩ := List.mem_map.1 hx
    obtain ⟨j, hj, rfl⟩ := List.mem_iff_getElem.1 hp
    rcases Nat.lt_trichotomy j i with h1 | rfl | h1
    · exact Sto.lt_ne (hlo j h1) e
    · have := hb.2 ⟨hj, e⟩
      cases this
    · have h2 := List.pairwise_iff_getElem.1 hS i j (by omega) hj h1
      rw [e] at h2
      exact hhi (by omega) h2
  refine ⟨hk, (Sto.look_none S x).2 hk, ?_⟩
  cases hx : Sto.idx S x with
  | none => rfl
  | some k =>
    obtain ⟨h1, e⟩ := Sto.idx_some hx
    exact absurd (List.mem_map.2 ⟨_, List.getElem_mem h1, e⟩) hk
theorem Sto.AtIs.put {S : St} {x : List UInt8} {i : Nat} (h : Sto.AtIs S x i false) (t : List UInt8) : Sto.put S x t = S.take i ++ (x, t) :: S.drop i := by
  obtain ⟨hi, hlo, hhi, hb⟩ := h
  refine Sto.put_place x t i hi hlo fun hl => ?_
  rcases Sto.tri x S[i].1 with h1 | h1 | h1
  · exact h1
  · have := hb.2 ⟨hl, h1.symm⟩
    cases this
  · exact absurd h1 (hhi hl)

def RAtPost (S : St) (x : List UInt8) (w : World) (e : Ending) (w' : World) : Prop :=
  ∃ (i : Nat) (b : Bool), e = .returned (.tuple #[.int .i64 i, .bool b]) ∧ Sto.AtIs S x i b ∧ ∃ q, w' = w.drewN q
set_option maxRecDepth 8000 in
set_option maxHeartbeats 1000000 in
theorem rstAt_any (S : St) (v : Value) (x : List UInt8) (w : World) (hv : StL w v S) (hl : S.length ≤ 10000) :
    Calls Tryz.prog 24 #[v, .string ⟨x.toArray⟩] w (RAtPost S x w) := by
  have HV := Lib.hid hv
  obtain ⟨A, cap, rfl, -, -⟩ := hv.form
  clear hv
  go_enter Tryz.func24, Tryz.ntmps24
  go_wp2
  go_loop [6] (fun iv => ∃ k : Nat, k ≤ S.length ∧ iv = .int .i64 k ∧ ∀ (j : Nat) (hj : j < k) (hj' : j < S.length), S[j].1 < x) (fun i => S.length - (intOf i).toNat)
  case atStart => exact ⟨0, Nat.zero_le _, rfl, fun j hj => absurd hj (Nat.not_lt_zero j)⟩
  case round =>
    obtain ⟨k, hk, rfl, hall⟩ := hrel
    have HA := Lib.hid hall
    clear hall
    by_cases hlt : k < S.length
    · have h1 : (k : Int) < (S.length : Int) := by omega
      have h0 : (0 : Int) ≤ (k : Int) := by omega
      have hnb : (k : Int) ≤ 100000 := by omega
      obtain ⟨b, o, rfl, n0, n1, n2⟩ := HV.out.at k hlt
      obtain ⟨y, hy⟩ : ∃ y, S[k].1 = y := ⟨_, rfl⟩
      have HY := Lib.hid hy
      rw [hy] at n2
      by_cases hyx : y < x
      · have e1 : Op.bytesLess y x = true := by rw [less_lt]; simpa using hyx
        have HYX := Lib.hid hyx
        clear n0 n1 hy hyx
        go_wp2
        refine ⟨⟨k + 1, by omega, by go_num, ?_⟩, by simp [intOf]; omega⟩
        intro j hj hj'
        by_cases e : j < k
        · exact HA.out j e hj'
        · obtain rfl : j = k := by omega
          rw [HY.out]; exact HYX.out
      · have e1 : Op.bytesLess y x = false := by rw [less_lt]; simpa using hyx
        have HYX := Lib.hid hyx
        obtain ⟨c, hc⟩ : ∃ c, (y == x) = c := ⟨_, rfl⟩
        have HC : Hid (Sto.AtIs S x k c) := Lib.hid ⟨by omega, fun j hj => HA.out j hj (by omega), fun hl => by rw [hy]; exact hyx, by
          rw [← hc]
          constructor
          · intro h; exact ⟨hlt, by rw [hy]; simpa using h⟩
          · rintro ⟨_, h⟩; rw [hy] at h; simpa using h⟩
        have m2 : w.drew.cell? ⟨b, o + k * 3 + 2, none⟩ = some (.string ⟨y.toArray⟩) := n2
        clear n0 n1 hy hyx
        go_wp2
        go_region
        all_goals
          go_wp2
          go_ret2
          exact ⟨_, _, rfl, HC.out, _, rfl⟩
    · obtain rfl : k = S.length := by omega
      have h1 : ¬ ((S.length : Int) < (S.length : Int)) := by omega
      have HC : Hid (Sto.AtIs S x S.length false) := Lib.hid ⟨Nat.le_refl _, fun j hj => HA.out j hj hj, fun h => absurd h (by omega), ⟨fun h => (by cases h), fun ⟨h, _⟩ => absurd h (by omega)⟩⟩
      go_wp2
      go_ret2
      exact ⟨_, _, rfl, HC.out, 0, rfl⟩
end Go.Proofs.YtgbcilokeiengaaGreatDoor
namespace Go.Proofs.YtgbcilokeiengaaGreatDoor
open Go.RowKit Go.MapKept
open Go.ChangeMaps (setBlock heap_setBlock_same heap_setBlock_other)
open Go.Maps (Keyed)

/-- How keys and elements lie in the map: the key's value and its law, the element's value. -/
structure MapLaw (P : Program) (k : TypeId) (κ α : Type) where
  enc : κ → Value
  val : α → Value
  ok : κ → Prop
  keyed : Keyed P k
  key : ∀ s, ok s → ∃ l, keyOf P k (enc s) = some l
  inj : ∀ a b, enc a = enc b → a = b

variable {P : Program} {k t e : TypeId} {κ α : Type}

/-- f, but o at s. -/
def updF [DecidableEq κ] (f : κ → Option α) (s : κ) (o : Option α) : κ → Option α := fun x => if x = s then o else f x
theorem updF_same [DecidableEq κ] (f : κ → Option α) (s : κ) (o : Option α) : updF f s o s = o := if_pos rfl
theorem updF_other [DecidableEq κ] (f : κ → Option α) (s x : κ) (o : Option α) (h : x ≠ s) : updF f s o x = f x := if_neg h
/-- Block b is a map that has f's elements at f's keys, and no other. -/
def FnAt (M : MapLaw P k κ α) (w : World) (b : Nat) (f : κ → Option α) : Prop :=
  ∃ es clock, w.heap[b]? = some (.map es clock) ∧ (∀ x ∈ es.toList, ∃ s a, x.key = M.enc s ∧ x.val = M.val a ∧ M.ok s ∧ f s = some a) ∧ (∀ s a, f s = some a → ∃ x ∈ es.toList, x.key = M.enc s) ∧ Stamped es clock

theorem FnAt.lt {M : MapLaw P k κ α} {w : World} {b : Nat} {f : κ → Option α} (h : FnAt M w b f) : b < w.heap.size := by
  obtain ⟨_, _, h1, _⟩ := h; exact lt_of_heap h1
theorem FnAt.no_cells {M : MapLaw P k κ α} {w : World} {b : Nat} {f : κ → Option α} (h : FnAt M w b f) (j : Nat) (cs : Array Value) (t : TypeId) (fr : Nat × Nat) (hk : j = b) : w.heap[j]? ≠ some (.cells cs t fr) := by
  subst hk
  obtain ⟨es, c, he, _⟩ := h
  rw [he]; simp
theorem FnAt.made (M : MapLaw P k κ α) (w : World) (b : Nat) (h : b = w.heap.size) : FnAt M (w.alloc (.map #[] 0)) b (fun _ => none) :=
  ⟨#[], 0, heap_new_at w _ _ h, fun x hx => by simp at hx, fun s a h => by simp at h, stamped_empty 0⟩
theorem FnAt.out {M : MapLaw P k κ α} {F : Nat → Prop} {w w' : World} {b : Nat} {f : κ → Option α} (h : FnAt M w b f) (ho : Out F w w') (hF : ¬ F b) : FnAt M w' b f := by
  obtain ⟨es, clock, h1, h2⟩ := h
  exact ⟨es, clock, ho.heap h1 hF, h2⟩
theorem FnAt.below {M : MapLaw P k κ α} {w w' : World} {b : Nat} {f : κ → Option α} (h : FnAt M w b f) (ho : Below w.heap.size w w') : FnAt M w' b f := h.out (F := fun _ => False) (Out.of ho) id
theorem FnAt.drew {M : MapLaw P k κ α} {w : World} {b : Nat} {f : κ → Option α} (h : FnAt M w b f) : FnAt M w.drew b f := h
theorem FnAt.congr {M : MapLaw P k κ α} {w : World} {b : Nat} {f g : κ → Option α} (h : FnAt M w b f) (e : ∀ s, f s = g s) : FnAt M w b g := by
  obtain rfl : f = g := funext e
  exact h

theorem FnAt.keys {M : MapLaw P k κ α} {es : Array MapEntry} {f : κ → Option α} (h2 : ∀ x ∈ es.toList, ∃ s a, x.key = M.enc s ∧ x.val = M.val a ∧ M.ok s ∧ f s = some a) : ∀ x ∈ es.toList, ∃ l, keyOf P k x.key = some l := by
  intro x hx
  obtain ⟨s, a, e1, _, ho, _⟩ := h2 x hx
  rw [e1]; exact M.key s ho

theorem FnAt.look {M : MapLaw P k κ α} {w : World} {b : Nat} {f : κ → Option α} (h : FnAt M w b f) (ht : P.underlying t = some (.map k e)) {s : κ} (hs : M.ok s) (c : Bool) {z : Value} (hz : (zeroValue e).run P w = .ok z w) :
    (Instr.lookup t (.map (some b)) (M.enc s) c).run P w = .ok (if c then .tuple #[((f s).map M.val).getD z, .bool (f s).isSome] else ((f s).map M.val).getD z) w := by
  obtain ⟨es, clock, hb, h2, h3, h4⟩ := h
  obtain ⟨kl, hkey⟩ := M.key s hs
  rcases M.keyed.find w hkey es.toList (FnAt.keys h2) with ⟨h5, h6⟩ | ⟨j, e0, h5, h6, h7⟩
  · have hn : f s = none := by
      cases hf : f s with
      | none => rfl
      | some a =>
        obtain ⟨x, hx, hxe⟩ := h3 s a hf
        exact absurd hxe (h6 x hx)
    rw [hn]
    simp [Instr.lookup, run_underlying ht, MapKept.run_getObj_map hb, M.keyed.check w _ hkey, h5, hz, Result.andThen]
  · obtain ⟨s', a, e1, e2, ho, hf⟩ := h2 e0 (List.mem_of_getElem? h6)
    obtain rfl : s' = s := M.inj _ _ (e1.symm.trans h7)
    rw [hf]
    simp [Instr.lookup, run_underlying ht, MapKept.run_getObj_map hb, M.keyed.check w _ hkey, h5, e2, Result.andThen]

theorem FnAt.put [DecidableEq κ] {M : MapLaw P k κ α} {w : World} {b : Nat} {f : κ → Option α} (h : FnAt M w b f) (ht : P.underlying t = some (.map k e)) {s : κ} (hs : M.ok s) (a : α) :
    ∃ w', (Instr.mapUpdate t (.map (some b)) (M.enc s) (M.val a)).run P w = .ok () w' ∧ FnAt M w' b (updF f s (some a)) ∧ Out (fun i => i = b) w w' ∧ w'.heap.size = w.heap.size := by
  obtain ⟨es, clock, hb, h2, h3, h4⟩ := h
  obtain ⟨kl, hkey⟩ := M.key s hs
  rcases M.keyed.find w hkey es.toList (FnAt.keys h2) with ⟨h5, h6⟩ | ⟨j, e0, h5, h6, h7⟩
  · refine ⟨setBlock w b (.map (es.push ⟨M.enc s, M.val a, clock⟩) (clock + 1)), ?_, ⟨_, _, heap_setBlock_same hb _, ?_, ?_, ?_⟩, ⟨rfl, rfl, rfl, by simp [setBlock], fun i _ hi => heap_setBlock_other hb _ hi⟩, by simp [setBlock]⟩
    · simp [Instr.mapUpdate, run_underlying ht, MapKept.run_getObj_map hb, M.keyed.check w false hkey, h5, MapKept.run_setObj_map _ hb, Result.andThen, setBlock]
    · intro x hx
      simp only [Array.toList_push, List.mem_append, List.mem_singleton] at hx
      rcases hx with hx | rfl
      · obtain ⟨s', a', e1, e2, ho, hf⟩ := h2 x hx
        have hne : s' ≠ s := fun e => h6 x hx (by rw [e1, e])
        exact ⟨s', a', e1, e2, ho, by rw [updF_other _ _ _ _ hne]; exact hf⟩
      · exact ⟨s, a, rfl, rfl, hs, updF_same _ _ _⟩
    · intro s' a' hf
      simp only [Array.toList_push, List.mem_append, List.mem_singleton]
      by_cases hne : s' = s
      · exact ⟨_, Or.inr rfl, by rw [hne]⟩
      · rw [updF_other _ _ _ _ hne] at hf
        obtain ⟨x, hx, hxe⟩ := h3 s' a' hf
        exact ⟨x, Or.inl hx, hxe⟩
    · exact stamped_push h4 h6
  · have hjl : j < es.toList.length := (List.getElem?_eq_some_iff.1 h6).1
    have hjs : j < es.size := by simpa using hjl
    have he0 : es.toList[j] = e0 := (List.getElem?_eq_some_iff.1 h6).2
    have hj' : es[j]? = some e0 := by rw [← Array.getElem?_toList]; exact h6
    have hml : (es.modify j fun x => { x with key := M.enc s, val := M.val a }).toList = es.toList.set j { e0 with key := M.enc s, val := M.val a } := by
      apply List.ext_getElem?
      intro i
      rw [Array.getElem?_toList, Array.getElem?_modify, List.getElem?_set]
      by_cases hi : j = i
      · subst hi
        have hb0 : es[j].born = e0.born := by rw [← he0]; simp
        simp [hjs, hb0]
      · simp [hi]
    obtain ⟨s0, a0, q1, q2, q3, q4⟩ := h2 e0 (List.mem_of_getElem? h6)
    obtain rfl : s0 = s := M.inj _ _ (q1.symm.trans h7)
    have hkeys : (es.toList.set j { e0 with key := M.enc s0, val := M.val a }).map (·.key) = es.toList.map (·.key) := by
      rw [List.map_set]
      apply List.ext_getElem?
      intro i
      rw [List.getElem?_set]
      by_cases hi : j = i
      · subst hi
        have hk0 : M.enc s0 = es[j].key := by rw [← h7, ← he0]; simp
        simp [hjs, hk0]
      · simp [hi]
    refine ⟨setBlock w b (.map (es.modify j fun x => { x with key := M.enc s0, val := M.val a }) clock), ?_, ⟨_, _, heap_setBlock_same hb _, ?_, ?_, ?_⟩, ⟨rfl, rfl, rfl, by simp [setBlock], fun i _ hi => heap_setBlock_other hb _ hi⟩, by simp [setBlock]⟩
    · simp [Instr.mapUpdate, run_underlying ht, MapKept.run_getObj_map hb, M.keyed.check w false hkey, h5, hj', h7, M.keyed.stays w hkey, MapKept.run_setObj_map _ hb, Result.andThen, setBlock]
    · rw [hml]
      intro x hx
      rcases List.mem_or_eq_of_mem_set hx with hx' | rfl
      · obtain ⟨s', a', e1, e2, ho, hf⟩ := h2 x hx'
        by_cases hne : s' = s0
        · subst hne
          obtain ⟨i, hi, rfl⟩ := List.mem_iff_getElem.1 hx
          have hil : i < es.toList.length := by simpa using hi
          have hkk := congrArg (fun l => l[i]?) hkeys
          simp only [List.getElem?_map] at hkk
          rw [List.getElem?_eq_getElem hi, List.getElem?_eq_getElem hil] at hkk
          have hkk' : (es.toList[i]).key = M.enc s' := by simpa [e1] using hkk.symm
          have hij : i = j := by
            have hn := List.pairwise_iff_getElem.1 h4.2.2
            have lm : (es.toList.map (·.key)).length = es.toList.length := by simp
            rcases Nat.lt_trichotomy i j with hlt | rfl | hlt
            · have := hn i j (by omega) (by omega) hlt
              rw [List.getElem_map, List.getElem_map, hkk', he0, h7] at this
              exact absurd rfl this
            · rfl
            · have := hn j i (by omega) (by omega) hlt
              rw [List.getElem_map, List.getElem_map, hkk', he0, h7] at this
              exact absurd rfl this
          subst hij
          refine ⟨s', a, e1, ?_, ho, updF_same _ _ _⟩
          simp
        · exact ⟨s', a', e1, e2, ho, by rw [updF_other _ _ _ _ hne]; exact hf⟩
      · exact ⟨s0, a, rfl, rfl, hs, updF_same _ _ _⟩
    · rw [hml]
      intro s' a' hf
      by_cases hne : s' = s0
      · subst hne
        exact ⟨_, List.mem_iff_getElem.2 ⟨j, by simpa using hjs, List.getElem_set_self _⟩, rfl⟩
      · rw [updF_other _ _ _ _ hne] at hf
        obtain ⟨x, hx, hxe⟩ := h3 s' a' hf
        obtain ⟨i, hi, rfl⟩ := List.mem_iff_getElem.1 hx
        have hij : j ≠ i := by
          rintro rfl
          rw [he0, h7] at hxe
          exact hne (M.inj _ _ hxe.symm)
        exact ⟨_, List.mem_iff_getElem.2 ⟨i, by simpa using hi, rfl⟩, by rw [List.getElem_set_ne hij]; exact hxe⟩
    · exact stamped_modify h4 j _ (fun e _ => rfl) (fun e _ he => by rw [hj'] at he; cases he; exact h7.symm)

theorem FnAt.drop [DecidableEq κ] {M : MapLaw P k κ α} {w : World} {b : Nat} {f : κ → Option α} (h : FnAt M w b f) (ht : P.underlying t = some (.map k e)) {s : κ} (hs : M.ok s) :
    ∃ w', (∀ ty, (Builtin.delete_ #[t, k] ty #[.map (some b), M.enc s]).run P w = .ok (.tuple #[]) w') ∧ FnAt M w' b (updF f s none) ∧ Out (fun i => i = b) w w' ∧ w'.heap.size = w.heap.size := by
  obtain ⟨es, clock, hb, h2, h3, h4⟩ := h
  obtain ⟨kl, hkey⟩ := M.key s hs
  rcases M.keyed.find w hkey es.toList (FnAt.keys h2) with ⟨h5, h6⟩ | ⟨j, e0, h5, h6, h7⟩
  · refine ⟨setBlock w b (.map es clock), ?_, ⟨_, _, heap_setBlock_same hb _, ?_, ?_, h4⟩, ⟨rfl, rfl, rfl, by simp [setBlock], fun i _ hi => heap_setBlock_other hb _ hi⟩, by simp [setBlock]⟩
    · intro ty
      simp [Builtin.delete_, run_underlying ht, MapKept.run_getObj_map hb, M.keyed.check w _ hkey, h5, MapKept.run_setObj_map _ hb, Result.andThen, setBlock]
    · intro x hx
      obtain ⟨s', a', e1, e2, ho, hf⟩ := h2 x hx
      have hne : s' ≠ s := fun e => h6 x hx (by rw [e1, e])
      exact ⟨s', a', e1, e2, ho, by rw [updF_other _ _ _ _ hne]; exact hf⟩
    · intro s' a' hf
      by_cases hne : s' = s
      · rw [hne, updF_same] at hf; cases hf
      · rw [updF_other _ _ _ _ hne] at hf; exact h3 s' a' hf
  · have hjl : j < es.toList.length := (List.getElem?_eq_some_iff.1 h6).1
    have hjs : j < es.size := by simpa using hjl
    have he0 : es.toList[j] = e0 := (List.getElem?_eq_some_iff.1 h6).2
    have hsub : (es.eraseIdxIfInBounds j).toList = es.toList.eraseIdx j := by
      unfold Array.eraseIdxIfInBounds
      rw [dif_pos hjs]
      simp
    have hn := List.pairwise_iff_getElem.1 h4.2.2
    have lm : (es.toList.map (·.key)).length = es.toList.length := by simp
    have hother : ∀ i (hi : i < es.toList.length), i ≠ j → (es.toList[i]).key ≠ M.enc s := by
      intro i hi hij e
      rcases Nat.lt_or_gt_of_ne hij with hlt | hlt
      · have := hn i j (by omega) (by omega) hlt
        rw [List.getElem_map, List.getElem_map, e, he0, h7] at this
        exact this rfl
      · have := hn j i (by omega) (by omega) hlt
        rw [List.getElem_map, List.getElem_map, e, he0, h7] at this
        exact this rfl
    refine ⟨setBlock w b (.map (es.eraseIdxIfInBounds j) clock), ?_, ⟨_, _, heap_setBlock_same hb _, ?_, ?_, ?_⟩, ⟨rfl, rfl, rfl, by simp [setBlock], fun i _ hi => heap_setBlock_other hb _ hi⟩, by simp [setBlock]⟩
    · intro ty
      simp [Builtin.delete_, run_underlying ht, MapKept.run_getObj_map hb, M.keyed.check w _ hkey, h5, MapKept.run_setObj_map _ hb, Result.andThen, setBlock]
    · rw [hsub]
      intro x hx
      obtain ⟨i, hij, hi⟩ := List.mem_eraseIdx_iff_getElem?.1 hx
      obtain ⟨hil, hie⟩ := List.getElem?_eq_some_iff.1 hi
      obtain ⟨s', a', e1, e2, ho, hf⟩ := h2 x (List.mem_of_getElem? hi)
      have hne : s' ≠ s := fun e => hother i hil hij (by rw [hie, e1, e])
      exact ⟨s', a', e1, e2, ho, by rw [updF_other _ _ _ _ hne]; exact hf⟩
    · rw [hsub]
      intro s' a' hf
      by_cases hne : s' = s
      · rw [hne, updF_same] at hf; cases hf
      · rw [updF_other _ _ _ _ hne] at hf
        obtain ⟨x, hx, hxe⟩ := h3 s' a' hf
        obtain ⟨i, hi, rfl⟩ := List.mem_iff_getElem.1 hx
        have hij : i ≠ j := by
          rintro rfl
          rw [he0, h7] at hxe
          exact hne (M.inj _ _ hxe.symm)
        exact ⟨_, List.mem_eraseIdx_iff_getElem?.2 ⟨i, hij, List.getElem?_eq_getElem hi⟩, hxe⟩
    · exact stamped_erase h4 j

/-- 'delete(m, k)', by an equation of the run. -/
theorem wpList_delete_run {w w' : World} {ops : Array Oper} {rest : List Oper} {o : Oper} {a : Act} {Q : Exit → Act → World → Prop} (hg : o.guard = none) (m x : Operand) (t k : TypeId) (hop : o.op = Op.call { callee := Callee.builtin Builtin.delete, args := #[m, x], argTypes := #[t, k] })
    (mv xv : Value) (hm : a.eval m = mv) (hx : a.eval x = xv) (hrun : ∀ ty, (Builtin.delete_ #[t, k] ty #[mv, xv]).run P w = .ok (.tuple #[]) w') (hK : wpList P ops Q rest (a.put o.dst (.tuple #[])) w') :
    wpList P ops Q (o :: rest) a w := by
  refine wpList_plain hg fun K' hK' => ?_
  unfold Oper.wp
  simp [execOp, hop, resolve, invoke, builtin, hm, hx, hrun, Result.andThen]
  exact hK' _ _ hK

end Go.Proofs.YtgbcilokeiengaaGreatDoor
