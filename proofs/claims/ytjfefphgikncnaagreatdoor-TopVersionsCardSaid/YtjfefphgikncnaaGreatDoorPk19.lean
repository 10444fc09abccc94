/- VerMath, VerGoesMath, VerSize, VerCom, TriUnlike, VerWays, ArgItems, PowOverMath, OraMath, CertMath, OraBase, ArgTexts -/
import Derived.Test.YtjfefphgikncnaaGreatDoorPk18
import Derived.Test.YtjfefphgikncnaaGreatDoorPk16
import Derived.Test.YtjfefphgikncnaaGreatDoorPk17
import Derived.Test.YtjfefphgikncnaaGreatDoorPk10
import Derived.Test.YtjfefphgikncnaaGreatDoorPk14
import Derived.BigQuiet
import Derived.Test.YtjfefphgikncnaaGreatDoorPk15
import Derived.Deep.Slices
import Derived.DataReads
import Derived.OpenShut
import Derived.SizedLaws
import Derived.Lib.LaidU8
import Derived.Test.YtjfefphgikncnaaGreatDoorPk12
import Derived.KernelRfl
import Derived.Test.YtjfefphgikncnaaGreatDoorPk08
import Derived.Test.YtjfefphgikncnaaGreatDoorPk11
namespace Go.Proofs.YtjfefphgikncnaaGreatDoor
open Sto (T St)
open Tri (Tr Ok)
namespace Ver

/-- An act: its kind, a height, changes. -/
structure Act where
  kind : Int
  height : Int
  chg : St
/-- A change of items: its code, and the items then. -/
def chC (I : St) (x : T × T) : Nat := if x.2 = [] then (if (Tri.getC I x.1).2 = 5 then 0 else (Tri.getC I x.1).2) else Tri.putC I x.1 x.2
def chS (I : St) (x : T × T) : St := if x.2 = [] then (if (Tri.getC I x.1).2 = 0 then Tri.del I x.1 else I) else Tri.put I x.1 x.2
/-- Changes one after the other: the first code that is not 0. -/
def chsC : St → St → Nat
  | _, [] => 0
  | I, x :: r => if chC I x = 0 then chsC (chS I x) r else chC I x
def chsS : St → St → St
  | I, [] => I
  | I, x :: r => chsS (chS I x) r
theorem chS_good {I : St} {x : T × T} (h : ∃ t, TrS I t) (hc : chC I x = 0) : ∃ t, TrS (chS I x) t := by
  obtain ⟨t, ht⟩ := h
  unfold chC at hc
  unfold chS
  by_cases hx : x.2 = []
  · rw [if_pos hx] at hc ⊢
    by_cases h0 : (Tri.getC I x.1).2 = 0
    · rw [if_pos h0]
      exact ⟨_, ht.del (getC_zero h0).2⟩
    · rw [if_neg h0]
      exact ⟨t, ht⟩
  · rw [if_neg hx] at hc ⊢
    exact ⟨_, ht.put hc⟩
theorem chsS_good (C : St) : ∀ {I : St}, (∃ t, TrS I t) → chsC I C = 0 → ∃ t, TrS (chsS I C) t := by
  induction C with
  | nil => intro I h _; exact h
  | cons x r ih =>
    intro I h hc
    rw [chsC] at hc
    by_cases h0 : chC I x = 0
    · rw [if_pos h0] at hc
      exact ih (chS_good h h0) hc
    · rw [if_neg h0] at hc
      exact absurd hc h0
theorem chsS_take (I C : St) (k : Nat) (hk : k < C.length) : chsS I (C.take (k + 1)) = chS (chsS I (C.take k)) C[k] := by
  induction C generalizing I k with
  | nil => simp at hk
  | cons x r ih =>
    cases k with
    | zero => simp [chsS]
    | succ k =>
      simp only [List.take_succ_cons, chsS, List.getElem_cons_succ]
      exact ih _ k (by simpa using hk)
theorem chsC_take (I C : St) (k : Nat) (hk : k < C.length) (h : chsC I C = 0) : chC (chsS I (C.take k)) C[k] = 0 := by
  induction C generalizing I k with
  | nil => simp at hk
  | cons x r ih =>
    rw [chsC] at h
    by_cases h0 : chC I x = 0
    · rw [if_pos h0] at h
      cases k with
      | zero => simpa [chsS] using h0
      | succ k =>
        simp only [List.take_succ_cons, chsS, List.getElem_cons_succ]
        exact ih _ k (by simpa using hk) h
    · rw [if_neg h0] at h
      exact absurd h h0
/-! ### all versions -/
/-- The versions with their items, rising; the greatest number that Prune was given; the store's texts. -/
structure M where
  vs : List (Int × St)
  low : Int
  st : St
def M.zero : M := ⟨[], 0, []⟩
def M.top (m : M) : St := ((m.vs.getLast?).map (·.2)).getD []
def maxH : Int := 1048576
def M.comC (m : M) (h : Int) (C : St) : Nat := if h < 0 ∨ maxH < h then 1 else if (∃ x ∈ m.vs, h ≤ x.1) ∨ h < m.low then 120 else chsC m.top C
def M.com (m : M) (h : Int) (C : St) : M := if m.comC h C = 0 then ⟨m.vs ++ [(h, chsS m.top C)], m.low, putAll m.st (nodesS (chsS m.top C))⟩ else m
def M.comR (m : M) (h : Int) (C : St) : T := if m.comC h C = 0 then rootS (chsS m.top C) else []
def M.find (m : M) (h : Int) : Option St := (m.vs.find? fun x => decide (x.1 = h)).map (·.2)
def M.findC (m : M) (h : Int) : Nat := if (m.find h).isSome then 0 else if h < m.low then 120 else 5
def M.findR (m : M) (h : Int) : T := match m.find h with | some I => rootS I | none => []
def stay (L : List (Int × St)) (b : Int) (i : Nat) : Bool := decide (i + 1 = L.length) || (match L[i]? with | some x => decide (b ≤ x.1) | none => false)
def upto (L : List (Int × St)) (b : Int) (n : Nat) : List (Int × St) := ((List.range n).filter (stay L b)).filterMap fun i => L[i]?
def M.roots (m : M) : List T := m.vs.map fun x => rootS x.2
def M.prune (m : M) (b : Int) : M := ⟨upto m.vs b m.vs.length, max m.low b, Sto.keepL m.st ((upto m.vs b m.vs.length).map fun x => rootS x.2)⟩
theorem upto_succ (L : List (Int × St)) (b : Int) (n : Nat) (h : n < L.length) : upto L b (n + 1) = upto L b n ++ (if stay L b n then [L[n]] else []) := by
  unfold upto
  rw [List.range_succ, List.filter_append, List.filterMap_append]
  congr 1
  by_cases hs : stay L b n = true
  · simp [hs, List.getElem?_eq_getElem h]
  · simp [hs]
theorem upto_sub (L : List (Int × St)) (b : Int) : (upto L b L.length).Sublist L := by
  have e : (List.range L.length).filterMap (fun i => L[i]?) = L := by
    apply List.ext_getElem?
    intro i
    rcases Nat.lt_or_ge i L.length with h | h
    · have : ∀ n, n ≤ L.length → (List.range n).filterMap (fun i => L[i]?) = L.take n := by
        intro n
        induction n with
        | zero => intro _; rfl
        | succ n ih =>
          intro hn
          rw [List.range_succ, List.filterMap_append, ih (by omega), List.take_succ_eq_append_getElem (by omega)]
          simp [List.getElem?_eq_getElem (show n < L.length by omega)]
      rw [this _ (Nat.le_refl _), List.take_length]
    · have : ∀ n, n ≤ L.length → (List.range n).filterMap (fun i => L[i]?) = L.take n := by
        intro n
        induction n with
        | zero => intro _; rfl
        | succ n ih =>
          intro hn
          rw [List.range_succ, List.filterMap_append, ih (by omega), List.take_succ_eq_append_getElem (by omega)]
          simp [List.getElem?_eq_getElem (show n < L.length by omega)]
      rw [this _ (Nat.le_refl _), List.take_length]
  conv => rhs; rw [← e]
  exact List.Sublist.filterMap _ List.filter_sublist
theorem mem_upto {L : List (Int × St)} {b : Int} {x : Int × St} : x ∈ upto L b L.length ↔ ∃ i, L[i]? = some x ∧ stay L b i = true := by
  unfold upto
  rw [List.mem_filterMap]
  constructor
  · rintro ⟨i, hi, hx⟩
    exact ⟨i, hx, (List.mem_filter.1 hi).2⟩
  · rintro ⟨i, hx, hs⟩
    refine ⟨i, List.mem_filter.2 ⟨List.mem_range.2 ?_, hs⟩, hx⟩
    exact (List.getElem?_eq_some_iff.1 hx).1
/-- What holds of all versions, whatever their sums are. -/
structure M.Good (m : M) : Prop where
  rise : m.vs.Pairwise fun a b => a.1 < b.1
  tree : ∀ x ∈ m.vs, ∃ t, TrS x.2 t
  fit : ∀ x ∈ m.vs, 0 ≤ x.1 ∧ x.1 ≤ maxH
  own : OwnSums m.st
  sto : Sto.Rising m.st
theorem M.Good.zero : M.zero.Good := ⟨List.Pairwise.nil, fun _ h => (by cases h), fun _ h => (by cases h), OwnSums.nil, Sto.rising_nil⟩
theorem M.Good.top {m : M} (h : m.Good) : ∃ t, TrS m.top t := by
  unfold M.top
  cases hl : m.vs.getLast? with
  | none => exact ⟨_, TrS.empty⟩
  | some x => exact h.tree x (List.mem_of_getLast? hl)
theorem M.comC_zero {m : M} {h : Int} {C : St} (hc : m.comC h C = 0) : 0 ≤ h ∧ h ≤ maxH ∧ (∀ x ∈ m.vs, x.1 < h) ∧ m.low ≤ h ∧ chsC m.top C = 0 := by
  unfold M.comC at hc
  split at hc
  · cases hc
  · rename_i h1
    split at hc
    · cases hc
    · rename_i h2
      refine ⟨by omega, by omega, fun x hx => ?_, by omega, hc⟩
      have : ¬ h ≤ x.1 := fun e => h2 (Or.inl ⟨x, hx, e⟩)
      omega
theorem M.Good.com {m : M} (g : m.Good) (h : Int) (C : St) : (m.com h C).Good := by
  unfold M.com
  by_cases hc : m.comC h C = 0
  · rw [if_pos hc]
    obtain ⟨h1, h2, h3, h4, h5⟩ := M.comC_zero hc
    obtain ⟨o1, o2⟩ := putAll_own (nodesS (chsS m.top C)) g.sto g.own
    refine ⟨?_, ?_, ?_, o1, o2⟩
    · refine List.pairwise_append.2 ⟨g.rise, List.pairwise_singleton .., fun a ha b hb => ?_⟩
      rw [List.mem_singleton.1 hb]
      exact h3 a ha
    · intro x hx
      rcases List.mem_append.1 hx with hx | hx
      · exact g.tree x hx
      · rw [List.mem_singleton.1 hx]
        exact chsS_good C g.top h5
    · intro x hx
      rcases List.mem_append.1 hx with hx | hx
      · exact g.fit x hx
      · rw [List.mem_singleton.1 hx]
        exact ⟨h1, h2⟩
  · rw [if_neg hc]
    exact g
theorem keep_own {S : St} (hS : Sto.Rising S) (h : OwnSums S) (l : List T) : OwnSums (Sto.keepL S l) := fun x t hl => by
  rw [Sto.look_keepL hS] at hl
  split at hl
  · exact h x t hl
  · cases hl
theorem M.Good.prune {m : M} (g : m.Good) (b : Int) : (m.prune b).Good :=
  ⟨g.rise.sublist (upto_sub _ _), fun x hx => g.tree x ((upto_sub _ _).subset hx), fun x hx => g.fit x ((upto_sub _ _).subset hx), keep_own g.sto g.own _, Sto.keepL_rising g.sto _⟩
theorem M.find_mem {m : M} {h : Int} {I : St} (e : m.find h = some I) : (h, I) ∈ m.vs := by
  unfold M.find at e
  cases hf : m.vs.find? fun x => decide (x.1 = h) with
  | none => rw [hf] at e; cases e
  | some x =>
    rw [hf] at e
    cases e
    have h1 := List.find?_some hf
    have h2 := List.mem_of_find?_eq_some hf
    have h3 : x.1 = h := of_decide_eq_true h1
    rw [← h3]
    exact h2
theorem M.find_of {m : M} (g : m.Good) {x : Int × St} (hx : x ∈ m.vs) : m.find x.1 = some x.2 := by
  cases hf : m.find x.1 with
  | none =>
    unfold M.find at hf
    rw [Option.map_eq_none_iff, List.find?_eq_none] at hf
    exact absurd (decide_eq_true rfl) (hf x hx)
  | some I =>
    have h1 := M.find_mem hf
    have : ∀ {L : List (Int × St)}, L.Pairwise (fun a b => a.1 < b.1) → ∀ {a b : Int × St}, a ∈ L → b ∈ L → a.1 = b.1 → a = b := by
      intro L hL
      induction hL with
      | nil => intro a b ha; cases ha
      | cons hc _ ih =>
        intro a b ha hb hab
        rcases List.mem_cons.1 ha with rfl | ha' <;> rcases List.mem_cons.1 hb with rfl | hb'
        · rfl
        · have := hc b hb'; omega
        · have := hc a ha'; omega
        · exact ih ha' hb' hab
    have h2 := this g.rise h1 hx rfl
    rw [← h2]
theorem M.find_none {m : M} {h : Int} (e : ∀ x ∈ m.vs, x.1 ≠ h) : m.find h = none := by
  unfold M.find
  rw [Option.map_eq_none_iff, List.find?_eq_none]
  intro x hx
  simpa using e x hx
/-! ### texts -/
theorem clash_more {C : List T} (D : List T) (h : Clash C) : Clash (C ++ D) := by
  obtain ⟨s, hs, t, ht, h1, h2⟩ := h
  exact ⟨s, List.mem_append_left _ hs, t, List.mem_append_left _ ht, h1, h2⟩
theorem of_more {st : St} {C : List T} (D : List T) (h : OfTexts st C) : OfTexts st (C ++ D) :=
  ⟨h.1, h.2, fun x t hl => List.mem_append_left _ (h.3 x t hl)⟩
/-- Each version's nodes are in the store, if no two texts clash. -/
def M.Has (m : M) (C : List T) : Prop := ¬ Clash C → OfTexts m.st C ∧ ∀ x ∈ m.vs, ∀ s ∈ nodesS x.2, s ∈ C ∧ Sto.look m.st (Sto.sumOf s) = some s
theorem M.Has.zero : M.zero.Has [] := fun _ => ⟨OfTexts.nil _, fun _ h => (by cases h)⟩
theorem M.Has.com {m : M} {C : List T} (h : m.Has C) {x : Int} {D : St} (hc : m.comC x D = 0) : (m.com x D).Has (C ++ nodesS (chsS m.top D)) := by
  intro hn
  obtain ⟨h1, h2⟩ := h (fun e => hn (clash_more _ e))
  obtain ⟨p1, p2, p3⟩ := putAll_keep hn (nodesS (chsS m.top D)) (of_more _ h1) (fun t ht => List.mem_append_right _ ht)
  unfold M.com
  rw [if_pos hc]
  refine ⟨p1, fun y hy s hs => ?_⟩
  rcases List.mem_append.1 hy with hy | hy
  · obtain ⟨q1, q2⟩ := h2 y hy s hs
    exact ⟨List.mem_append_left _ q1, p3 _ _ q2⟩
  · rw [List.mem_singleton.1 hy] at hs
    exact ⟨List.mem_append_right _ hs, p2 s hs⟩
theorem M.Has.same {m : M} {C : List T} (h : m.Has C) {x : Int} {D : St} (hc : m.comC x D ≠ 0) : (m.com x D).Has C := by
  unfold M.com
  rw [if_neg hc]
  exact h
theorem M.Has.more {m : M} {C : List T} (h : m.Has C) (D : List T) : m.Has (C ++ D) := fun hn => by
  obtain ⟨h1, h2⟩ := h (fun e => hn (clash_more _ e))
  exact ⟨of_more _ h1, fun x hx s hs => ⟨List.mem_append_left _ (h2 x hx s hs).1, (h2 x hx s hs).2⟩⟩
/-- A version's tree stands in the store. -/
theorem M.Has.inS {m : M} {C : List T} (h : m.Has C) (hn : ¬ Clash C) {x : Int × St} (hx : x ∈ m.vs) {t : Tr} (ht : TrS x.2 t) : t.inS m.st :=
  inS_of ht.ok fun n hn' => ((h hn).2 x hx (Nd.written n) (by rw [nodesS_nodes ht]; exact List.mem_map.2 ⟨n, hn', rfl⟩)).2
theorem M.Has.prune {m : M} {C : List T} (g : m.Good) (h : m.Has C) (b : Int) : (m.prune b).Has C := by
  intro hn
  obtain ⟨h1, h2⟩ := h hn
  refine ⟨⟨Sto.keepL_rising g.sto _, keep_own g.sto g.own _, fun x t hl => ?_⟩, fun x hx s hs => ?_⟩
  · have hl' : Sto.look (Sto.keepL m.st ((upto m.vs b m.vs.length).map fun x => rootS x.2)) x = some t := hl
    rw [Sto.look_keepL g.sto] at hl'
    split at hl'
    · exact h1.3 x t hl'
    · cases hl'
  · have hxm := (upto_sub m.vs b).subset hx
    obtain ⟨q1, q2⟩ := h2 x hxm s hs
    obtain ⟨t, ht⟩ := g.tree x hxm
    have hin := h.inS hn hxm ht
    rw [nodesS_nodes ht] at hs
    obtain ⟨n, hnn, rfl⟩ := List.mem_map.1 hs
    have hnil : ¬ t.isNil := fun e => by rw [Tri.nil_of_isNil e] at hnn; cases hnn
    refine ⟨q1, ?_⟩
    show Sto.look (Sto.keepL m.st ((upto m.vs b m.vs.length).map fun x => rootS x.2)) _ = _
    rw [Sto.look_keepL g.sto, if_pos, q2]
    rw [Sto.reachL_mem g.sto]
    refine reach_nodes t ht.ok hin hnil (reach_root hin hnil ?_) n hnn
    rw [← rootS_tree ht]
    exact List.mem_map.2 ⟨x, hx, rfl⟩
/-- What is loaded is the version. -/
theorem M.Has.load {m : M} {C : List T} (h : m.Has C) (g : m.Good) (hn : ¬ Clash C) {x : Int × St} (hx : x ∈ m.vs) {S : St} {t : Tr} (ht : TrS S t) (hs : t.sum Nd.sumS = rootS x.2) (hin : t.inS m.st) : S = x.2 := by
  obtain ⟨u, hu⟩ := g.tree x hx
  exact ht.same hu hin (h.inS hn hx hu) (by rw [hs, rootS_tree hu])
theorem M.Has.loads {m : M} {C : List T} (h : m.Has C) (g : m.Good) (hn : ¬ Clash C) {x : Int × St} (hx : x ∈ m.vs) : ∃ S t, TrS S t ∧ t.inS m.st ∧ t.sum Nd.sumS = rootS x.2 := by
  obtain ⟨u, hu⟩ := g.tree x hx
  exact ⟨_, u, hu, h.inS hn hx hu, (rootS_tree hu).symm⟩
end Ver
end Go.Proofs.YtjfefphgikncnaaGreatDoor
namespace Go.Proofs.YtjfefphgikncnaaGreatDoor.Ver
open Sto (T St)

theorem stay_iff {L : List (Int × St)} {b : Int} {i : Nat} (h : i < L.length) : stay L b i = true ↔ b ≤ L[i].1 ∨ i + 1 = L.length := by
  unfold stay
  rw [List.getElem?_eq_getElem h]
  simp only [Bool.or_eq_true, decide_eq_true_eq]
  exact Or.comm
theorem rise_inj {L : List (Int × St)} (hL : L.Pairwise fun a b => a.1 < b.1) {i j : Nat} (hi : i < L.length) (hj : j < L.length) (e : L[i].1 = L[j].1) : i = j := by
  rcases Nat.lt_trichotomy i j with h | h | h
  · have := List.pairwise_iff_getElem.1 hL i j hi hj h; omega
  · exact h
  · have := List.pairwise_iff_getElem.1 hL j i hj hi h; omega
theorem upto_len (L : List (Int × St)) (b : Int) : (upto L b L.length).length ≤ L.length := (upto_sub L b).length_le
theorem prune_find {m : M} (g : m.Good) (b : Int) {i : Nat} (h : i < m.vs.length) : (m.prune b).find m.vs[i].1 = if stay m.vs b i = true then some m.vs[i].2 else none := by
  by_cases hs : stay m.vs b i = true
  · rw [if_pos hs]
    exact M.find_of (g.prune b) (mem_upto.2 ⟨i, List.getElem?_eq_getElem h, hs⟩)
  · rw [if_neg hs]
    refine M.find_none fun x hx e => hs ?_
    obtain ⟨j, hj, hsj⟩ := mem_upto.1 hx
    obtain ⟨hjl, rfl⟩ := List.getElem?_eq_some_iff.1 hj
    rw [← rise_inj g.rise hjl h e]
    exact hsj
end Go.Proofs.YtjfefphgikncnaaGreatDoor.Ver
namespace Go.Proofs.YtjfefphgikncnaaGreatDoor
open Sto (T St)
open Tri (Tr Ok)
namespace Ver

theorem chS_len (I : St) (x : T × T) : (chS I x).length ≤ I.length + 1 := by
  unfold chS
  have := del_le I x.1
  split
  · split <;> omega
  · rw [Tri.put_len]; split <;> omega
theorem chsS_len (C : St) : ∀ I : St, (chsS I C).length ≤ I.length + C.length := by
  induction C with
  | nil => intro I; simp [chsS]
  | cons x r ih =>
    intro I
    rw [chsS, List.length_cons]
    have h1 := ih (chS I x)
    have h2 := chS_len I x
    omega
theorem nodes_three {S : St} {t : Tr} (h : TrS S t) : (nodesS S).length ≤ 3 * S.length := by
  rw [nodesS_nodes h, List.length_map, ← Tri.spots_nodes Nd.sumS t [], List.length_map]
  have h1 := Tri.spots_few Nd.sumS h.tree.1 []
  rw [h.tree.2.2] at h1
  simpa [Tri.paths] using h1
theorem putAll_len (L : List T) : ∀ st : St, (putAll st L).length ≤ st.length + L.length := by
  induction L with
  | nil => intro st; simp [putAll]
  | cons t r ih =>
    intro st
    have h1 := ih (Sto.put st (Sto.sumOf t) t)
    have h2 := Sto.put_len st (Sto.sumOf t) t
    have e : putAll st (t :: r) = putAll (Sto.put st (Sto.sumOf t) t) r := rfl
    rw [e, List.length_cons]
    omega
theorem top_com {m : M} {h : Int} {C : St} (hc : m.comC h C = 0) : (m.com h C).top = chsS m.top C := by
  unfold M.com
  rw [if_pos hc]
  unfold M.top
  simp
theorem last_upto (L : List (Int × St)) (b : Int) : (upto L b L.length).getLast? = L.getLast? := by
  by_cases h : L = []
  · subst h; rfl
  · have hp := List.length_pos_iff.2 h
    obtain ⟨n, hn⟩ : ∃ n, L.length = n + 1 := ⟨L.length - 1, by omega⟩
    have hs : stay L b n = true := (stay_iff (by omega)).2 (Or.inr hn.symm)
    conv => lhs; rw [hn]
    rw [upto_succ L b n (by omega), if_pos hs, List.getLast?_append]
    simp
    rw [List.getLast?_eq_getElem?, show L.length - 1 = n from by omega]
    exact (List.getElem?_eq_getElem (show n < L.length by omega)).symm
theorem top_prune (m : M) (b : Int) : (m.prune b).top = m.top := by
  unfold M.top M.prune
  simp only [last_upto]
/-- What at most i commits have made. -/
structure M.Sz (m : M) (i : Nat) : Prop where
  vs : m.vs.length ≤ i
  top : m.top.length ≤ 10 * i
  st : m.st.length ≤ 400 * i
theorem M.Sz.zero : M.zero.Sz 0 := ⟨by simp [M.zero], by simp [M.zero, M.top], by simp [M.zero]⟩
theorem M.Sz.com {m : M} {i : Nat} (h : m.Sz i) (g : m.Good) (hi : i + 1 ≤ 13) (x : Int) {C : St} (hC : C.length ≤ 10) : (m.com x C).Sz (i + 1) := by
  by_cases hc : m.comC x C = 0
  · have h1 := chsS_len C m.top
    have h2 := h.top
    have h3 := h.st
    have h4 := h.vs
    refine ⟨?_, by rw [top_com hc]; omega, ?_⟩
    · unfold M.com; rw [if_pos hc]; simp; omega
    · obtain ⟨t, ht⟩ := chsS_good C g.top (M.comC_zero hc).2.2.2.2
      have h5 := nodes_three ht
      have h6 := putAll_len (nodesS (chsS m.top C)) m.st
      unfold M.com
      rw [if_pos hc]
      show (putAll m.st (nodesS (chsS m.top C))).length ≤ _
      omega
  · unfold M.com
    rw [if_neg hc]
    exact ⟨by have := h.vs; omega, by have := h.top; omega, by have := h.st; omega⟩
theorem M.Sz.prune {m : M} {i : Nat} (h : m.Sz i) (b : Int) : (m.prune b).Sz i := by
  refine ⟨Nat.le_trans (upto_len _ _) h.vs, by rw [top_prune]; exact h.top, Nat.le_trans ?_ h.st⟩
  show (Sto.keepL m.st _).length ≤ m.st.length
  unfold Sto.keepL
  exact List.length_filter_le _ _
theorem M.Sz.more {m : M} {i j : Nat} (h : m.Sz i) (hij : i ≤ j) : m.Sz j := ⟨by have := h.vs; omega, by have := h.top; omega, by have := h.st; omega⟩
/-- An act on versions. -/
def M.act (m : M) (a : Act) : M := if a.kind = 1 then m.prune a.height else m.com a.height a.chg
end Ver
end Go.Proofs.YtjfefphgikncnaaGreatDoor
namespace Go.Proofs.YtjfefphgikncnaaGreatDoor
open Sto (T St)
open Tri (Tr Ok)
namespace Ver

/-- A commit where the newest version's trie is told to have the items I. -/
def M.comCI (m : M) (h : Int) (C I : St) : Nat := if h < 0 ∨ maxH < h then 1 else if (∃ x ∈ m.vs, h ≤ x.1) ∨ h < m.low then 120 else chsC I C
def M.comI (m : M) (h : Int) (C I : St) : M := ⟨m.vs ++ [(h, chsS I C)], m.low, putAll m.st (nodesS (chsS I C))⟩
/-- What may be told of the newest version's trie. -/
def M.Tells (m : M) (I : St) : Prop := (∃ t, TrS I t) ∧ ∀ C, m.Has C → ¬ Clash C → I = m.top
/-- What a commit comes to: refused, or done. -/
inductive M.Com (m : M) (h : Int) (C : St) : M → Int → T → Prop
  | bad (c : Int) (h0 : c ≠ 0) (why : (∀ I, m.comCI h C I ≠ 0) ∨ (∃ I, m.Tells I ∧ m.comCI h C I ≠ 0) ∨ ∀ D, m.Has D → ¬ Clash D → False) : M.Com m h C m c []
  | good (I : St) (ht : m.Tells I) (hc : m.comCI h C I = 0) : M.Com m h C (m.comI h C I) 0 (rootS (chsS I C))
theorem M.comCI_zero {m : M} {h : Int} {C I : St} (hc : m.comCI h C I = 0) : 0 ≤ h ∧ h ≤ maxH ∧ (∀ x ∈ m.vs, x.1 < h) ∧ m.low ≤ h ∧ chsC I C = 0 := by
  unfold M.comCI at hc
  split at hc
  · cases hc
  · rename_i h1
    split at hc
    · cases hc
    · rename_i h2
      refine ⟨by omega, by omega, fun x hx => ?_, by omega, hc⟩
      have : ¬ h ≤ x.1 := fun e => h2 (Or.inl ⟨x, hx, e⟩)
      omega
theorem M.Com.good' {m m' : M} {h : Int} {C : St} {c : Int} {r : T} (k : m.Com h C m' c r) (g : m.Good) : m'.Good := by
  cases k with
  | bad _ _ _ => exact g
  | good I ht hc =>
    obtain ⟨h1, h2, h3, h4, h5⟩ := M.comCI_zero hc
    have hg := chsS_good C ht.1 h5
    obtain ⟨o1, o2⟩ := putAll_own (nodesS (chsS I C)) g.sto g.own
    refine ⟨?_, ?_, ?_, o1, o2⟩
    · refine List.pairwise_append.2 ⟨g.rise, List.pairwise_singleton .., fun a ha b hb => ?_⟩
      rw [List.mem_singleton.1 hb]
      exact h3 a ha
    · intro x hx
      rcases List.mem_append.1 hx with hx | hx
      · exact g.tree x hx
      · rw [List.mem_singleton.1 hx]
        exact hg
    · intro x hx
      rcases List.mem_append.1 hx with hx | hx
      · exact g.fit x hx
      · rw [List.mem_singleton.1 hx]
        exact ⟨h1, h2⟩
/-- How much i commits have made, whatever was told. -/
structure M.Sw (m : M) (i : Nat) : Prop where
  vs : m.vs.length ≤ i
  st : m.st.length ≤ 3072 * i
theorem M.Sw.zero : M.zero.Sw 0 := ⟨by simp [M.zero], by simp [M.zero]⟩
theorem M.Sw.prune {m : M} {i : Nat} (h : m.Sw i) (b : Int) : (m.prune b).Sw i := by
  refine ⟨Nat.le_trans (upto_len _ _) h.vs, Nat.le_trans ?_ h.st⟩
  show (Sto.keepL m.st _).length ≤ m.st.length
  unfold Sto.keepL
  exact List.length_filter_le _ _
theorem M.Com.same {m m' : M} {h : Int} {C : St} {c : Int} {r : T} (k : m.Com h C m' c r) (h0 : c ≠ 0) : m' = m := by
  cases k with
  | bad _ _ _ => rfl
  | good I ht hc => exact absurd rfl h0
/-- A commit that is told exactly. -/
theorem M.Com.of {m : M} (g : m.Good) (h : Int) (C : St) : m.Com h C (m.com h C) (m.comC h C) (m.comR h C) := by
  have ht : m.Tells m.top := ⟨g.top, fun _ _ _ => rfl⟩
  by_cases hc : m.comC h C = 0
  · have e1 : m.com h C = m.comI h C m.top := by unfold M.com; rw [if_pos hc]; rfl
    have e2 : m.comR h C = rootS (chsS m.top C) := by unfold M.comR; rw [if_pos hc]
    rw [e1, e2, hc]
    exact .good _ ht hc
  · have e1 : m.com h C = m := by unfold M.com; rw [if_neg hc]
    have e2 : m.comR h C = [] := by unfold M.comR; rw [if_neg hc]
    rw [e1, e2]
    exact .bad _ (by omega) (Or.inr (Or.inl ⟨m.top, ht, hc⟩))
/-- What is loaded of the newest version's root tells it. -/
theorem M.Tells.load {m : M} (g : m.Good) {I : St} {t : Tr} (ht : TrS I t) (hin : t.inS m.st) (hs : t.sum Nd.sumS = rootS m.top) : m.Tells I := by
  refine ⟨⟨t, ht⟩, fun C h hn => ?_⟩
  cases hl : m.vs.getLast? with
  | none =>
    have e : m.top = [] := by unfold M.top; rw [hl]; rfl
    rw [e] at hs ⊢
    exact ht.same TrS.empty hin trivial (by rw [hs, rootS_tree TrS.empty])
  | some x =>
    have e : m.top = x.2 := by unfold M.top; rw [hl]; rfl
    rw [e] at hs ⊢
    exact h.load g hn (List.mem_of_getLast? hl) ht hs hin
/-- Something is loaded, unless two texts clash. -/
theorem M.Tells.lost {m : M} (g : m.Good) (hb : ∀ S t, TrS S t → t.inS m.st → t.sum Nd.sumS = rootS m.top → False) : ∀ D, m.Has D → ¬ Clash D → False := fun D h hn => by
  cases hl : m.vs.getLast? with
  | none =>
    have e : m.top = [] := by unfold M.top; rw [hl]; rfl
    rw [e] at hb
    exact hb [] .nil TrS.empty trivial (rootS_tree TrS.empty).symm
  | some x =>
    have e : m.top = x.2 := by unfold M.top; rw [hl]; rfl
    rw [e] at hb
    obtain ⟨S, t, h1, h2, h3⟩ := h.loads g hn (List.mem_of_getLast? hl)
    exact hb S t h1 h2 h3
end Ver
end Go.Proofs.YtjfefphgikncnaaGreatDoor
namespace Go.Proofs.YtjfefphgikncnaaGreatDoor
open Go.RowKit
open Sto (T St)

def sumsL (L : List T) : List T := L.map Sto.sumOf
theorem sumsL_take {L : List T} {k : Nat} (h : k < L.length) : sumsL (L.take (k + 1)) = sumsL (L.take k) ++ [Sto.sumOf L[k]] := by
  unfold sumsL
  rw [List.take_succ_eq_append_getElem h, List.map_append]; rfl
theorem sumsL_len (L : List T) : (sumsL L).length = L.length := List.length_map ..
theorem sumsL_at (L : List T) (i : Nat) (h : i < L.length) : (sumsL L)[i]'(by rw [sumsL_len]; exact h) = Sto.sumOf L[i] := List.getElem_map ..
def BadAt (Z L : List T) (i k : Nat) : Prop := Z[i]? = Z[k]? ∧ L[i]? ≠ L[k]?
theorem no_clash {L : List T} (h : ∀ (i k : Nat) (hi : i < L.length) (hk : k < i), ¬ (Sto.sumOf L[i] = Sto.sumOf (L[k]'(by omega)) ∧ L[i] ≠ L[k]'(by omega))) : ¬ Clash L := by
  rintro ⟨s, hs, t, ht, hne, he⟩
  obtain ⟨i, hi, rfl⟩ := List.mem_iff_getElem.1 hs
  obtain ⟨k, hk, rfl⟩ := List.mem_iff_getElem.1 ht
  rcases Nat.lt_trichotomy k i with h1 | h1 | h1
  · exact h i k hi h1 ⟨he, hne⟩
  · subst h1; exact hne rfl
  · exact h k i hk h1 ⟨he.symm, fun e => hne e.symm⟩
def UnlikePost (L : List T) (w : World) (e : Ending) (w' : World) : Prop := ∃ b : Bool, e = .returned (.bool b) ∧ (Clash L → b = true) ∧ Below w.heap.size w w'
theorem no_bad {L : List T} (h : ∀ i, i < L.length → ∀ k, k < i → ¬ BadAt (sumsL L) L i k) : ¬ Clash L := by
  refine no_clash fun i k hi hk hb => h i hi k hk ⟨?_, ?_⟩
  · have h1 := sumsL_at L i hi
    have h2 := sumsL_at L k (by omega)
    rw [List.getElem?_eq_getElem (by rw [sumsL_len]; exact hi), List.getElem?_eq_getElem (by rw [sumsL_len]; omega), h1, h2, hb.1]
  · rw [List.getElem?_eq_getElem hi, List.getElem?_eq_getElem (by omega)]
    exact fun e => hb.2 (Option.some.inj e)
set_option maxRecDepth 100000 in
set_option maxHeartbeats 4000000 in
theorem runlike_any (L : List T) (v : Value) (w : World) (hv : Strs w v L) (hl : L.length ≤ 100000) (hsh : ∀ x ∈ L, x.length ≤ 999) :
    Calls Tryz.prog 23 #[.int .i64 1, v] w (UnlikePost L w) := by
  obtain ⟨A, cap, rfl, hc⟩ := id hv
  have HV := Lib.hid hv
  have HL := Lib.hid hl
  have HTG : Hid (∀ k (h : k < L.length) w', Calls Tryz.prog 53 #[.int .i64 1, .string ⟨L[k].toArray⟩] w' fun e w'' => e = .returned (.string ⟨(Sto.sumOf L[k]).toArray⟩) ∧ Below w'.heap.size w' w'') := Lib.hid (fun k h w' => by
    have := rTagged_any 1 L[k] w' (hsh _ (List.getElem_mem h))
    unfold Sto.sumOf Dig.sum
    rw [if_pos (by decide)]
    exact this)
  have HB0 := Lib.hid (Below.refl w.heap.size w)
  have HN0 := Lib.hid (Own.nil w w.heap.size)
  clear hv hc hsh
  go_enter Tryz.func23, Tryz.ntmps23
  go_wp2
  go_loopw [5, 6] (fun av iv wr => ∃ (k : Nat) (u : Value), u = av ∧ k ≤ L.length ∧ iv = .int .i64 k ∧ Own wr w.heap.size u (sumsL (L.take k)) ∧ Below w.heap.size w wr) (fun _ i _ => L.length - (intOf i).toNat)
  case atStart => exact ⟨0, _, rfl, Nat.zero_le _, rfl, HN0.out, HB0.out⟩
  case round =>
    obtain ⟨k, u, rfl, hk, rfl, hu, hb0⟩ := hrel
    have HB := Lib.hid hb0
    have HU := Lib.hid hu
    by_cases hlt : k < L.length
    · have h1 : (k : Int) < (L.length : Int) := by omega
      have h0 : (0 : Int) ≤ (k : Int) := by omega
      have hnb : (k : Int) ≤ 100000 := by have := HL.out; omega
      obtain ⟨A', cap', hv', hc'⟩ := HV.out.below hb0
      obtain ⟨rfl, -⟩ : A = A' ∧ _ := by simpa using hv'
      obtain ⟨a, rfl, hcell⟩ := hc' k hlt
      have HTK := Lib.hid (sumsL_take hlt)
      have HTL : Hid ((sumsL (L.take k)).length ≤ 100000) := Lib.hid (by rw [sumsL_len, List.length_take]; exact Nat.le_trans (Nat.min_le_right _ _) HL.out)
      have HT := Lib.hid (HTG.out k hlt wr)
      obtain ⟨y, hy⟩ : ∃ y, L[k] = y := ⟨_, rfl⟩
      rw [hy] at hcell HT HTK
      obtain ⟨s, hs⟩ : ∃ s, Sto.sumOf y = s := ⟨_, rfl⟩
      rw [hs] at HTK HT
      clear hu hb0 hv' hc' hy hs
      go_wp2_with fail
      refine HT.out.mono ?_
      rintro e w1 ⟨rfl, hb1⟩
      obtain ⟨g5, c5, w5, r5, o5, b5⟩ := app_one s (HU.out.below hb1) HTL.out (bchain HB.out hb1).size
      have HR5 := Lib.hid r5
      have HO5 := Lib.hid o5
      have HB5 : Hid (Below w.heap.size w w5) := Lib.hid ((bchain HB.out hb1).trans b5)
      clear hb1 r5 o5 b5 hcell
      go_wp2_with (at_builtin; refine wpList_append_run rfl _ _ _ rfl u (.slice (some ⟨w1.heap.size, 0, none⟩) 1 1) _ (by rfl) (by rfl) HR5.out ?_)
      exact ⟨⟨k + 1, _, rfl, by omega, by go_num, by rw [HTK.out]; exact HO5.out, HB5.out⟩, by simp [intOf]; omega⟩
    · obtain rfl : k = L.length := by omega
      have h1 : ¬ ((L.length : Int) < (L.length : Int)) := by omega
      rw [List.take_length] at hu
      have HNB := Lib.hid (@no_bad L)
      have HSL : Hid ((sumsL L).length = L.length) := Lib.hid (sumsL_len L)
      obtain ⟨As, cs, rfl⟩ := own_form hu
      have HU2 := Lib.hid hu
      have HV2 := Lib.hid (HV.out.below hb0)
      obtain ⟨w1, rfl⟩ : ∃ y, y = wr := ⟨_, rfl⟩
      clear hu hb0
      rw [HSL.out]
      obtain ⟨Z, hZ⟩ : ∃ Z, sumsL L = Z := ⟨_, rfl⟩
      have HZS : Hid (Own w1 w.heap.size (.slice As Z.length cs) Z) := Lib.hid (by rw [← hZ]; exact HU2.out)
      rw [hZ] at HNB HSL
      have hzl : Z.length = L.length := HSL.out
      have hl1 := HL.out
      clear hZ HU HU2 HTG HN0 HB0
      go_wp2
      go_loopw [7] (fun iv wr => ∃ i : Nat, i ≤ L.length ∧ iv = .int .i64 i ∧ Below w1.heap.size w1 wr ∧ ∀ i', i' < i → ∀ k, k < i' → ¬ BadAt Z L i' k) (fun i _ => L.length - (intOf i).toNat)
      case atStart => exact ⟨0, Nat.zero_le _, rfl, Below.refl _ _, fun i' h => by omega⟩
      case round =>
        obtain ⟨i, hi, rfl, hb1, hg⟩ := hrel
        have HB1 := Lib.hid hb1
        have HG := Lib.hid hg
        obtain ⟨wo, rfl⟩ : ∃ y, y = wr := ⟨_, rfl⟩
        by_cases hlt : i < L.length
        · have h2 : (i : Int) < (L.length : Int) := by omega
          have h3 : (0 : Int) ≤ (i : Int) := by omega
          have hnb : (i : Int) ≤ 100000 := by omega
          clear hb1 hg
          go_wp2
          go_loopw [8] (fun kv wr => ∃ k : Nat, k ≤ i ∧ kv = .int .i64 k ∧ Below w1.heap.size w1 wr ∧ ∀ k', k' < k → ¬ BadAt Z L i k') (fun k _ => i - (intOf k).toNat)
          case atStart => exact ⟨0, Nat.zero_le _, rfl, HB1.out, fun k' h => by omega⟩
          case round =>
            obtain ⟨k, hk, rfl, hb2, hg2⟩ := hrel
            have HB2 := Lib.hid hb2
            have HG2 := Lib.hid hg2
            by_cases hlk : k < i
            · have k1 : (k : Int) < (i : Int) := by omega
              have k2 : (k : Int) < (L.length : Int) := by omega
              have k3 : (0 : Int) ≤ (k : Int) := by omega
              have knb : (k : Int) ≤ 100000 := by omega
              have hown := HZS.out.below hb2
              obtain ⟨a, ra, ci⟩ := hown.strs_at (Below.refl _ _) i (by omega)
              obtain ⟨a2, ra2, ck⟩ := hown.strs_at (Below.refl _ _) k (by omega)
              subst ra
              obtain rfl : a = a2 := by simpa using ra2
              obtain ⟨A', cap', hv', hc'⟩ := HV2.out.below hb2
              obtain ⟨rfl, -⟩ : A = A' ∧ _ := by simpa using hv'
              obtain ⟨b, rb, di⟩ := hc' i (by omega)
              obtain ⟨b2, rb2, dk⟩ := hc' k (by omega)
              subst rb
              obtain rfl : b = b2 := by simpa using rb2
              have HBA : Hid (BadAt Z L i k ↔ Z[i]'(by omega) = Z[k]'(by omega) ∧ L[i] ≠ L[k]'(by omega)) := Lib.hid (by
                unfold BadAt
                rw [List.getElem?_eq_getElem (by omega), List.getElem?_eq_getElem (by omega), List.getElem?_eq_getElem hlt, List.getElem?_eq_getElem (by omega)]
                simp)
              obtain ⟨zi, hzi⟩ : ∃ x, Z[i]'(by omega) = x := ⟨_, rfl⟩
              obtain ⟨zk, hzk⟩ : ∃ x, Z[k]'(by omega) = x := ⟨_, rfl⟩
              obtain ⟨li, hli⟩ : ∃ x, L[i] = x := ⟨_, rfl⟩
              obtain ⟨lk, hlk2⟩ : ∃ x, L[k]'(by omega) = x := ⟨_, rfl⟩
              rw [hzi] at ci
              rw [hzk] at ck
              rw [hli] at di
              rw [hlk2] at dk
              rw [hzi, hzk, hli, hlk2] at HBA
              clear hb2 hg2 hown ra2 hv' hc' rb2 hzi hzk hli hlk2
              by_cases ez : zi = zk
              · have e1 : (zi == zk) = true := by rw [beq_iff_eq]; exact ez
                have EZ := Lib.hid ez
                clear ez
                by_cases el : li = lk
                · have e2 : (li == lk) = true := by rw [beq_iff_eq]; exact el
                  have e3 : (li != lk) = false := by rw [el]; simp
                  have HNO : Hid (¬ BadAt Z L i k) := Lib.hid (fun h => (HBA.out.1 h).2 el)
                  clear el
                  go_wp2
                  go_quiet (fail)
                  go_wp2
                  go_roundw
                  case rel => exact ⟨k + 1, by omega, by go_num, bel_drewN HB2.out _, fun k' h => by
                    rcases Nat.lt_or_ge k' k with h2 | h2
                    · exact HG2.out k' h2
                    · obtain rfl : k' = k := by omega
                      exact HNO.out⟩
                  case measure => simp [intOf]; omega
                · have e2 : (li == lk) = false := by rw [beq_eq_false_iff_ne]; exact el
                  have e3 : (li != lk) = true := by rw [bne_iff_ne]; exact el
                  clear el
                  go_wp2
                  go_quiet (fail)
                  go_wp2
                  go_ret
                  exact ⟨true, rfl, fun _ => rfl, HB.out.trans (bel_drewN HB2.out _ |>.mono HB.out.size)⟩
              · have e1 : (zi == zk) = false := by rw [beq_eq_false_iff_ne]; exact ez
                have HNO : Hid (¬ BadAt Z L i k) := Lib.hid (fun h => ez (HBA.out.1 h).1)
                clear ez
                go_wp2
                go_quiet (fail)
                go_wp2
                go_roundw
                case rel => exact ⟨k + 1, by omega, by go_num, bel_drewN HB2.out _, fun k' h => by
                  rcases Nat.lt_or_ge k' k with h2 | h2
                  · exact HG2.out k' h2
                  · obtain rfl : k' = k := by omega
                    exact HNO.out⟩
                case measure => simp [intOf]; omega
            · obtain rfl : k = i := by omega
              have k1 : ¬ ((k : Int) < (k : Int)) := by omega
              clear hb2 hg2
              go_wp2
              go_roundw
              case rel => exact ⟨k + 1, by omega, by go_num, HB2.out, fun i' h => by
                rcases Nat.lt_or_ge i' k with h2 | h2
                · exact HG.out i' h2
                · obtain rfl : i' = k := by omega
                  exact HG2.out⟩
              case measure => simp [intOf]; omega
        · obtain rfl : i = L.length := by omega
          have h2 : ¬ ((L.length : Int) < (L.length : Int)) := by omega
          clear hb1 hg
          go_wp2
          go_ret
          exact ⟨false, rfl, fun h => absurd h (HNB.out HG.out), HB.out.trans (HB1.out.mono HB.out.size)⟩
end Go.Proofs.YtjfefphgikncnaaGreatDoor
namespace Go.Proofs.YtjfefphgikncnaaGreatDoor
open Go.RowKit
open Sto (T St)

/-- A slice that has items, wherever it lies. -/
def ItLo (w : World) (v : Value) (L : St) : Prop :=
  ∃ (A : Option Addr) (cap : Nat), v = .slice A L.length cap ∧ (0 < L.length → ∃ b o, A = some ⟨b, o, none⟩ ∧ b < w.heap.size ∧ ∀ i (h : i < L.length), w.cell? ⟨b, o + i * 2, none⟩ = some (.string ⟨L[i].1.toArray⟩) ∧ w.cell? ⟨b, o + i * 2 + 1, none⟩ = some (.string ⟨L[i].2.toArray⟩))
theorem ItLo.below {w w' : World} {v : Value} {L : St} (h : ItLo w v L) (hb : Below w.heap.size w w') : ItLo w' v L := by
  obtain ⟨A, cap, rfl, hc⟩ := h
  refine ⟨A, cap, rfl, fun h0 => ?_⟩
  obtain ⟨b, o, rfl, hlt, hcell⟩ := hc h0
  exact ⟨b, o, rfl, Nat.lt_of_lt_of_le hlt hb.size, fun i hi => ⟨(hb.cell hlt).trans (hcell i hi).1, (hb.cell hlt).trans (hcell i hi).2⟩⟩
theorem ItLo.form {w : World} {v : Value} {L : St} (h : ItLo w v L) : ∃ A cap, v = .slice A L.length cap := by
  obtain ⟨A, cap, rfl, _⟩ := h
  exact ⟨A, cap, rfl⟩
theorem ItLo.at {w : World} {A : Option Addr} {n cap : Nat} {L : St} (h : ItLo w (.slice A n cap) L) (k : Nat) (hk : k < L.length) :
    ∃ b o, A = some ⟨b, o, none⟩ ∧ w.cell? ⟨b, o + k * 2, none⟩ = some (.string ⟨L[k].1.toArray⟩) ∧ w.cell? ⟨b, o + k * 2 + 1, none⟩ = some (.string ⟨L[k].2.toArray⟩) := by
  obtain ⟨A', cap', hv, h1⟩ := h
  obtain ⟨rfl, _⟩ : A = A' ∧ _ := by simpa using hv
  obtain ⟨b, o, rfl, _, hcell⟩ := h1 (by omega)
  exact ⟨b, o, rfl, hcell k hk⟩
theorem ItLo.of_at {w : World} {v : Value} {L : St} (h : ItAt w v L) : ItLo w v L := by
  obtain ⟨A, cap, rfl, _, _⟩ := h.form
  refine ⟨A, cap, rfl, fun h0 => ?_⟩
  have h' := h.inn
  obtain ⟨A', cap', hv, _, _, hc⟩ := h'
  obtain ⟨rfl, _⟩ : A = A' ∧ _ := by simpa using hv
  obtain ⟨b, o, rfl, hlt, hcell⟩ := hc h0
  exact ⟨b, o, rfl, hlt, fun i hi => ⟨hcell i hi 0 _ rfl, hcell i hi 1 _ rfl⟩⟩
/-- A slice of ints of one's own. -/
def IntsO (w : World) (B : Nat) (z : Value) (L : List Int) : Prop := w.ownsRow B 3 1 z L.length (L.map fun x => Value.int .i64 x)
theorem IntsO.below {w w' : World} {B : Nat} {z : Value} {L : List Int} (h : IntsO w B z L) (hb : Below w.heap.size w w') : IntsO w' B z L :=
  row_out (G := fun _ => False) h (Out.of hb) (fun _ _ _ _ hf => hf.elim)
theorem IntsO.form {w : World} {B : Nat} {z : Value} {L : List Int} (h : IntsO w B z L) : ∃ A cap, z = .slice A L.length cap := by
  rcases h.2 with ⟨rfl, h0⟩ | ⟨g, cap, cur, rfl, _⟩
  · exact ⟨none, 0, by rw [h0]⟩
  · exact ⟨_, cap, rfl⟩
theorem IntsO.at {w : World} {B : Nat} {A : Option Addr} {n cap : Nat} {L : List Int} (h : IntsO w B (.slice A n cap) L) (k : Nat) (hk : k < L.length) : ∃ b o, A = some ⟨b, o, none⟩ ∧ B ≤ b ∧ b < w.heap.size ∧ w.cell? ⟨b, o + k, none⟩ = some (.int .i64 L[k]) := by
  rcases h.2 with ⟨hn, h0⟩ | ⟨g, cap', cur, hv, hB, hh, _⟩
  · omega
  · obtain ⟨rfl, _, _⟩ : A = some ⟨g, 0, none⟩ ∧ n = L.length ∧ cap = cap' := by simpa using hv
    have h1 := World.ownsRow.cells h (g := g) rfl k (.int .i64 L[k]) (by simp [List.getElem?_eq_getElem hk])
    refine ⟨g, 0, rfl, hB, lt_of_heap hh, ?_⟩
    rw [Addr.add_mid] at h1
    exact h1
/-- A trie that a change elsewhere leaves as it was. -/
theorem TrAt.outB {F : Nat → Prop} {w w' : World} {g : Nat} {S : St} (h : TrAt w g S) (ho : Out F w w') (hb : ∀ k, F k → ∀ cs t f, w.heap[k]? = some (.cells cs t f) → t ≠ 99 ∧ t ≠ 82) : TrAt w' g S := by
  obtain ⟨top, t, h1, h2, h3⟩ := h
  exact ⟨top, t, ho.heap h1 (fun e => (hb g e _ _ _ h1).2 rfl), h2.change (fun _ _ _ h => h) fun g k p x K s s2 _ hr => ho.heap hr (fun e => (hb g e _ _ _ hr).1 rfl), h3⟩
/-- The relation's next state behind a change of the blocks F alone, and new ones. -/
def VNext (VAt : World → (Nat → Prop) → Nat → Ver.M → Prop) (w : World) (F : Nat → Prop) (v : Nat) (m : Ver.M) (w' : World) : Prop :=
  ∃ F', VAt w' F' v m ∧ Out F w w' ∧ (∀ k, F' k → F k ∨ w.heap.size ≤ k) ∧ Tab w'
/-- What At tells. -/
def AtPost (m : Ver.M) (h : Int) (w : World) (e : Ending) (w' : World) : Prop :=
  match m.find h with
  | some I => LoadPost m.st (rootS I) w e w'
  | none => e = .returned (.tuple #[nilp, .int .i64 (m.findC h)]) ∧ Below w.heap.size w w'
theorem wf_height {x : Int} (h : 0 ≤ x ∧ x ≤ Ver.maxH) : (Lit.int .i64 x).wf = true := by
  unfold Ver.maxH at h
  simp [Lit.wf, IntKind.min, IntKind.max, IntKind.bits, IntKind.signed]
  omega
/-- What the laws ask but for Commit's own trie. -/
structure VerOkL (VAt : World → (Nat → Prop) → Nat → Ver.M → Prop) : Prop where
  part : ∀ {w w' F v m} {G : Nat → Prop}, VAt w F v m → Out G w w' → (∀ k, G k → ¬ F k ∧ ∀ cs t f, w.heap[k]? = some (.cells cs t f) → t ≠ 99 ∧ t ≠ 82) → VAt w' F v m
  old : ∀ {w F v m}, VAt w F v m → ∀ k, F k → k < w.heap.size
  bare : ∀ {w F v m}, VAt w F v m → ∀ k, F k → ∀ cs t f, w.heap[k]? = some (.cells cs t f) → t ≠ 99 ∧ t ≠ 82
  good : ∀ {w F v m}, VAt w F v m → m.Good
  new : ∀ w, Tab w → Calls Tryz.prog 11 #[] w fun e w' => ∃ v F, e = .returned (ptr v) ∧ VAt w' F v .zero ∧ (∀ k, F k → w.heap.size ≤ k) ∧ Below w.heap.size w w'
  commitL : ∀ {w F v m} h z C, VAt w F v m → Tab w → ItLo w z C → C.length ≤ 100 → (∀ x ∈ C, x.1.length ≤ 1000 ∧ x.2.length ≤ 1000) → m.vs.length ≤ 100 → m.st.length ≤ 40000 →
    Calls Tryz.prog 14 #[ptr v, .int .i64 h, z] w fun e w' => ∃ m' c r, m.Com h C m' c r ∧ e = .returned (.tuple #[.string ⟨r.toArray⟩, .int .i64 c]) ∧ VNext VAt w F v m' w'
  root : ∀ {w F v m} h, 0 ≤ h → (Lit.int .i64 h).wf = true → VAt w F v m → Calls Tryz.prog 19 #[ptr v, .int .i64 h] w fun e w' => e = .returned (.tuple #[.string ⟨(m.findR h).toArray⟩, .int .i64 (m.findC h)]) ∧ Below w.heap.size w w'
  at_ : ∀ {w F v m} h, 0 ≤ h → (Lit.int .i64 h).wf = true → VAt w F v m → Calls Tryz.prog 18 #[ptr v, .int .i64 h] w (AtPost m h w)
  heights : ∀ {w F v m}, VAt w F v m → m.vs.length ≤ 100 → Calls Tryz.prog 17 #[ptr v] w fun e w' => ∃ z, e = .returned z ∧ IntsO w' w.heap.size z (m.vs.map (·.1)) ∧ Below w.heap.size w w'
  prune : ∀ {w F v m} b, VAt w F v m → Tab w → m.vs.length ≤ 100 → m.st.length ≤ 40000 →
    Calls Tryz.prog 13 #[ptr v, .int .i64 b] w fun e w' => e = .returned (.int .i64 ((m.vs.length - (m.prune b).vs.length : Nat) : Int)) ∧ VNext VAt w F v (m.prune b) w'
  texts : ∀ {w F v m}, VAt w F v m → m.st.length ≤ 40000 → Calls Tryz.prog 39 #[ptr v] w fun e w' => e = .returned (.int .i64 m.st.length) ∧ Below w.heap.size w w'
/-- What VersStays asks besides: each commit is made of the newest version's own trie. -/
structure VerOk (VAt : World → (Nat → Prop) → Nat → Ver.M → Prop) : Prop extends VerOkL VAt where
  commit : ∀ {w F v m} h z C, VAt w F v m → Tab w → ItLo w z C → C.length ≤ 100 → (∀ x ∈ C, x.1.length ≤ 1000 ∧ x.2.length ≤ 1000) → m.vs.length ≤ 100 → m.st.length ≤ 40000 →
    Calls Tryz.prog 14 #[ptr v, .int .i64 h, z] w fun e w' => e = .returned (.tuple #[.string ⟨(m.comR h C).toArray⟩, .int .i64 (m.comC h C)]) ∧ VNext VAt w F v (m.com h C) w'
theorem VerOkL.keep {VAt : World → (Nat → Prop) → Nat → Ver.M → Prop} (H : VerOkL VAt) {w w' : World} {F : Nat → Prop} {v : Nat} {m : Ver.M} (h : VAt w F v m) (hb : Below w.heap.size w w') : VAt w' F v m :=
  H.part (G := fun _ => False) h (Out.of hb) fun _ hk => hk.elim
end Go.Proofs.YtjfefphgikncnaaGreatDoor
namespace Go.Proofs.YtjfefphgikncnaaGreatDoor
open Go.RowKit Go.ChangeShapes Go.WideShapes
open Sto (T St)

set_option maxRecDepth 100000 in
theorem cellsItem : Tryz.prog.cellsOf 39 = 2 := by kernel_rfl
set_option maxRecDepth 100000 in
theorem item_cells {H : Type} {enc : TypeId × Value → H} {W : World} {fuel : Nat} {cs : List Value} {x : DataW H × List MemPlace} (ht : DataW.trod enc Tryz.prog W 0 (fun _ => true) true fuel 39 cs = some x) :
    ∃ s : T × T, cs = itcl s := by
  obtain ⟨ys, n', _, hy, hcl, hyl, hfs⟩ := DataW.trod_struct Tryz.underlying39 ht
  rw [cellsItem] at hcl
  match cs, hcl, ys, hyl with
  | [v0, v1], _, [y0, y1], _ =>
    have g0 := hfs 0 _ rfl
    have g1 := hfs 1 _ rfl
    simp [cellsS] at g0 g1
    obtain ⟨s0, e0, _, _⟩ := DataW.trod_string Tryz.underlying9 g0
    obtain ⟨s1, e1, _, _⟩ := DataW.trod_string Tryz.underlying9 g1
    obtain rfl : v0 = .string s0 := by simpa using e0
    obtain rfl : v1 = .string s1 := by simpa using e1
    exact ⟨(s0.data.toList, s1.data.toList), by simp [itcl]⟩
end Go.Proofs.YtjfefphgikncnaaGreatDoor
namespace Go.Proofs.YtjfefphgikncnaaGreatDoor.Pw

theorem ofL_eq {L : List M} (h : okL L = true) (N : List S) : (ofL L N : Int) = sumP (pick L N) := by
  have h1 := pick_range h N
  simp only [ofL, h, if_true]
  omega
theorem ofL_mono {L : List M} (h : okL L = true) {A B : List S} (hs : ∀ m ∈ L, m.name ∈ A → m.name ∈ B) : ofL L A ≤ ofL L B := by
  have h1 := ofL_eq h A
  have h2 := ofL_eq h B
  have h3 := sumP_filter_le (L := L) (fun m => decide (m.name ∈ A)) (fun m => decide (m.name ∈ B)) (fun m hm => by have := (okL_mem h m hm).2.2; omega) (fun m hm hA => by
    simp only [decide_eq_true_eq] at hA ⊢
    exact hs m hm hA)
  unfold pick at h1 h2
  omega
/-- The members that are not among bad, up to k. -/
def good (L : List M) (bad : List S) : List S := (L.filter fun m => !decide (m.name ∈ bad)).map (·.name)
theorem good_mem (L : List M) (bad : List S) (s : S) : s ∈ good L bad ↔ (∃ m ∈ L, m.name = s) ∧ s ∉ bad := by
  simp only [good, List.mem_map, List.mem_filter, Bool.not_eq_true', decide_eq_false_iff_not]
  constructor
  · rintro ⟨m, ⟨h1, h2⟩, rfl⟩; exact ⟨⟨m, h1, rfl⟩, h2⟩
  · rintro ⟨⟨m, h1, rfl⟩, h2⟩; exact ⟨m, ⟨h1, h2⟩, rfl⟩
/-- What they have in common with some. -/
def met (L : List M) (bad some : List S) : List S := (good L bad).flatMap fun s => both [s] some
theorem met_empty {L : List M} {bad some : List S} (h : met L bad some = []) : ∀ m ∈ L, m.name ∉ bad → m.name ∉ some := by
  intro m hm hb hs
  have hg := (good_mem L bad m.name).2 ⟨⟨m, hm, rfl⟩, hb⟩
  have hin : m.name ∈ met L bad some := List.mem_flatMap.2 ⟨m.name, hg, (both_mem _ _ _).2 ⟨by simp, hs⟩⟩
  rw [h] at hin
  cases hin
theorem good_count {L : List M} (h : okL L = true) (bad : List S) : ofL L (good L bad) + ofL L bad = tot L := by
  have h1 := ofL_eq h (good L bad)
  have h2 := ofL_eq h bad
  have h4 := ((tot_range L).2.1 h).2
  have h5 := sumP_filter_split L (fun m => decide (m.name ∈ bad))
  have e : pick L (good L bad) = L.filter (fun m => !decide (m.name ∈ bad)) := by
    unfold pick
    apply List.filter_congr
    intro m hm
    have := good_mem L bad m.name
    by_cases hb : m.name ∈ bad
    · have hn : m.name ∉ good L bad := fun hh => (this.1 hh).2 hb
      simp [hb, hn]
    · have hy : m.name ∈ good L bad := this.2 ⟨⟨m, hm, rfl⟩, hb⟩
      simp [hb, hy]
  rw [e] at h1
  unfold pick at h2
  omega
theorem others {L : List M} (h : okL L = true) (bad some : List S) (hbad : ofL L bad ≤ mos L) :
    quo L ≤ ofL L (good L bad) ∧ (ofL L some ≤ mos L ∨ 0 < (met L bad some).length) ∧ 3 * mos L < tot L ∧ 2 * tot L < 3 * quo L := by
  have h1 := good_count h bad
  have h2 := ((tot_range L).2.1 h).1
  have h3 : quo L = 2 * tot L / 3 + 1 := by unfold quo; rw [if_neg (by omega)]
  have h4 : mos L = (tot L - 1) / 3 := rfl
  refine ⟨by omega, ?_, by omega, by omega⟩
  by_cases hm : met L bad some = []
  · left
    have h5 := met_empty hm
    have h6 : ofL L some ≤ ofL L bad := ofL_mono h (fun m hm hs => by
      by_cases hb : m.name ∈ bad
      · exact hb
      · exact absurd hs (h5 m hm hb))
    omega
  · right
    exact Nat.pos_of_ne_zero (fun e => hm (List.eq_nil_of_length_eq_zero e))
end Go.Proofs.YtjfefphgikncnaaGreatDoor.Pw
namespace Go.Proofs.YtjfefphgikncnaaGreatDoor
namespace Ora

abbrev K := List UInt8 × List UInt8
abbrev Sig := K × Bool
def kLt (a b : K) : Bool := decide (a.1 < b.1) || (decide (a.1 = b.1) && decide (a.2 < b.2))
theorem kLt_iff (a b : K) : kLt a b = true ↔ a.1 < b.1 ∨ (a.1 = b.1 ∧ a.2 < b.2) := by simp [kLt]
theorem kLt_irrefl (a : K) : kLt a a = false := by
  cases h : kLt a a with
  | false => rfl
  | true =>
    rcases (kLt_iff a a).1 h with h | ⟨_, h⟩
    · exact absurd h (List.lt_irrefl _)
    · exact absurd h (List.lt_irrefl _)
theorem kLt_trans {a b c : K} (h : kLt a b = true) (k : kLt b c = true) : kLt a c = true := by
  rw [kLt_iff] at *
  rcases h with h | ⟨h1, h2⟩
  · rcases k with k | ⟨k1, k2⟩
    · exact Or.inl (List.lt_trans h k)
    · exact Or.inl (k1 ▸ h)
  · rcases k with k | ⟨k1, k2⟩
    · exact Or.inl (h1 ▸ k)
    · exact Or.inr ⟨h1.trans k1, List.lt_trans h2 k2⟩
theorem kLt_ne {a b : K} (h : kLt a b = true) : a ≠ b := by
  rintro rfl
  rw [kLt_irrefl] at h; cases h
theorem tri (x y : List UInt8) : x < y ∨ x = y ∨ y < x := by
  by_cases h : x < y
  · exact Or.inl h
  · rcases List.le_iff_lt_or_eq.1 (List.not_lt.1 h) with h | h
    · exact Or.inr (Or.inr h)
    · exact Or.inr (Or.inl h.symm)
theorem kLt_total {a b : K} (h : kLt a b = false) (hn : a ≠ b) : kLt b a = true := by
  rw [kLt_iff]
  have h' : ¬ (a.1 < b.1 ∨ (a.1 = b.1 ∧ a.2 < b.2)) := fun k => by rw [(kLt_iff a b).2 k] at h; cases h
  rcases tri a.1 b.1 with h1 | h1 | h1
  · exact absurd (Or.inl h1) h'
  · rcases tri a.2 b.2 with h2 | h2 | h2
    · exact absurd (Or.inr ⟨h1, h2⟩) h'
    · exact absurd (Prod.ext h1 h2) hn
    · exact Or.inr ⟨h1.symm, h2⟩
  · exact Or.inl h1

def look : List Sig → K → Option Bool
  | [], _ => none
  | a :: r, k => if k = a.1 then some a.2 else look r k
def put : List Sig → K → Bool → List Sig
  | [], k, h => [(k, h)]
  | a :: r, k, h => if k = a.1 then (k, a.2 && h) :: r else if kLt k a.1 then (k, h) :: a :: r else a :: put r k h
def Rising (S : List Sig) : Prop := S.Pairwise fun a b => kLt a.1 b.1 = true
theorem rising_nil : Rising [] := List.Pairwise.nil
theorem look_none_of {S : List Sig} {k : K} (h : ∀ a ∈ S, a.1 ≠ k) : look S k = none := by
  induction S with
  | nil => rfl
  | cons a r ih =>
    rw [look, if_neg (fun e => h a (List.mem_cons_self ..) e.symm)]
    exact ih fun b hb => h b (List.mem_cons_of_mem _ hb)
theorem look_mem {S : List Sig} (hS : Rising S) (k : K) (b : Bool) : look S k = some b ↔ (k, b) ∈ S := by
  induction S with
  | nil => simp [look]
  | cons a r ih =>
    obtain ⟨h1, h2⟩ := List.pairwise_cons.1 hS
    rw [look]
    by_cases e : k = a.1
    · rw [if_pos e]
      constructor
      · intro h
        simp only [Option.some.injEq] at h
        exact List.mem_cons.2 (Or.inl (Prod.ext e h.symm))
      · intro h
        rcases List.mem_cons.1 h with h | h
        · rw [← h]
        · exact absurd e.symm (kLt_ne (h1 _ h))
    · rw [if_neg e, ih h2]
      constructor
      · exact fun h => List.mem_cons_of_mem _ h
      · intro h
        rcases List.mem_cons.1 h with h | h
        · exact absurd (by rw [← h]) e
        · exact h
theorem put_keys {S : List Sig} {k : K} {h : Bool} {x : Sig} (hx : x ∈ put S k h) : x.1 = k ∨ ∃ y ∈ S, y.1 = x.1 := by
  induction S with
  | nil => simp [put] at hx; exact Or.inl (by rw [hx])
  | cons a r ih =>
    rw [put] at hx
    split at hx
    · rcases List.mem_cons.1 hx with rfl | hx
      · exact Or.inl rfl
      · exact Or.inr ⟨x, List.mem_cons_of_mem _ hx, rfl⟩
    · split at hx
      · rcases List.mem_cons.1 hx with rfl | hx
        · exact Or.inl rfl
        · exact Or.inr ⟨x, hx, rfl⟩
      · rcases List.mem_cons.1 hx with rfl | hx
        · exact Or.inr ⟨x, List.mem_cons_self .., rfl⟩
        · rcases ih hx with h | ⟨y, hy, e⟩
          · exact Or.inl h
          · exact Or.inr ⟨y, List.mem_cons_of_mem _ hy, e⟩
theorem put_rising {S : List Sig} (hS : Rising S) (k : K) (h : Bool) : Rising (put S k h) := by
  induction S with
  | nil => simp [put, Rising]
  | cons a r ih =>
    obtain ⟨h1, h2⟩ := List.pairwise_cons.1 hS
    rw [put]
    split
    · rename_i e
      exact List.pairwise_cons.2 ⟨fun b hb => by show kLt k b.1 = true; rw [e]; exact h1 b hb, h2⟩
    · rename_i e
      split
      · rename_i l
        refine List.pairwise_cons.2 ⟨fun b hb => ?_, hS⟩
        rcases List.mem_cons.1 hb with rfl | hb
        · exact l
        · exact kLt_trans l (h1 b hb)
      · rename_i l
        refine List.pairwise_cons.2 ⟨fun b hb => ?_, ih h2⟩
        rcases put_keys hb with e' | ⟨y, hy, e'⟩
        · rw [e']; exact kLt_total (by simpa using l) e
        · rw [← e']; exact h1 y hy
/-- What an honest or other step makes of what was there. -/
def over (o : Option Bool) (h : Bool) : Bool := match o with | some b => b && h | none => h
theorem look_put {S : List Sig} (hS : Rising S) (k : K) (h : Bool) (x : K) : look (put S k h) x = if x = k then some (over (look S k) h) else look S x := by
  induction S with
  | nil =>
    simp only [put, look, over]
  | cons a r ih =>
    obtain ⟨h1, h2⟩ := List.pairwise_cons.1 hS
    rw [put]
    by_cases e : k = a.1
    · rw [if_pos e]
      simp only [look]
      rw [if_pos e]
      by_cases ex : x = k
      · rw [if_pos ex, if_pos ex]; rfl
      · rw [if_neg ex, if_neg ex, if_neg (fun q => ex (q.trans e.symm))]
    · rw [if_neg e]
      by_cases l : kLt k a.1 = true
      · rw [if_pos l]
        have hn : look (a :: r) k = none := look_none_of fun b hb => by
          rcases List.mem_cons.1 hb with rfl | hb
          · exact fun q => e q.symm
          · exact fun q => kLt_ne (kLt_trans l (h1 b hb)) q.symm
        rw [hn]
        rw [look]
        rfl
      · rw [if_neg l]
        simp only [look]
        rw [if_neg e, ih h2]
        by_cases ex : x = k
        · rw [if_pos ex, if_pos ex, if_neg (fun q => e (ex.symm.trans q))]
        · rw [if_neg ex, if_neg ex]
theorem put_length (S : List Sig) (k : K) (h : Bool) : (put S k h).length ≤ S.length + 1 := by
  induction S with
  | nil => simp [put]
  | cons a r ih =>
    rw [put]
    split
    · simp
    · split
      · simp
      · simp; omega
/-- Sign: what is there then, and its code. -/
def signP (S : List Sig) (k : K) (h : Bool) : List Sig × Int :=
  if k.1.length < 1 ∨ 6 < k.1.length then (S, 1) else if k.2.length ≠ 32 then (S, 3) else if look S k = none ∧ 1024 ≤ S.length then (S, 2) else (put S k h, 0)
theorem sign_length (S : List Sig) (k : K) (h : Bool) : (signP S k h).1.length ≤ S.length + 1 := by
  unfold signP
  split
  · simp
  · split
    · simp
    · split
      · simp
      · exact put_length S k h
/-- A step that signs. -/
structure St where
  who : List UInt8
  mark : List UInt8
  honest : Bool
  fork : Bool
instance : Inhabited St := ⟨⟨[], [], false, false⟩⟩
def St.key (s : St) : K := (s.who, s.mark)
def St.may (s : St) : Bool := decide (1 ≤ s.who.length) && decide (s.who.length ≤ 6) && decide (s.mark.length = 32)
def step (S : List Sig) (s : St) : List Sig := (signP S s.key s.honest).1
def fillP (l : List St) : List Sig := l.foldl step []
theorem fold_length (l : List St) (S : List Sig) : (l.foldl step S).length ≤ S.length + l.length := by
  induction l generalizing S with
  | nil => simp
  | cons s r ih =>
    have h1 := ih (step S s)
    have h2 := sign_length S s.key s.honest
    simp only [List.foldl_cons, List.length_cons]
    unfold step at h1 h2 ⊢
    omega
theorem fill_length (l : List St) : (fillP l).length ≤ l.length := by
  have := fold_length l []
  simpa [fillP] using this
end Ora
end Go.Proofs.YtjfefphgikncnaaGreatDoor
namespace Go.Proofs.YtjfefphgikncnaaGreatDoor.Ct
open Go.Proofs.YtjfefphgikncnaaGreatDoor.Pw (S M okL okFrom okFrom_mem okFrom_pair okL_mem okL_pair okL_len okM ofL tot quo mos both)
open Go.Proofs.YtjfefphgikncnaaGreatDoor.Ora (Sig)

/-- A certificate. -/
structure C where
  dig : S
  sig : List S
instance : Inhabited C := ⟨⟨[], []⟩⟩
def toM (s : S) : M := ⟨s, 1⟩
/-- Names that rise. -/
def okNs (L : List S) : Bool := okFrom [] (L.map toM)
def may (c : C) : Bool := decide (c.dig.length = 32) && decide (c.sig.length ≤ 7) && okNs c.sig
def names (L : List M) : List S := L.map (·.name)
end Go.Proofs.YtjfefphgikncnaaGreatDoor.Ct
namespace Go.Proofs.YtjfefphgikncnaaGreatDoor
open Go.RowKit Go.MapKept Go.ChangeShapes Go.WideShapes
open Go.Maps (Keyed)
open Go.Proofs.YtjfefphgikncnaaGreatDoor.Ora (K Sig)

def Sgs (w : World) (v : Value) (L : List Sig) : Prop :=
  ∃ (A : Option Addr) (cap : Nat), v = .slice A L.length cap ∧ L.length ≤ cap ∧ (0 < L.length → ∃ b o, A = some ⟨b, o, none⟩ ∧ b < w.heap.size ∧ ∀ i (h : i < L.length),
    w.cell? ⟨b, o + i * 3, none⟩ = some (.string ⟨L[i].1.1.toArray⟩) ∧ w.cell? ⟨b, o + i * 3 + 1, none⟩ = some (.string ⟨L[i].1.2.toArray⟩) ∧ w.cell? ⟨b, o + i * 3 + 2, none⟩ = some (.bool L[i].2))
theorem Sgs.nil (w : World) : Sgs w (.slice none 0 0) [] := ⟨none, 0, rfl, Nat.le_refl _, fun h => absurd h (by simp)⟩
theorem Sgs.out {F : Nat → Prop} {w w' : World} {v : Value} {L : List Sig} (h : Sgs w v L) (hb : Out F w w') (hd : ∀ k cs t f, F k → w.heap[k]? ≠ some (.cells cs t f)) : Sgs w' v L := by
  obtain ⟨A, cap, rfl, hcap, hc⟩ := h
  refine ⟨A, cap, rfl, hcap, fun h0 => ?_⟩
  obtain ⟨b, o, rfl, hlt, hcell⟩ := hc h0
  refine ⟨b, o, rfl, Nat.lt_of_lt_of_le hlt hb.size, fun i hi => ?_⟩
  obtain ⟨h1, h2, h3⟩ := hcell i hi
  have hF : ¬ F b := fun hf => by
    unfold World.cell? at h1
    cases hh : w.heap[b]? with
    | none => simp [hh] at h1
    | some ob =>
      cases ob with
      | cells cs t f => exact hd b _ _ _ hf hh
      | _ => simp [hh] at h1
  exact ⟨hb.cell h1 hF, hb.cell h2 hF, hb.cell h3 hF⟩
theorem Sgs.below {w w' : World} {v : Value} {L : List Sig} (h : Sgs w v L) (hb : Below w.heap.size w w') : Sgs w' v L := h.out (F := fun _ => False) (Out.of hb) (fun _ _ _ _ hf => hf.elim)
theorem Sgs.drew {w : World} {v : Value} {L : List Sig} (h : Sgs w v L) : Sgs w.drew v L := h.below (Below.refl _ w).drew
theorem Sgs.at {w w' : World} {A : Option Addr} {n cap : Nat} {L : List Sig} (h : Sgs w (.slice A n cap) L) (hb : Below w.heap.size w w') (k : Nat) (hk : k < L.length) :
    ∃ b o, A = some ⟨b, o, none⟩ ∧ w'.cell? ⟨b, o + k * 3, none⟩ = some (.string ⟨L[k].1.1.toArray⟩) ∧ w'.cell? ⟨b, o + k * 3 + 1, none⟩ = some (.string ⟨L[k].1.2.toArray⟩) ∧ w'.cell? ⟨b, o + k * 3 + 2, none⟩ = some (.bool L[k].2) := by
  obtain ⟨A', cap', hv, _, hc⟩ := h.below hb
  obtain ⟨rfl, rfl, rfl⟩ : A = A' ∧ n = L.length ∧ cap = cap' := by simpa using hv
  obtain ⟨b, o, rfl, _, hcell⟩ := hc (by omega)
  exact ⟨b, o, rfl, hcell k hk⟩
theorem Sgs.form {w : World} {v : Value} {L : List Sig} (h : Sgs w v L) : ∃ A cap, v = .slice A L.length cap ∧ L.length ≤ cap := by
  obtain ⟨A, cap, rfl, hc, _⟩ := h
  exact ⟨A, cap, rfl, hc⟩
end Go.Proofs.YtjfefphgikncnaaGreatDoor
namespace Go.Proofs.YtjfefphgikncnaaGreatDoor
open Go.RowKit Go.ChangeShapes Go.WideShapes

end Go.Proofs.YtjfefphgikncnaaGreatDoor
