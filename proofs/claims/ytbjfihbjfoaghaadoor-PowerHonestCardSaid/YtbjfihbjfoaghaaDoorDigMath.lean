/- Plain functions on what a log has: what is noted, refused, found; the first clash. -/
import Derived.Test.YtbjfihbjfoaghaaDoorNibMath
namespace Go.Proofs.YtbjfihbjfoaghaaDoor.Dig

/-- A thing that is noted. -/
structure N where
  tag : Int
  text : List UInt8
  dig : List UInt8
theorem N.ext' {a b : N} (h1 : a.tag = b.tag) (h2 : a.text = b.text) (h3 : a.dig = b.dig) : a = b := by
  cases a; cases b; simp_all
instance : DecidableEq N := fun a b =>
  if h : a.tag = b.tag ∧ a.text = b.text ∧ a.dig = b.dig then isTrue (N.ext' h.1 h.2.1 h.2.2) else isFalse (fun e => h (by subst e; exact ⟨rfl, rfl, rfl⟩))
def zero : N := ⟨0, [], []⟩
def isTag (t : Int) : Bool := decide (1 ≤ t) && decide (t ≤ 255)
def putC (L : List N) (n : N) : Int :=
  if isTag n.tag = false then 1 else if n.dig.length ≠ 32 then 3 else if n ∈ L then 0 else if 1024 ≤ L.length then 2 else 0
def taken (L : List N) (n : N) : Prop := isTag n.tag = true ∧ n.dig.length = 32 ∧ n ∉ L ∧ L.length < 1024
instance (L : List N) (n : N) : Decidable (taken L n) := by unfold taken; exact inferInstance
def putL (L : List N) (n : N) : List N := if taken L n then L ++ [n] else L
def find (L : List N) (d : List UInt8) : Option N := L.find? (fun n => decide (n.dig = d))
def clash (L : List N) : Option (N × N) := (L.find? (fun n => decide (find L n.dig ≠ some n))).map (fun n => ((find L n.dig).getD n, n))
/-- By a sum the first of the things that has it. -/
structure Firsts (M L : List N) : Prop where
  here : ∀ n ∈ M, find L n.dig = some n
  all : ∀ n ∈ L, ∃ m ∈ M, m.dig = n.dig
theorem find_none {L : List N} {d : List UInt8} : find L d = none ↔ ∀ n ∈ L, n.dig ≠ d := by
  simp [find]
theorem find_some {L : List N} {d : List UInt8} {n : N} (h : find L d = some n) : n ∈ L ∧ n.dig = d := by
  unfold find at h
  have h1 := List.mem_of_find?_eq_some h
  have h2 := List.find?_some h
  exact ⟨h1, by simpa using h2⟩
theorem find_snoc (L : List N) (n : N) (d : List UInt8) : find (L ++ [n]) d = (find L d).or (if n.dig = d then some n else none) := by
  simp only [find, List.find?_append, List.find?_cons, List.find?_nil]
  by_cases h : n.dig = d <;> simp [h]
theorem Firsts.nil : Firsts [] [] := ⟨fun _ h => by simp at h, fun _ h => by simp at h⟩
theorem Firsts.found {M L : List N} (h : Firsts M L) {d : List UInt8} {m : N} (hm : m ∈ M) (hd : m.dig = d) : find L d = some m := hd ▸ h.here m hm
theorem Firsts.lost {M L : List N} (h : Firsts M L) {d : List UInt8} (hn : ∀ m ∈ M, m.dig ≠ d) : find L d = none := by
  rw [find_none]
  intro n hnL e
  obtain ⟨m, hm, hmd⟩ := h.all n hnL
  exact hn m hm (hmd.trans e)
theorem Firsts.new {M L : List N} (h : Firsts M L) {n : N} (hn : ∀ m ∈ M, m.dig ≠ n.dig) : Firsts (M ++ [n]) (L ++ [n]) := by
  have hl := h.lost hn
  constructor
  · intro m hm
    rw [find_snoc]
    rcases List.mem_append.1 hm with hm | hm
    · rw [h.here m hm]; rfl
    · obtain rfl : m = n := by simpa using hm
      rw [hl]; simp
  · intro k hk
    rcases List.mem_append.1 hk with hk | hk
    · obtain ⟨m, hm, e⟩ := h.all k hk
      exact ⟨m, List.mem_append_left _ hm, e⟩
    · exact ⟨n, List.mem_append_right _ (by simp), by obtain rfl : k = n := (by simpa using hk); rfl⟩
theorem Firsts.old {M L : List N} (h : Firsts M L) {n m : N} (hm : m ∈ M) (e : m.dig = n.dig) : Firsts M (L ++ [n]) := by
  constructor
  · intro k hk
    rw [find_snoc, h.here k hk]; rfl
  · intro k hk
    rcases List.mem_append.1 hk with hk | hk
    · exact h.all k hk
    · exact ⟨m, hm, by obtain rfl : k = n := (by simpa using hk); exact e⟩
theorem putL_len (L : List N) (n : N) (h : L.length ≤ 1024) : (putL L n).length ≤ 1024 := by
  unfold putL
  split
  · rename_i ht; have := ht.2.2.2; simp; omega
  · exact h
theorem putL_mem {L : List N} {n m : N} (h : m ∈ putL L n) : m ∈ L ∨ m = n := by
  unfold putL at h
  split at h
  · simpa using h
  · exact Or.inl h
theorem putL_nodup {L : List N} {n : N} (h : L.Nodup) : (putL L n).Nodup := by
  unfold putL
  split
  · rename_i ht
    rw [List.nodup_append]
    refine ⟨h, by simp, ?_⟩
    intro a ha b hb e
    obtain rfl : b = n := by simpa using hb
    exact ht.2.2.1 (e ▸ ha)
  · exact h
end Go.Proofs.YtbjfihbjfoaghaaDoor.Dig
