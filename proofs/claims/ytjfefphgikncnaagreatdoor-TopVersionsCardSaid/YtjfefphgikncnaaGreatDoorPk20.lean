/- ArgCert, ArgVActs, VerLong, VerWorks, RegionInv, TriCover2, TriShow, ProofMath, ProofPlain, ProofLaw, BookLend, StrsC, ProofFirst, ProofCut -/
import Derived.Test.YtjfefphgikncnaaGreatDoorPk19
import Derived.RegionTactic
import Derived.Deep.RegionHeld3
import Derived.Test.YtjfefphgikncnaaGreatDoorPk16
import Derived.Test.YtjfefphgikncnaaGreatDoorPk14
import Derived.Test.YtjfefphgikncnaaGreatDoorPk18
import Derived.Test.YtjfefphgikncnaaGreatDoorPk03
import Derived.Test.YtjfefphgikncnaaGreatDoorPk04
import Derived.Test.YtjfefphgikncnaaGreatDoorPk12
import Derived.Test.YtjfefphgikncnaaGreatDoorPk07
import Derived.Test.YtjfefphgikncnaaGreatDoorPk09
namespace Go.Proofs.YtjfefphgikncnaaGreatDoor
open Go.RowKit Go.ChangeShapes Go.WideShapes
open Go.Proofs.YtjfefphgikncnaaGreatDoor.Pw (M)

/-- A step that signs a digest's mark. -/
structure Ct.St where
  tag : Int
  who : List UInt8
  sum : List UInt8
  dis : Bool
instance : Inhabited Ct.St := ⟨⟨0, [], [], false⟩⟩
def Css (w : World) (v : Value) (L : List Ct.St) : Prop :=
  ∃ (A : Option Addr) (cap : Nat), v = .slice A L.length cap ∧ (0 < L.length → ∃ b o, A = some ⟨b, o, none⟩ ∧ b < w.heap.size ∧ ∀ i (h : i < L.length),
    w.cell? ⟨b, o + i * 4, none⟩ = some (.int .i64 L[i].tag) ∧ w.cell? ⟨b, o + i * 4 + 1, none⟩ = some (.string ⟨L[i].who.toArray⟩) ∧ w.cell? ⟨b, o + i * 4 + 2, none⟩ = some (.string ⟨L[i].sum.toArray⟩) ∧ w.cell? ⟨b, o + i * 4 + 3, none⟩ = some (.bool L[i].dis))
theorem Css.below {w w' : World} {v : Value} {L : List Ct.St} (h : Css w v L) (hb : Below w.heap.size w w') : Css w' v L := by
  obtain ⟨A, cap, rfl, hc⟩ := h
  refine ⟨A, cap, rfl, fun h0 => ?_⟩
  obtain ⟨b, o, rfl, hlt, hcell⟩ := hc h0
  refine ⟨b, o, rfl, Nat.lt_of_lt_of_le hlt hb.size, fun i hi => ?_⟩
  obtain ⟨h1, h2, h3, h4⟩ := hcell i hi
  exact ⟨(hb.cell hlt).trans h1, (hb.cell hlt).trans h2, (hb.cell hlt).trans h3, (hb.cell hlt).trans h4⟩
theorem Css.at {w w' : World} {A : Option Addr} {n cap : Nat} {L : List Ct.St} (h : Css w (.slice A n cap) L) (hb : Below w.heap.size w w') (k : Nat) (hk : k < L.length) :
    ∃ b o, A = some ⟨b, o, none⟩ ∧ b < w.heap.size ∧ w'.cell? ⟨b, o + k * 4, none⟩ = some (.int .i64 L[k].tag) ∧ w'.cell? ⟨b, o + k * 4 + 1, none⟩ = some (.string ⟨L[k].who.toArray⟩) ∧ w'.cell? ⟨b, o + k * 4 + 2, none⟩ = some (.string ⟨L[k].sum.toArray⟩) ∧ w'.cell? ⟨b, o + k * 4 + 3, none⟩ = some (.bool L[k].dis) := by
  obtain ⟨A0, cap0, hv0, hc0⟩ := h
  obtain ⟨rfl, rfl, rfl⟩ : A = A0 ∧ n = L.length ∧ cap = cap0 := by simpa using hv0
  obtain ⟨b, o, rfl, hlt, hcell⟩ := hc0 (by omega)
  obtain ⟨h1, h2, h3, h4⟩ := hcell k hk
  exact ⟨b, o, rfl, hlt, (hb.cell hlt).trans h1, (hb.cell hlt).trans h2, (hb.cell hlt).trans h3, (hb.cell hlt).trans h4⟩
theorem Css.form {w : World} {v : Value} {L : List Ct.St} (h : Css w v L) : ∃ A cap, v = .slice A L.length cap := by
  obtain ⟨A, cap, rfl, _⟩ := h
  exact ⟨A, cap, rfl⟩

end Go.Proofs.YtjfefphgikncnaaGreatDoor
namespace Go.Proofs.YtjfefphgikncnaaGreatDoor
open Go.RowKit Go.ChangeShapes Go.WideShapes
open Sto (T St)

instance : Inhabited Ver.Act := ⟨⟨0, 0, []⟩⟩
/-- A slice of acts. -/
def VActs (w : World) (v : Value) (L : List Ver.Act) : Prop :=
  ∃ (A : Option Addr) (cap : Nat), v = .slice A L.length cap ∧ (0 < L.length → ∃ b o, A = some ⟨b, o, none⟩ ∧ b < w.heap.size ∧ ∀ i (h : i < L.length), ∃ z,
    w.cell? ⟨b, o + i * 3, none⟩ = some (.int .i64 L[i].kind) ∧ w.cell? ⟨b, o + i * 3 + 1, none⟩ = some (.int .i64 L[i].height) ∧ w.cell? ⟨b, o + i * 3 + 2, none⟩ = some z ∧ ItLo w z L[i].chg)
theorem VActs.below {w w' : World} {v : Value} {L : List Ver.Act} (h : VActs w v L) (hb : Below w.heap.size w w') : VActs w' v L := by
  obtain ⟨A, cap, rfl, hc⟩ := h
  refine ⟨A, cap, rfl, fun h0 => ?_⟩
  obtain ⟨b, o, rfl, hlt, hcell⟩ := hc h0
  refine ⟨b, o, rfl, Nat.lt_of_lt_of_le hlt hb.size, fun i hi => ?_⟩
  obtain ⟨z, h1, h2, h3, h4⟩ := hcell i hi
  exact ⟨z, (hb.cell hlt).trans h1, (hb.cell hlt).trans h2, (hb.cell hlt).trans h3, h4.below hb⟩
theorem VActs.form {w : World} {v : Value} {L : List Ver.Act} (h : VActs w v L) : ∃ A cap, v = .slice A L.length cap := by
  obtain ⟨A, cap, rfl, _⟩ := h
  exact ⟨A, cap, rfl⟩
theorem VActs.at {w : World} {A : Option Addr} {n cap : Nat} {L : List Ver.Act} (h : VActs w (.slice A n cap) L) (k : Nat) (hk : k < L.length) :
    ∃ b o z, A = some ⟨b, o, none⟩ ∧ w.cell? ⟨b, o + k * 3, none⟩ = some (.int .i64 L[k].kind) ∧ w.cell? ⟨b, o + k * 3 + 1, none⟩ = some (.int .i64 L[k].height) ∧ w.cell? ⟨b, o + k * 3 + 2, none⟩ = some z ∧ ItLo w z L[k].chg := by
  obtain ⟨A', cap', hv, h1⟩ := h
  obtain ⟨rfl, _⟩ : A = A' ∧ _ := by simpa using hv
  obtain ⟨b, o, rfl, _, hcell⟩ := h1 (by omega)
  obtain ⟨z, q⟩ := hcell k hk
  exact ⟨b, o, z, rfl, q⟩
/-- A slice of items inside something else. -/
theorem items_trod {H : Type} {enc : TypeId × Value → H} {W : World} {fuel : Nat} {v : Value} {z : DataW H × List MemPlace}
    (hf : DataW.trod enc Tryz.prog W 0 (fun _ => true) true fuel 31 [v] = some z) : ∃ L, ItLo W v L := by
  rcases Go.Deep.open_slice Tryz.underlying31 hf with ⟨hcs, _⟩ | ⟨x, l, c, m, n, D, Pl, hcs, _, hl, hm, hmm, hx, hel⟩
  · obtain rfl : v = .slice none 0 0 := by simpa using hcs
    exact ⟨[], none, 0, rfl, fun h => absurd h (by simp)⟩
  · obtain rfl : v = .slice (some x) l c := by simpa using hcs
    simp only [if_true] at hmm
    subst hmm
    rw [cellsItem] at hel
    have key : ∀ i, i < l → ∃ q : T × T, W.cell? ((x.add (i * 2)).add 0) = some (.string ⟨q.1.toArray⟩) ∧ W.cell? ((x.add (i * 2)).add 1) = some (.string ⟨q.2.toArray⟩) := fun i hi => by
      obtain ⟨cs', hc, ht⟩ := hel i (by omega)
      obtain ⟨_, _, hat⟩ := World.cells?_some hc
      obtain ⟨q, rfl⟩ := item_cells ht
      exact ⟨q, by simpa [itcl] using hat 0 (by omega), by simpa [itcl] using hat 1 (by omega)⟩
    obtain ⟨f, hf⟩ := Go.Deep.choose_lt (fun i hi => key i hi)
    have hlen : ((List.range l).map f).length = l := by simp
    refine ⟨(List.range l).map f, some x, _, by rw [hlen], fun h0 => ?_⟩
    rw [hlen] at h0
    obtain ⟨b, o, sp⟩ := x
    obtain ⟨q0, _⟩ := hf 0 h0
    have hcell' : W.cell? ⟨b, o, sp⟩ = some (.string ⟨(f 0).1.toArray⟩) := by simpa [Addr.add] using q0
    obtain rfl := cell_spot hcell'
    refine ⟨b, o, rfl, block_lt_of_cell hcell', fun i hi => ?_⟩
    rw [hlen] at hi
    obtain ⟨q0, q1⟩ := hf i hi
    rw [Addr.add_mid, Addr.add_mid] at q0 q1
    simpa using ⟨q0, q1⟩
end Go.Proofs.YtjfefphgikncnaaGreatDoor
namespace Go.Proofs.YtjfefphgikncnaaGreatDoor
open Go.RowKit
open Sto (T St)

def Ver.FitC (C : St) : Prop := C.length ≤ 10 ∧ ∀ x ∈ C, x.1.length ≤ 100 ∧ x.2.length ≤ 100
def Ver.Fit (L : List Ver.Act) : Prop := L.length ≤ 10 ∧ ∀ a ∈ L, Ver.FitC a.chg
end Go.Proofs.YtjfefphgikncnaaGreatDoor
namespace Go.Proofs.YtjfefphgikncnaaGreatDoor
open Go.RowKit
open Sto (T St)
namespace Ver
def i1 : St := [([97], [49])]
def i2 : St := [([97], [50])]
def r1 : T := [179, 96, 70, 33, 115, 212, 72, 145, 239, 123, 146, 240, 71, 3, 73, 52, 245, 159, 167, 130, 109, 137, 73, 71, 223, 255, 148, 59, 122, 58, 38, 210]
def r2 : T := [213, 234, 176, 218, 212, 170, 0, 6, 9, 60, 154, 58, 74, 162, 209, 171, 124, 34, 137, 42, 156, 150, 138, 82, 206, 60, 51, 62, 110, 11, 13, 199]
def t1 : T := [1, 1, 2, 32, 97, 1, 1, 49]
def t2 : T := [1, 1, 2, 32, 97, 1, 1, 50]
theorem n1 : nodesS i1 = [t1] := by decide +kernel
theorem n2 : nodesS i2 = [t2] := by decide +kernel
theorem s1 : Sto.sumOf t1 = r1 := by decide +kernel
theorem s2 : Sto.sumOf t2 = r2 := by decide +kernel
theorem q1 : rootS i1 = r1 := by decide +kernel
theorem q2 : rootS i2 = r2 := by decide +kernel
theorem x1 : chsS [] i1 = i1 := by decide +kernel
theorem x2 : chsS i1 i2 = i2 := by decide +kernel
def k1 : M := ⟨[(1, i1)], 0, [(r1, t1)]⟩
def k2 : M := ⟨[(1, i1), (2, i2)], 0, [(r1, t1), (r2, t2)]⟩
def k3 : M := ⟨[(2, i2)], 2, [(r2, t2)]⟩
theorem c1 : M.zero.comC 1 i1 = 0 := by decide +kernel
theorem c2 : k1.comC 2 i2 = 0 := by decide +kernel
set_option maxRecDepth 100000 in
theorem m1 : M.zero.com 1 i1 = k1 := by
  unfold M.com
  rw [if_pos c1]
  show (⟨[] ++ [(1, chsS [] i1)], 0, putAll [] (nodesS (chsS [] i1))⟩ : M) = k1
  rw [x1, n1]
  show (⟨[(1, i1)], 0, Sto.put [] (Sto.sumOf t1) t1⟩ : M) = k1
  rw [s1]
  have e : Sto.put [] r1 t1 = [(r1, t1)] := by decide +kernel
  rw [e]
  rfl
set_option maxRecDepth 100000 in
theorem m2 : k1.com 2 i2 = k2 := by
  unfold M.com
  rw [if_pos c2]
  show (⟨[(1, i1)] ++ [(2, chsS i1 i2)], 0, putAll [(r1, t1)] (nodesS (chsS i1 i2))⟩ : M) = k2
  rw [x2, n2]
  have e0 : putAll [(r1, t1)] [t2] = Sto.put [(r1, t1)] (Sto.sumOf t2) t2 := rfl
  rw [e0, s2]
  have e : Sto.put [(r1, t1)] r2 t2 = [(r1, t1), (r2, t2)] := by decide +kernel
  rw [e]
  rfl
set_option maxRecDepth 100000 in
theorem m3 : k2.prune 2 = k3 := by
  unfold M.prune
  have e1 : upto k2.vs 2 k2.vs.length = [(2, i2)] := by decide +kernel
  rw [e1]
  show (⟨[(2, i2)], max 0 2, Sto.keepL k2.st [rootS i2]⟩ : M) = k3
  rw [q2]
  have e2 : Sto.keepL k2.st [r2] = [(r2, t2)] := by decide +kernel
  rw [e2]
  rfl
theorem o1 : M.zero.comR 1 i1 = r1 := by
  unfold M.comR
  rw [if_pos c1]
  show rootS (chsS [] i1) = r1
  rw [x1, q1]
theorem o2 : k1.comR 2 i2 = r2 := by
  unfold M.comR
  rw [if_pos c2]
  show rootS (chsS i1 i2) = r2
  rw [x2, q2]
theorem g2 : k2.Good := by rw [← m2, ← m1]; exact (M.Good.zero.com 1 i1).com 2 i2
theorem h1 : k1.Has ([] ++ [t1]) := by
  have a1 := M.Has.zero.com c1
  rw [m1] at a1
  have e1 : nodesS (chsS M.zero.top i1) = [t1] := by
    show nodesS (chsS [] i1) = [t1]
    rw [x1, n1]
  rw [e1] at a1
  exact a1
theorem h2 : k2.Has ([t1] ++ [t2]) := by
  have a1 := M.Has.zero.com c1
  rw [m1] at a1
  have a2 := a1.com c2
  rw [m2] at a2
  have e1 : nodesS (chsS M.zero.top i1) = [t1] := by
    show nodesS (chsS [] i1) = [t1]
    rw [x1, n1]
  have e2 : nodesS (chsS k1.top i2) = [t2] := by
    show nodesS (chsS i1 i2) = [t2]
    rw [x2, n2]
  rw [e1, e2] at a2
  exact a2
theorem h3 : k3.Has ([t1] ++ [t2]) := by rw [← m3]; exact h2.prune g2 2
theorem g3 : k3.Good := by rw [← m3]; exact g2.prune 2
theorem f1 : k2.find 1 = some i1 := by decide +kernel
theorem f2 : k3.find 1 = none := by decide +kernel
theorem f3 : k3.find 2 = some i2 := by decide +kernel
theorem f4 : k3.findC 1 = 120 := by decide +kernel
/-- What is loaded where no two texts clash. -/
theorem load_one {m : M} {C : List T} (h : m.Has C) (g : m.Good) (hn : ¬ Clash C) {x : Int × St} (hx : x ∈ m.vs) {w w' : World} {e : Ending} (hp : LoadPost m.st (rootS x.2) w e w') :
    ∃ gt, e = .returned (.tuple #[ptr gt, .int .i64 0]) ∧ TrAt w' gt x.2 ∧ Below w.heap.size w w' := by
  obtain ⟨z, c, rfl, hb, ⟨rfl, gt, S, t, rfl, h1, h2, h3, h4⟩ | ⟨_, _, hbad⟩⟩ := hp
  · have e1 := h.load g hn hx h2 h3 h4
    subst e1
    exact ⟨gt, rfl, h1, hb⟩
  · obtain ⟨S, t, h1, h2, h3⟩ := h.loads g hn hx
    exact (hbad S t h1 h2 h3).elim
end Ver

theorem height_at (m : Ver.M) (i : Nat) (h : i < m.vs.length) : (m.vs.map (·.1))[i]'(by rw [List.length_map]; exact h) = m.vs[i].1 := List.getElem_map ..
theorem one_items (w : World) (x y : T) : ItLo (w.alloc (.cells #[.string ⟨x.toArray⟩, .string ⟨y.toArray⟩] 39)) (.slice (some ⟨w.heap.size, 0, none⟩) 1 1) [(x, y)] :=
  ItLo.of_at (OwnI.at_ (B := w.heap.size) ⟨rfl, Or.inr ⟨w.heap.size, 1, _, rfl, Nat.le_refl _, heap_alloc_new w _, by simp, by simp [maxLen], rfl, rfl⟩⟩)
/-- Behind New: all that lay stays. -/
theorem next_below {VAt : World → (Nat → Prop) → Nat → Ver.M → Prop} {w w' : World} {F : Nat → Prop} {v B : Nat} {m : Ver.M} (h : VNext VAt w F v m w') (hF : ∀ k, F k → B ≤ k) (hB : B ≤ w.heap.size) : Below B w w' := by
  obtain ⟨F', _, ho, _, _⟩ := h
  exact ho.below hF hB
end Go.Proofs.YtjfefphgikncnaaGreatDoor
namespace Go.Proofs.YtjfefphgikncnaaGreatDoor
open Go

end Go.Proofs.YtjfefphgikncnaaGreatDoor
namespace Go.Proofs.YtjfefphgikncnaaGreatDoor
open Go.RowKit
open Sto (T)
open Tri (Tr Ok upd ix hb lay splitT Trim rank)
open Go.Proofs.YtjfefphgikncnaaGreatDoor.Nd (N)

/-- A variable of the region's own: made once b, and holding P once d. -/
def CovR (w0 w : World) (b d : Option Bool) (P : T) (v : Value) : Prop :=
  b = some true → ∃ c, v = .pointer (some ⟨c, 0, none⟩) ∧ w0.heap.size ≤ c ∧ w.heap[c]? = some (.cells #[.string ⟨(if d = some true then P else []).toArray⟩] 9 (0, 0))
theorem CovR.below {w0 w w' : World} {b d : Option Bool} {P : T} {v : Value} (h : CovR w0 w b d P v) (hb : Below w.heap.size w w') : CovR w0 w' b d P v := fun hx => by
  obtain ⟨c, e, h1, h2⟩ := h hx
  exact ⟨c, e, h1, (hb.block c (lt_of_heap h2)).trans h2⟩
end Go.Proofs.YtjfefphgikncnaaGreatDoor
namespace Go.Proofs.YtjfefphgikncnaaGreatDoor
open Go.RowKit
open Sto (T St)
open Tri (Tr)

def trailS (S : St) (k : T) : List T := wantedT (fun p => Tri.begins p (Nib.ofL k)) (treeS S)
theorem strail_any {g : Nat} {S : St} (k : T) (w : World) (h : TrAt w g S) (hl : k.length ≤ 1000) :
    Calls Tryz.prog 57 #[ptr g, .string ⟨k.toArray⟩] w (TextsPost w (trailS S k)) := by
  obtain ⟨top, t, h1, h2, h3⟩ := h
  unfold trailS
  rw [treeS_of h3]
  exact trail_any k w hl h1 (h3.sealed h2)
end Go.Proofs.YtjfefphgikncnaaGreatDoor
namespace Go.Proofs.YtjfefphgikncnaaGreatDoor
open Sto (T St)
open Tri (Tr Ok hb ix)
open Go.Proofs.YtjfefphgikncnaaGreatDoor.Nd (N)
namespace Prf

/-- What a node says of what is left: the sum that is sought next with what is left then, or a value. -/
def next (n : N) (l : T) : (T × T) ⊕ T :=
  if n.kind = 1 then .inr (if n.path = l then n.val else [])
  else if n.kind = 2 then (if l.take n.path.length = n.path then .inl (n.kids.getD 0 [], l.drop n.path.length) else .inr [])
  else match l with
    | [] => .inr n.val
    | b :: q => if n.kids.getD b.toNat [] = [] then .inr [] else .inl (n.kids.getD b.toNat [], q)
/-- To follow what is left from a sum by just these nodes. -/
def follow : T → T → List T → Option T
  | _, _, [] => none
  | s, l, x :: r =>
    if Sto.sumOf x = s ∧ (Nd.dec x).2 = 0 then
      match next (Nd.dec x).1 l with
      | .inl p => follow p.1 p.2 r
      | .inr v => if r = [] then some v else none
    else none
def verify (root key : T) (nodes : List T) : T × Bool × Nat :=
  if Tri.keyed key then
    (if root = [] then (if nodes = [] then ([], false, 0) else ([], false, 130))
    else match follow root (Nib.ofL key) nodes with
      | some v => (v, decide (v ≠ []), 0)
      | none => ([], false, 130))
  else ([], false, 1)
/-! ### the nodes on the way -/
def trail : Tr → T → List N
  | .nil, _ => []
  | .leaf p v, _ => [Tr.node Nd.sumS (.leaf p v)]
  | .ext p t, l => Tr.node Nd.sumS (.ext p t) :: (if l.take p.length = p then trail t (l.drop p.length) else [])
  | .br v k, [] => [Tr.node Nd.sumS (.br v k)]
  | .br v k, b :: q => Tr.node Nd.sumS (.br v k) :: (if b.toNat ≤ 15 then trail (k (ix b)) q else [])
theorem spots_pre (t : Tr) : ∀ (p : T), ∀ x ∈ t.spots Nd.sumS p, ∃ q, x.1 = p ++ q := by
  induction t with
  | nil => intro p x hx; cases hx
  | leaf q v => intro p x hx; rw [List.mem_singleton.1 hx]; exact ⟨[], by simp⟩
  | ext q t ih =>
    intro p x hx
    rcases List.mem_cons.1 hx with rfl | hx
    · exact ⟨[], by simp⟩
    · obtain ⟨r, hr⟩ := ih _ x hx
      exact ⟨q ++ r, by rw [hr, List.append_assoc]⟩
  | br v k ih =>
    intro p x hx
    rcases List.mem_cons.1 hx with rfl | hx
    · exact ⟨[], by simp⟩
    · obtain ⟨i, _, hi⟩ := List.mem_flatMap.1 hx
      obtain ⟨r, hr⟩ := ih i _ x hi
      exact ⟨[hb i] ++ r, by rw [hr, List.append_assoc]⟩
theorem begins_app (p q l : T) : Tri.begins (p ++ q) (p ++ l) = Tri.begins q l := by
  unfold Tri.begins
  rw [List.length_append, List.take_append, List.take_of_length_le (Nat.le_add_right _ _), Nat.add_sub_cancel_left]
  simp
theorem begins_self (p l : T) : Tri.begins p (p ++ l) = true := by
  unfold Tri.begins
  simp
/-- Of a tree at a place that is not ahead of the mark no node is ahead of it. -/
theorem none_of {t : Tr} {p m : T} (h : Tri.begins p m = false) : ((t.spots Nd.sumS p).filter fun x => Tri.begins x.1 m) = [] := by
  rw [List.filter_eq_nil_iff]
  intro x hx
  obtain ⟨q, hq⟩ := spots_pre t p x hx
  have h1 : m.take p.length ≠ p := of_decide_eq_false h
  intro hb
  have h2 : m.take (p ++ q).length = p ++ q := by rw [← hq]; exact of_decide_eq_true hb
  apply h1
  have h3 := congrArg (List.take p.length) h2
  rw [List.take_take, List.length_append, Nat.min_eq_left (by omega), List.take_left] at h3
  exact h3
theorem begins_ext (p q l : T) : Tri.begins (p ++ q) (p ++ l) = decide (l.take q.length = q) := by rw [begins_app]; rfl
theorem flat_one (f : Fin 16 → List (T × N)) (i : Fin 16) (h : ∀ j, j ≠ i → f j = []) : ∀ L : List (Fin 16), L.Nodup → L.flatMap f = if i ∈ L then f i else [] := by
  intro L
  induction L with
  | nil => intro _; rfl
  | cons j L ih =>
    intro hn
    obtain ⟨h1, h2⟩ := List.nodup_cons.1 hn
    rw [List.flatMap_cons, ih h2]
    by_cases e : j = i
    · subst e
      rw [if_neg h1, if_pos (List.mem_cons_self ..), List.append_nil]
    · rw [h j e, List.nil_append]
      by_cases hm : i ∈ L
      · rw [if_pos hm, if_pos (List.mem_cons_of_mem _ hm)]
      · rw [if_neg hm, if_neg (fun e2 => (List.mem_cons.1 e2).elim (fun e3 => e e3.symm) hm)]
theorem flat_none (f : Fin 16 → List (T × N)) (h : ∀ j, f j = []) (L : List (Fin 16)) : L.flatMap f = [] := by
  rw [List.flatMap_eq_nil_iff]
  exact fun j _ => h j
theorem filter_flat (P : T × N → Bool) (f : Fin 16 → List (T × N)) (L : List (Fin 16)) : (L.flatMap f).filter P = L.flatMap fun i => (f i).filter P := by
  induction L with
  | nil => rfl
  | cons a L ih => rw [List.flatMap_cons, List.filter_append, ih, List.flatMap_cons]
theorem trail_spots (t : Tr) : ∀ (p l : T), ((t.spots Nd.sumS p).filter fun x => Tri.begins x.1 (p ++ l)).map (·.2) = trail t l := by
  induction t with
  | nil => intro p l; rfl
  | leaf q v =>
    intro p l
    rw [Tr.spots, List.filter_cons, if_pos (begins_self p l)]
    rfl
  | ext q t ih =>
    intro p l
    rw [Tr.spots, List.filter_cons, if_pos (begins_self p l), List.map_cons, trail]
    congr 1
    by_cases h : l.take q.length = q
    · rw [if_pos h]
      have e : p ++ l = (p ++ q) ++ l.drop q.length := by
        rw [List.append_assoc]
        conv => lhs; rw [← List.take_append_drop q.length l, h]
      rw [e]
      exact ih (p ++ q) (l.drop q.length)
    · rw [if_neg h, none_of (by rw [begins_ext]; exact decide_eq_false h)]
      rfl
  | br v k ih =>
    intro p l
    rw [Tr.spots, List.filter_cons, if_pos (begins_self p l), List.map_cons, filter_flat]
    cases l with
    | nil =>
      rw [trail, flat_none]
      · rfl
      · intro j
        exact none_of (by rw [begins_ext]; simp)
    | cons b q =>
      rw [trail]
      congr 1
      by_cases hb15 : b.toNat ≤ 15
      · rw [if_pos hb15, flat_one _ (ix b) (fun j hj => none_of (by
          rw [begins_ext]
          simp only [List.length_cons, List.length_nil, Nat.zero_add, List.take_succ_cons, List.take_zero, decide_eq_false_iff_not, List.cons.injEq, and_true]
          intro e
          apply hj
          rw [← Tri.ix_hb j, ← e])) _ (List.nodup_finRange 16), if_pos (List.mem_finRange _)]
        have e : p ++ b :: q = (p ++ [hb (ix b)]) ++ q := by rw [Tri.hb_ix hb15]; simp
        rw [e]
        exact ih (ix b) (p ++ [hb (ix b)]) q
      · rw [if_neg hb15, flat_none]
        · rfl
        · intro j
          refine none_of ?_
          rw [begins_ext]
          simp only [List.length_cons, List.length_nil, Nat.zero_add, List.take_succ_cons, List.take_zero, decide_eq_false_iff_not, List.cons.injEq, and_true]
          intro e
          apply hb15
          rw [e, Tri.hb_toNat]
          have := j.isLt
          omega
theorem trail_wanted (t : Tr) (l : T) : wantedT (fun q => Tri.begins q l) t = (trail t l).map Nd.written := by
  unfold wantedT
  have h := trail_spots t [] l
  rw [List.nil_append] at h
  rw [← h, List.map_map]
  rfl
theorem trailS_eq {S : St} {t : Tr} (h : TrS S t) (k : T) : trailS S k = (trail t (Nib.ofL k)).map Nd.written := by
  unfold trailS
  rw [treeS_of h, trail_wanted]
theorem trail_sub (t : Tr) : ∀ l, ∀ n ∈ trail t l, n ∈ t.nodes Nd.sumS := by
  intro l n hn
  have h := trail_spots t [] l
  rw [List.nil_append] at h
  rw [← h] at hn
  obtain ⟨x, hx, rfl⟩ := List.mem_map.1 hn
  rw [← Tri.spots_nodes Nd.sumS t []]
  exact List.mem_map.2 ⟨x, (List.mem_filter.1 hx).1, rfl⟩
/-! ### what a tree's own nodes say -/
theorem dec_node {t : Tr} (h : Ok t) (hn : ¬ t.isNil) : Nd.dec (Nd.written (t.node Nd.sumS)) = (t.node Nd.sumS, 0) := Nd.dec_written _ (Tri.node_kids _ _) (h.fine hn)
/-- What a tree's topmost node says: where it goes on, a kid that is there, and what that has of what is left then. -/
theorem next_node {t : Tr} (h : Ok t) (hn : ¬ t.isNil) (l : T) (hl : Nib.fitL l = true) :
    (∃ i q, next (t.node Nd.sumS) l = .inl ((t.kid i).sum Nd.sumS, q) ∧ ¬ (t.kid i).isNil ∧ Nib.fitL q = true ∧ t.get l = (t.kid i).get q ∧ trail t l = t.node Nd.sumS :: trail (t.kid i) q) ∨
    (∃ v, next (t.node Nd.sumS) l = .inr v ∧ v = (t.get l).getD [] ∧ trail t l = [t.node Nd.sumS]) := by
  cases t with
  | nil => exact absurd trivial hn
  | leaf p v =>
    refine Or.inr ⟨_, rfl, ?_, rfl⟩
    show (if p = l then v else []) = _
    rw [Tr.get]
    by_cases e : p = l
    · rw [if_pos e, if_pos e.symm]; rfl
    · rw [if_neg e, if_neg (fun e2 => e e2.symm)]; rfl
  | ext p t =>
    obtain ⟨v, k, rfl, _⟩ := Tri.ext_br h.canon
    by_cases e : l.take p.length = p
    · refine Or.inl ⟨0, l.drop p.length, ?_, id, Tri.fit_drop _ hl, ?_, ?_⟩
      · show (if l.take p.length = p then _ else _) = _
        rw [if_pos e]; rfl
      · rw [Tr.get, if_pos e]; rfl
      · rw [trail, if_pos e]; rfl
    · refine Or.inr ⟨[], ?_, ?_, ?_⟩
      · show (if l.take p.length = p then _ else _) = _
        rw [if_neg e]
      · rw [Tr.get, if_neg e]; rfl
      · rw [trail, if_neg e]
  | br v k =>
    cases l with
    | nil =>
      refine Or.inr ⟨v, rfl, ?_, rfl⟩
      rw [Tr.get]
      by_cases e : v = []
      · rw [if_pos e, e]; rfl
      · rw [if_neg e]; rfl
    | cons b q =>
      obtain ⟨hb15, hq⟩ := Tri.fit_cons.1 hl
      have hlt : b.toNat < 16 := by omega
      have hk : (List.ofFn fun i => (k i).sum Nd.sumS).getD b.toNat [] = (k (ix b)).sum Nd.sumS := by
        rw [List.getD_eq_getElem?_getD, List.getElem?_ofFn, dif_pos hlt]
        simp only [Option.getD_some]
        congr 2
        exact Fin.ext (by simp [ix]; omega)
      have hnx : next (Tr.node Nd.sumS (.br v k)) (b :: q) = if (k (ix b)).sum Nd.sumS = [] then .inr [] else .inl ((k (ix b)).sum Nd.sumS, q) := by
        show (if (List.ofFn fun i => (k i).sum Nd.sumS).getD b.toNat [] = [] then Sum.inr [] else Sum.inl ((List.ofFn fun i => (k i).sum Nd.sumS).getD b.toNat [], q)) = _
        rw [hk]
      by_cases e : (k (ix b)).isNil
      · refine Or.inr ⟨[], ?_, ?_, ?_⟩
        · rw [hnx, if_pos (show (k (ix b)).sum Nd.sumS = [] by rw [Tri.nil_of_isNil e]; rfl)]
        · rw [Tr.get, if_pos hb15, Tri.nil_of_isNil e]; rfl
        · rw [trail, if_pos hb15, Tri.nil_of_isNil e]; rfl
      · refine Or.inl ⟨ix b, q, ?_, e, hq, ?_, ?_⟩
        · rw [hnx, if_neg (show (k (ix b)).sum Nd.sumS ≠ [] from (h.kid (ix b)).sum_ne e)]; rfl
        · rw [Tr.get, if_pos hb15]; rfl
        · rw [trail, if_pos hb15]; rfl
/-- What is proved is verified. -/
theorem follow_trail (t : Tr) : Ok t → ¬ t.isNil → ∀ l, Nib.fitL l = true → follow (t.sum Nd.sumS) l ((trail t l).map Nd.written) = some ((t.get l).getD []) := by
  refine Tri.kid_ind (P := fun t => Ok t → ¬ t.isNil → ∀ l, Nib.fitL l = true → follow (t.sum Nd.sumS) l ((trail t l).map Nd.written) = some ((t.get l).getD [])) (fun _ h => absurd trivial h) ?_ t
  intro t hn ih hok _ l hl
  have hc : Sto.sumOf (Nd.written (t.node Nd.sumS)) = t.sum Nd.sumS ∧ (Nd.dec (Nd.written (t.node Nd.sumS))).2 = 0 := ⟨(sum_text hok hn).symm, by rw [dec_node hok hn]⟩
  rcases next_node hok hn l hl with ⟨i, q, h1, h2, h3, h4, h5⟩ | ⟨v, h1, h2, h3⟩
  · rw [h5, List.map_cons, follow, if_pos hc, dec_node hok hn]
    simp only [h1]
    rw [ih i (hok.kid i) h2 q h3, h4]
  · rw [h3, List.map_cons, follow, if_pos hc, dec_node hok hn]
    simp only [h1, List.map_nil, if_true, h2]
theorem clash_mono {C D : List T} (h : ∀ x ∈ C, x ∈ D) (k : Clash C) : Clash D := by
  obtain ⟨s, hs, t, ht, h1, h2⟩ := k
  exact ⟨s, h s hs, t, h t ht, h1, h2⟩
/-- At most one node more than what is left has half bytes. -/
theorem trail_few (t : Tr) : Ok t → ∀ l : T, (trail t l).length ≤ l.length + 1 := by
  induction t with
  | nil => intro _ l; simp [trail]
  | leaf p v => intro _ l; simp [trail]
  | ext p t ih =>
    intro h l
    rw [trail]
    by_cases e : l.take p.length = p
    · rw [if_pos e]
      have h1 := ih (h.kid 0) (l.drop p.length)
      rw [List.length_drop] at h1
      have h2 : 1 ≤ p.length := List.length_pos_iff.2 h.canon.1
      have h3 : p.length ≤ l.length := by have := congrArg List.length e; simp at this; omega
      simp only [List.length_cons]
      omega
    · rw [if_neg e]; simp
  | br v k ih =>
    intro h l
    cases l with
    | nil => simp [trail]
    | cons b q =>
      rw [trail]
      by_cases hb15 : b.toNat ≤ 15
      · rw [if_pos hb15]
        have h1 := ih (ix b) (h.kid (ix b)) q
        simp only [List.length_cons]
        omega
      · rw [if_neg hb15]; simp
end Prf
end Go.Proofs.YtjfefphgikncnaaGreatDoor
namespace Go.Proofs.YtjfefphgikncnaaGreatDoor
open Sto (T St)
open Go.Proofs.YtjfefphgikncnaaGreatDoor.Nd (N)
namespace Prf

/-- What the bytes of a node tell. -/
structure Told (n : N) : Prop where
  kids : n.kids.length = 16
  short : ∀ x ∈ n.kids, x.length ≤ 32
  path : n.path.length ≤ 16
  fit : Nib.fitL n.path = true
  val : n.val.length ≤ 32
  kind : n.kind = 1 ∨ (n.kind = 2 ∧ n.kids.getD 0 [] ≠ []) ∨ n.kind = 3
theorem Told.of {x : T} (h : (Nd.dec x).2 = 0) : Told (Nd.dec x).1 := by
  rcases Nd.dec_is x with ⟨_, h1, h2, _⟩ | ⟨h1, _⟩
  · unfold Nd.fine at h1
    simp only [Bool.and_eq_true, decide_eq_true_eq] at h1
    obtain ⟨k1, k2, k3, k4, k5⟩ := h1
    refine ⟨h2, fun y hy => ?_, k3, k2, k4, ?_⟩
    · have := List.all_eq_true.1 k1 y hy
      simp only [Bool.or_eq_true, decide_eq_true_eq] at this
      rcases this with e | e
      · rw [e]; simp
      · omega
    · by_cases e1 : (Nd.dec x).1.kind = 1
      · exact Or.inl e1
      rw [if_neg e1] at k5
      by_cases e2 : (Nd.dec x).1.kind = 2
      · rw [if_pos e2] at k5
        simp only [Bool.and_eq_true, decide_eq_true_eq] at k5
        exact Or.inr (Or.inl ⟨e2, k5.2.1⟩)
      rw [if_neg e2] at k5
      by_cases e3 : (Nd.dec x).1.kind = 3
      · exact Or.inr (Or.inr e3)
      · rw [if_neg e3] at k5
        cases k5
  · rw [h] at h1
    cases h1
/-- Whether a text is a node of this sum. -/
def isN (s x : T) : Bool := decide (Sto.sumOf x = s ∧ (Nd.dec x).2 = 0)
/-- To follow, where of the sum "" there is nothing. -/
def fol (s l : T) (L : List T) : Option T := if s = [] then (if L = [] then some [] else none) else follow s l L
theorem fol_nil (l : T) (L : List T) : fol [] l L = if L = [] then some [] else none := by unfold fol; rw [if_pos rfl]
theorem fol_none {s l : T} (hs : s ≠ []) : fol s l [] = none := by unfold fol; rw [if_neg hs, follow]
theorem fol_bad {s l x : T} {r : List T} (hs : s ≠ []) (h : isN s x = false) : fol s l (x :: r) = none := by
  unfold fol
  rw [if_neg hs, follow, if_neg (of_decide_eq_false h)]
theorem fol_cons {s l x : T} {r : List T} (hs : s ≠ []) (h : isN s x = true) : fol s l (x :: r) = match next (Nd.dec x).1 l with | .inl p => follow p.1 p.2 r | .inr v => if r = [] then some v else none := by
  unfold fol
  rw [if_neg hs, follow, if_pos (of_decide_eq_true h)]
  first | done | rfl
theorem fol_leaf {s l x : T} {r : List T} {n : N} (hs : s ≠ []) (h : isN s x = true) (hn : (Nd.dec x).1 = n) (hk : n.kind = 1) : fol s l (x :: r) = if r = [] then some (if n.path = l then n.val else []) else none := by
  rw [fol_cons hs h, hn]
  unfold next
  rw [if_pos hk]
theorem fol_ext {s l x : T} {r : List T} {n : N} (hs : s ≠ []) (h : isN s x = true) (hn : (Nd.dec x).1 = n) (hk : n.kind = 2) (h0 : n.kids.getD 0 [] ≠ []) (hp : l.take n.path.length = n.path) : fol s l (x :: r) = fol (n.kids.getD 0 []) (l.drop n.path.length) r := by
  rw [fol_cons hs h, hn]
  unfold next
  rw [if_neg (by rw [hk]; decide), if_pos hk, if_pos hp]
  unfold fol
  rw [if_neg h0]
theorem fol_off {s l x : T} {r : List T} {n : N} (hs : s ≠ []) (h : isN s x = true) (hn : (Nd.dec x).1 = n) (hk : n.kind = 2) (hp : l.take n.path.length ≠ n.path) : fol s l (x :: r) = if r = [] then some [] else none := by
  rw [fol_cons hs h, hn]
  unfold next
  rw [if_neg (by rw [hk]; decide), if_pos hk, if_neg hp]
theorem fol_end {s x : T} {r : List T} {n : N} (hs : s ≠ []) (h : isN s x = true) (hn : (Nd.dec x).1 = n) (hk : n.kind = 3) : fol s [] (x :: r) = if r = [] then some n.val else none := by
  rw [fol_cons hs h, hn]
  unfold next
  rw [if_neg (by rw [hk]; decide), if_neg (by rw [hk]; decide)]
theorem fol_kid {s x q : T} {b : UInt8} {r : List T} {n : N} (hs : s ≠ []) (h : isN s x = true) (hn : (Nd.dec x).1 = n) (hk : n.kind = 3) : fol s (b :: q) (x :: r) = fol (n.kids.getD b.toNat []) q r := by
  rw [fol_cons hs h, hn]
  unfold next
  rw [if_neg (by rw [hk]; decide), if_neg (by rw [hk]; decide)]
  dsimp only
  by_cases e : n.kids.getD b.toNat [] = []
  · rw [if_pos e, e, fol_nil]
  · rw [if_neg e]
    unfold fol
    rw [if_neg e]
/-- What Verify tells, by the way that the code goes. -/
theorem verify_fol (root key : T) (nodes : List T) : verify root key nodes = if Tri.keyed key then (match fol root (Nib.ofL key) nodes with | some v => (v, decide (v ≠ []), 0) | none => ([], false, 130)) else ([], false, 1) := by
  unfold verify
  by_cases hk : Tri.keyed key
  · rw [if_pos hk, if_pos hk]
    unfold fol
    by_cases hr : root = []
    · rw [if_pos hr, if_pos hr]
      by_cases hn : nodes = []
      · rw [if_pos hn, if_pos hn]; rfl
      · rw [if_neg hn, if_neg hn]
    · rw [if_neg hr, if_neg hr]
      first | done | rfl
  · rw [if_neg hk, if_neg hk]
end Prf
end Go.Proofs.YtjfefphgikncnaaGreatDoor
namespace Go.Proofs.YtjfefphgikncnaaGreatDoor
open Sto (T St)
open Tri (Tr Ok)
open Go.Proofs.YtjfefphgikncnaaGreatDoor.Nd (N)
namespace Prf

theorem root_sum {S : St} {t : Tr} (h : TrS S t) : rootS S = t.sum Nd.sumS := by
  unfold rootS
  rw [treeS_of h]
theorem empty_of {S : St} {t : Tr} (h : TrS S t) (hn : t.isNil) : S = [] := by
  rw [Tri.nil_of_isNil hn] at h
  exact h.one TrS.empty
theorem code_ok {S : St} {k : T} (hk : Tri.keyed k = true) : (Tri.getC S k).1 = (Sto.look S k).getD [] ∧ ((Tri.getC S k).2 = 0 ↔ Sto.look S k ≠ none) := by
  cases hl : Sto.look S k with
  | none => rw [Tri.getC_none hk hl]; exact ⟨rfl, by simp⟩
  | some v => rw [Tri.getC_some hk hl]; exact ⟨rfl, by simp⟩
/-- What a value tells of Get. -/
theorem get_is {S : St} {t : Tr} (h : TrS S t) {k v : T} (hk : Tri.keyed k = true) (hv : v = (Sto.look S k).getD []) : v = (Tri.getC S k).1 ∧ decide (v ≠ []) = decide ((Tri.getC S k).2 = 0) := by
  obtain ⟨h1, h2⟩ := code_ok (S := S) hk
  refine ⟨hv.trans h1.symm, ?_⟩
  rw [decide_eq_decide, h2, hv]
  cases hl : Sto.look S k with
  | none => simp
  | some u => simpa using h.look_ne hl
/-- What is proved is verified. -/
theorem verify_whole {S : St} {t : Tr} (h : TrS S t) {k : T} (hk : Tri.keyed k = true) : verify (rootS S) k (trailS S k) = ((Tri.getC S k).1, decide ((Tri.getC S k).2 = 0), 0) := by
  unfold verify
  rw [if_pos hk]
  by_cases hn : t.isNil
  · obtain rfl := empty_of h hn
    have e1 : rootS [] = [] := by rw [root_sum TrS.empty]; rfl
    have e2 : trailS [] k = [] := by rw [trailS_eq TrS.empty]; rfl
    rw [e1, e2, if_pos rfl, if_pos rfl, Tri.getC_none hk rfl]
    rfl
  · have e1 : rootS S ≠ [] := by rw [root_sum h]; exact h.ok.sum_ne hn
    rw [if_neg e1, root_sum h, trailS_eq h, follow_trail t h.ok hn _ (Tri.ofL_fit k)]
    have hg : (t.get (Nib.ofL k)).getD [] = (Sto.look S k).getD [] := by rw [h.tree.get h.rise]
    obtain ⟨q1, q2⟩ := get_is h hk hg
    dsimp only
    rw [q2, q1]
theorem trailS_few {S : St} {t : Tr} (h : TrS S t) {k : T} (hk : Tri.keyed k = true) : (trailS S k).length ≤ 17 := by
  rw [trailS_eq h, List.length_map]
  have h1 := trail_few t h.ok (Nib.ofL k)
  rw [Nib.ofL_length] at h1
  simp [Tri.keyed] at hk
  omega
theorem trailS_short {S : St} {t : Tr} (h : TrS S t) (k : T) : ∀ x ∈ trailS S k, x.length ≤ 999 := fun x hx => by
  rw [trailS_eq h] at hx
  obtain ⟨n, hn, rfl⟩ := List.mem_map.1 hx
  refine nodesS_short h _ ?_
  rw [nodesS_nodes h]
  exact List.mem_map.2 ⟨n, trail_sub t _ n hn, rfl⟩
def wP : List T := [[1, 1, 2, 32, 107, 1, 1, 118]]
theorem wK_tr : TrS Tri.wK (.leaf [6, 11] [118]) := ⟨Tri.wU_tree, List.pairwise_singleton .., by decide, by decide⟩
theorem wK_trail (k : T) : trailS Tri.wK k = wP := by
  rw [trailS_eq wK_tr]
  show [Nd.written (Tr.node Nd.sumS (.leaf [6, 11] [118]))] = _
  rw [Tri.wU_text]
  rfl
theorem wK_k : verify (rootS Tri.wK) [107] wP = ([118], true, 0) := by
  have h := verify_whole wK_tr (k := [107]) (by decide)
  rw [wK_trail] at h
  rw [h]
  decide +kernel
end Prf
end Go.Proofs.YtjfefphgikncnaaGreatDoor
namespace Go.Proofs.YtjfefphgikncnaaGreatDoor
open Go.RowKit

def behind : List UInt8 := [98, 101, 104, 105, 110, 100]
/-- A list that is lent: its texts, and a mark behind their end. -/
def Lent (w : World) (B : Nat) (s : Value) (L : List (List UInt8)) : Prop :=
  ∃ g cap, s = .slice (some ⟨g, 0, none⟩) L.length cap ∧ Own w B (.slice (some ⟨g, 0, none⟩) (L.length + 1) cap) (L ++ [behind])
theorem Lent.below {w w' : World} {B : Nat} {s : Value} {L : List (List UInt8)} (h : Lent w B s L) (hb : Below w.heap.size w w') : Lent w' B s L := by
  obtain ⟨g, cap, rfl, h1⟩ := h
  exact ⟨g, cap, rfl, h1.below hb⟩
theorem Lent.strs {w : World} {B : Nat} {s : Value} {L : List (List UInt8)} (h : Lent w B s L) : Strs w s L := by
  obtain ⟨g, cap, rfl, h1⟩ := h
  obtain ⟨A, c, hv, hc⟩ := h1.strs
  obtain ⟨rfl, _⟩ : some (⟨g, 0, none⟩ : Addr) = A ∧ _ := by simpa using hv
  refine ⟨_, cap, rfl, fun i hi => ?_⟩
  obtain ⟨a, ha, hcell⟩ := hc i (by simp; omega)
  exact ⟨a, ha, by rw [hcell, List.getElem_append_left hi]⟩
theorem Lent.cap {w : World} {B : Nat} {A : Option Addr} {n c : Nat} {L : List (List UInt8)} (h : Lent w B (.slice A n c) L) : ∃ g, A = some ⟨g, 0, none⟩ ∧ n = L.length ∧ L.length + 1 ≤ c ∧ c ≤ maxLen ∧ B ≤ g ∧ w.cell? ⟨g, L.length, none⟩ = some (.string ⟨behind.toArray⟩) := by
  obtain ⟨g, cap, hv, h1⟩ := h
  obtain ⟨rfl, rfl, rfl⟩ : A = some ⟨g, 0, none⟩ ∧ n = L.length ∧ c = cap := by simpa using hv
  have h2 := World.ownsRow.cells h1 (g := g) rfl L.length (.string ⟨behind.toArray⟩) (by simp [scells])
  rw [Addr.add_mid, Nat.zero_add] at h2
  rcases h1.2 with ⟨h', _⟩ | ⟨g', cap', cur, hv', hB, hh, hn, hcap, hsz, _⟩
  · simp at h'
  · obtain ⟨rfl, rfl⟩ : g = g' ∧ c = cap' := by simpa using hv'
    exact ⟨g, rfl, rfl, by simpa using hn, hcap, hB, h2⟩

/-- One text of a row of the call's own, set. -/
theorem Own.set {w : World} {B g n cap i : Nat} {L : List (List UInt8)} (h : Own w B (.slice (some ⟨g, 0, none⟩) n cap) L) (_hi : i < L.length) (x : List UInt8) :
    Own (w.setCell ⟨g, i, none⟩ (.string ⟨x.toArray⟩)) B (.slice (some ⟨g, 0, none⟩) n cap) (L.set i x) := by
  have hn : n = L.length := by
    obtain ⟨_, _, hv⟩ := own_form h
    simp at hv
    exact hv.2.1
  subst hn
  have := (World.ownsRow.stored h i (.string ⟨x.toArray⟩)).1
  unfold Own
  rw [List.length_set]
  simpa [scells, List.map_set] using this
end Go.Proofs.YtjfefphgikncnaaGreatDoor
namespace Go.Proofs.YtjfefphgikncnaaGreatDoor
open Go.RowKit Go.ChangeShapes Go.WideShapes

def StrsC (w : World) (v : Value) (L : List (List UInt8)) : Prop :=
  ∃ (A : Option Addr) (cap : Nat), v = .slice A L.length cap ∧ L.length ≤ cap ∧ ∀ i (h : i < L.length), ∃ a, A = some a ∧ w.cell? (a.add i) = some (.string ⟨L[i].toArray⟩)
theorem StrsC.strs {w : World} {v : Value} {L : List (List UInt8)} (h : StrsC w v L) : Strs w v L := by
  obtain ⟨A, cap, h1, _, h3⟩ := h
  exact ⟨A, cap, h1, h3⟩
theorem StrsC.below {w w' : World} {v : Value} {L : List (List UInt8)} (h : StrsC w v L) (hb : Below w.heap.size w w') : StrsC w' v L := by
  obtain ⟨A, cap, rfl, h1, hc⟩ := h
  refine ⟨A, cap, rfl, h1, fun i hi => ?_⟩
  obtain ⟨a, ha, hcell⟩ := hc i hi
  exact ⟨a, ha, (hb.cell (World.block_lt_of_cell? _ _ hcell)).trans hcell⟩
theorem StrsC.form {w : World} {v : Value} {L : List (List UInt8)} (h : StrsC w v L) : ∃ A cap, v = .slice A L.length cap ∧ L.length ≤ cap := by
  obtain ⟨A, cap, h1, h2, _⟩ := h
  exact ⟨A, cap, h1, h2⟩
theorem StrsC.of_own {w : World} {B : Nat} {v : Value} {L : List (List UInt8)} (h : Own w B v L) : StrsC w v L := by
  obtain ⟨A, cap, hv, hc⟩ := h.strs
  refine ⟨A, cap, hv, ?_, hc⟩
  rcases h.2 with ⟨h1, h2⟩ | ⟨g, c, cur, hv', _, _, hn, _⟩
  · omega
  · rw [hv'] at hv
    obtain ⟨_, rfl⟩ : _ ∧ c = cap := by simpa using hv
    exact hn
theorem StrsC.nil (w : World) (A : Option Addr) (cap : Nat) : StrsC w (.slice A 0 cap) [] := ⟨A, cap, rfl, Nat.zero_le _, fun i h => absurd h (Nat.not_lt_zero i)⟩
/-- The first text. -/
theorem StrsC.head {w : World} {A : Option Addr} {n cap : Nat} {x : List UInt8} {L : List (List UInt8)} (h : StrsC w (.slice A n cap) (x :: L)) : ∃ a, A = some a ∧ w.cell? a = some (.string ⟨x.toArray⟩) ∧ n = L.length + 1 ∧ L.length + 1 ≤ cap := by
  obtain ⟨A', cap', hv, h1, hc⟩ := h
  obtain ⟨rfl, rfl, rfl⟩ : A = A' ∧ n = L.length + 1 ∧ cap = cap' := by simpa using hv
  obtain ⟨a, ha, hcell⟩ := hc 0 (by simp)
  exact ⟨a, ha, by simpa [Addr.add] using hcell, rfl, h1⟩
set_option maxRecDepth 100000 in
/-- What is behind it: 'l[1:]'. -/
theorem StrsC.tail {w : World} {A : Option Addr} {n cap : Nat} {x : List UInt8} {L : List (List UInt8)} (h : StrsC w (.slice A n cap) (x :: L)) :
    ∃ A' cap', (∀ W : World, (Instr.slice 28 (.slice A n cap) (some (.int .i64 1)) none none).run Tryz.prog W = .ok (.slice A' L.length cap') W) ∧ StrsC w (.slice A' L.length cap') L := by
  obtain ⟨A', cap', hv, h1, hc⟩ := h
  obtain ⟨rfl, rfl, rfl⟩ : A = A' ∧ n = L.length + 1 ∧ cap = cap' := by simpa using hv
  rw [List.length_cons] at h1
  obtain ⟨a, ha, -⟩ := hc 0 (by simp)
  subst ha
  have hn : L.length + 1 - 1 = L.length := by omega
  by_cases hc1 : cap = 1
  · subst hc1
    obtain rfl : L = [] := List.length_eq_zero_iff.1 (by omega)
    have hs : ∀ W : World, (sizeOf (Tryz.prog.elem 28)).run Tryz.prog W = .ok 1 W := fun W => by kernel_rfl
    refine ⟨some a, 0, fun W => ?_, StrsC.nil ..⟩
    rw [run_slice_l W 28 (some a) _ 1 Tryz.underlying28 .i64 1 (by omega) (by simp), hs]
    rfl
  · have hs : ∀ W : World, (sizeOf (Tryz.prog.elem 28)).run Tryz.prog W = .ok 1 W := fun W => by kernel_rfl
    refine ⟨some (a.add 1), cap - 1, fun W => ?_, some (a.add 1), cap - 1, rfl, by omega, fun i hi => ⟨_, rfl, ?_⟩⟩
    · rw [run_slice_l W 28 (some a) (L.length + 1) cap Tryz.underlying28 .i64 1 (by omega) (by omega), hs]
      simp [Result.andThen, sliced, hc1]
    · obtain ⟨a', ha', hcell⟩ := hc (i + 1) (by simpa using hi)
      obtain rfl : a = a' := by simpa using ha'
      rw [Addr.add_add, Nat.add_comm 1 i]
      simpa using hcell
/-- 'l[:k]'. -/
theorem StrsC.take {w : World} {A : Option Addr} {n cap : Nat} {L : List (List UInt8)} (h : StrsC w (.slice A n cap) L) (k : Nat) (hk : k ≤ L.length) :
    StrsC w (.slice A k cap) (L.take k) := by
  obtain ⟨A', cap', hv, h1, hc⟩ := h
  obtain ⟨rfl, rfl, rfl⟩ : A = A' ∧ n = L.length ∧ cap = cap' := by simpa using hv
  have e : (L.take k).length = k := by simp; omega
  refine ⟨A, cap, by rw [e], by omega, fun i hi => ?_⟩
  obtain ⟨a, ha, hcell⟩ := hc i (by omega)
  exact ⟨a, ha, by rw [hcell, List.getElem_take]⟩

end Go.Proofs.YtjfefphgikncnaaGreatDoor
namespace Go.Proofs.YtjfefphgikncnaaGreatDoor
open Go.RowKit
open Sto (T St)
open Go.Proofs.YtjfefphgikncnaaGreatDoor.Nd (N)

theorem piskey_any (x : T) (w : World) :
    Calls Tryz.prog 56 #[.string ⟨x.toArray⟩] w fun e w' => e = .returned (.bool (Tri.keyed x)) ∧ w = w' := by
  by_cases h0 : x = []
  · subst h0
    go_enter Tryz.func56, Tryz.ntmps56
    go_wp2
    go_ret
    exact ⟨rfl, rfl⟩
  · have h1 : (x == []) = false := by rw [beq_eq_false_iff_ne]; exact h0
    have h1b : (x != []) = true := by rw [bne_iff_ne]; exact h0
    have h1c : x.isEmpty = false := by cases x <;> simp_all
    have h2 : 1 ≤ x.length := List.length_pos_iff.2 h0
    by_cases h8 : x.length ≤ 8
    · have h3 : (x.length : Int) ≤ 8 := by omega
      have e : Tri.keyed x = true := by simp [Tri.keyed, h2, h8]
      rw [e]
      clear e h2 h8 h0
      go_enter Tryz.func56, Tryz.ntmps56
      go_wp2
      go_ret
      exact ⟨rfl, rfl⟩
    · have h3 : ¬ ((x.length : Int) ≤ 8) := by omega
      have e : Tri.keyed x = false := by simp [Tri.keyed]; omega
      rw [e]
      clear e h2 h8 h0
      go_enter Tryz.func56, Tryz.ntmps56
      go_wp2
      go_ret
      exact ⟨rfl, rfl⟩
/-- What first tells. -/
def FirstIs : List T → T → N → Bool → Prop
  | [], _, _, b => b = false
  | x :: _, s, n, b => b = Prf.isN s x ∧ (b = true → (Nd.dec x).1 = n)
def FirstPost (L : List T) (s : T) (w : World) (e : Ending) (w' : World) : Prop :=
  ∃ (n : N) (b : Bool), e = .returned (.tuple #[ndval n, .bool b]) ∧ n.kids.length = 16 ∧ Below w.heap.size w w' ∧ FirstIs L s n b
theorem dec_kids (x : T) : (Nd.dec x).1.kids.length = 16 := by
  rcases Nd.dec_is x with ⟨_, _, h, _⟩ | ⟨_, h, _⟩
  · exact h
  · rw [h]; rfl
theorem sum_one (x : T) : Dig.sum 1 x = Sto.sumOf x := by
  unfold Dig.sum
  rfl
set_option maxRecDepth 100000 in
set_option maxHeartbeats 4000000 in
theorem pfirst_any (L : List T) (s : T) (v : Value) (w : World) (hv : StrsC w v L) (hT : Tab w) (hL : ∀ x ∈ L, x.length ≤ 1000000) :
    Calls Tryz.prog 89 #[v, .string ⟨s.toArray⟩] w (FirstPost L s w) := by
  unfold FirstPost
  have hb0 : Below w.heap.size w (w.alloc (.cells #[.int .i64 0, .string ⟨#[]⟩, .string ⟨#[]⟩, .string ⟨#[]⟩, .string ⟨#[]⟩, .string ⟨#[]⟩, .string ⟨#[]⟩, .string ⟨#[]⟩, .string ⟨#[]⟩, .string ⟨#[]⟩, .string ⟨#[]⟩, .string ⟨#[]⟩, .string ⟨#[]⟩, .string ⟨#[]⟩, .string ⟨#[]⟩, .string ⟨#[]⟩, .string ⟨#[]⟩, .string ⟨#[]⟩, .string ⟨#[]⟩] 136)) := (Below.refl _ w).alloc (Nat.le_refl _) _
  have HB0 := Lib.hid hb0
  have HZ0 : Hid ((w.alloc (.cells #[.int .i64 0, .string ⟨#[]⟩, .string ⟨#[]⟩, .string ⟨#[]⟩, .string ⟨#[]⟩, .string ⟨#[]⟩, .string ⟨#[]⟩, .string ⟨#[]⟩, .string ⟨#[]⟩, .string ⟨#[]⟩, .string ⟨#[]⟩, .string ⟨#[]⟩, .string ⟨#[]⟩, .string ⟨#[]⟩, .string ⟨#[]⟩, .string ⟨#[]⟩, .string ⟨#[]⟩, .string ⟨#[]⟩, .string ⟨#[]⟩] 136)).heap[w.heap.size]? = some (.cells (ncl Nd.zero).toArray 136 (0, 0))) := Lib.hid (heap_new_at w _ _ rfl)
  have HI19 : Hid ((Tryz.prog.info? 136).map (·.size) = some 19) := Lib.hid (by kernel_rfl)
  have HBZ : Hid (Tryz.prog.built 136 [] = some (ncl Nd.zero).toArray) := Lib.hid (by rfl)
  have HOZ := Lib.hid (ncl_one Nd.zero)
  have HSZ : Hid ((ncl Nd.zero).toArray.size = 19) := Lib.hid rfl
  obtain ⟨Z, hZ⟩ : ∃ Z, (ncl Nd.zero).toArray = Z := ⟨_, rfl⟩
  have HZQ := Lib.hid hZ
  rw [hZ] at HZ0 HBZ HOZ HSZ
  have HIZ : Hid ((Tryz.prog.info? 136).map (·.size) = some Z.size) := Lib.hid (by rw [HSZ.out]; exact HI19.out)
  have HZ16 : Hid (Nd.zero.kids.length = 16) := Lib.hid rfl
  have HV0 := Lib.hid (hv.below hb0)
  have HT0 := Lib.hid (hT.below hb0)
  cases L with
  | nil =>
    obtain ⟨A, cap, rfl, -⟩ := hv.form
    clear hb0 hZ hv hT
    go_enter Tryz.func89, Tryz.ntmps89
    go_wp2_with (first | (refine wpList_build_some (by rfl) _ _ (by rfl) [] (by first | rfl | (simp [Act.eval]; done) | kernel_rfl) Z HBZ.out ?_) | (refine wpList_store_row (by rfl) _ _ _ (by rfl) w.heap.size Z (by rfl) (by rfl) _ _ HZ0.out HIZ.out rfl HOZ.out ?_))
    refine bodyPost_ret (nresults_c1t rfl _ _ w.heap.size _ _ _ _ rfl (setRow_heap _ _ _ _ _ _ HZ0.out) Tryz.underlying136 rfl HIZ.out) rfl ⟨Nd.zero, false, by rw [← HZQ.out]; rfl, HZ16.out, below_setRow HB0.out (Nat.le_refl _) _, rfl⟩
  | cons x r =>
    obtain ⟨A, cap, rfl, -⟩ := hv.form
    have hx : x.length ≤ 1000000 := hL x (List.mem_cons_self ..)
    have HND := Lib.hid (fun w => ndecode_any x w hx)
    have HDS := Lib.hid (fun w hT => dsum_any 1 x w hT (by omega))
    unfold NDecPost ndval at HND
    obtain ⟨⟨n, c⟩, hX⟩ : ∃ X, Nd.dec x = X := ⟨_, rfl⟩
    have hn16 : n.kids.length = 16 := by have := dec_kids x; rw [hX] at this; exact this
    have HIS : Hid (∀ b, b = decide (Sto.sumOf x = s ∧ c = 0) → FirstIs (x :: r) s n b) := Lib.hid (fun b hb => ⟨by rw [hb]; unfold Prf.isN; rw [hX], fun _ => by rw [hX]⟩)
    have HISZ : Hid (c ≠ 0 → FirstIs (x :: r) s Nd.zero false) := Lib.hid (fun h => ⟨by unfold Prf.isN; rw [hX, decide_eq_false (fun e => h e.2)], fun e => by cases e⟩)
    have HISS : Hid (Sto.sumOf x ≠ s → FirstIs (x :: r) s Nd.zero false) := Lib.hid (fun h => ⟨by unfold Prf.isN; rw [decide_eq_false (fun e => h e.1)], fun e => by cases e⟩)
    rw [hX] at HND
    dsimp only at HND
    have e1 : Dig.sumC 1 = 0 := rfl
    rw [e1, sum_one] at HDS
    obtain ⟨S, hS⟩ : ∃ S, Sto.sumOf x = S := ⟨_, rfl⟩
    rw [hS] at HDS HIS HISS
    have HN16 := Lib.hid hn16
    have HON := Lib.hid (ncl_one n)
    have HSN : Hid ((ncl n).toArray.size = 19) := Lib.hid (by rw [List.size_toArray, ncl_length n hn16])
    have HNV : Hid (ndval n = .agg (ncl n).toArray) := Lib.hid rfl
    obtain ⟨C, hC⟩ : ∃ C, (ncl n).toArray = C := ⟨_, rfl⟩
    rw [hC] at HND HON HSN HNV
    have HI : Hid ((Tryz.prog.info? 136).map (·.size) = some C.size) := Lib.hid (by rw [HSN.out]; exact HI19.out)
    have HZC : Hid (Z.size = C.size) := Lib.hid (HSZ.out.trans HSN.out.symm)
    have HCZ : Hid (C.size = Z.size) := Lib.hid HZC.out.symm
    obtain ⟨a, rfl, hcell, -, -⟩ := hv.head
    obtain ⟨b, o, sp⟩ := a
    have hblt := World.block_lt_of_cell? _ _ hcell
    have HCW : Hid (∀ w', Below w.heap.size w w' → w'.cell? ⟨b, o, sp⟩ = some (.string ⟨x.toArray⟩)) := Lib.hid (fun w' h => (h.cell hblt).trans hcell)
    have HTW : Hid (∀ w', Below w.heap.size w w' → Tab w') := Lib.hid (fun w' h => hT.below h)
    have hq1 : ((r.length : Int) + 1 == 0) = false := by rw [beq_eq_false_iff_ne]; omega
    have hq2 : (0 : Int) < (r.length : Int) + 1 := by omega
    have cz := HCW.out _ HB0.out
    clear hb0 hZ hv hT hX hn16 hS hC hcell hblt hL HV0 HT0 e1 hx
    go_enter Tryz.func89, Tryz.ntmps89
    go_wp2_with fail
    obtain ⟨p, hp⟩ : ∃ p, w.heap.size = p := ⟨_, rfl⟩
    have HP := Lib.hid hp
    rw [hp] at HZ0 HB0 HCW HTW ⊢
    generalize (w.alloc (.cells #[.int .i64 0, .string ⟨#[]⟩, .string ⟨#[]⟩, .string ⟨#[]⟩, .string ⟨#[]⟩, .string ⟨#[]⟩, .string ⟨#[]⟩, .string ⟨#[]⟩, .string ⟨#[]⟩, .string ⟨#[]⟩, .string ⟨#[]⟩, .string ⟨#[]⟩, .string ⟨#[]⟩, .string ⟨#[]⟩, .string ⟨#[]⟩, .string ⟨#[]⟩, .string ⟨#[]⟩, .string ⟨#[]⟩, .string ⟨#[]⟩] 136)) = w0 at *
    refine (HND.out _).mono ?_
    rintro e w1 ⟨rfl, hb1⟩
    have hpw := lt_of_heap HZ0.out
    have HB1 : Hid (Below p w w1) := Lib.hid (HB0.out.trans (hb1.mono (Nat.le_of_lt hpw)))
    have HZ1 : Hid (w1.heap[p]? = some (.cells Z 136 (0, 0))) := Lib.hid ((hb1.block p hpw).trans HZ0.out)
    have HB2 : Hid (Below p w (w1.setRow p C)) := Lib.hid (below_setRow HB1.out (Nat.le_refl _) _)
    have HC2 : Hid ((w1.setRow p C).heap[p]? = some (.cells C 136 (0, 0))) := Lib.hid (setRow_heap _ _ _ _ _ _ HZ1.out)
    have c2 := HCW.out _ HB2.out
    clear hb1 hpw HZ0 cz
    by_cases hc : c = 0
    case neg =>
      have hc1 : (c != 0) = true := by rw [bne_iff_ne]; exact hc
      have HF := Lib.hid (HISZ.out hc)
      clear hc c2
      go_wp2_with (first | (refine wpList_store_row (by rfl) _ _ _ (by rfl) p C (by rfl) (by rfl) _ _ HZ1.out HI.out HZC.out HON.out ?_) | (refine wpList_build_some (by rfl) _ _ (by rfl) [] (by first | rfl | (simp [Act.eval]; done) | kernel_rfl) Z HBZ.out ?_) | (refine wpList_store_row (by rfl) _ _ _ (by rfl) p Z (by rfl) (by rfl) _ _ HC2.out HIZ.out HCZ.out HOZ.out ?_))
      refine bodyPost_ret (nresults_c1t rfl _ _ p _ _ _ _ rfl (setRow_heap _ _ _ _ _ _ HC2.out) Tryz.underlying136 rfl HIZ.out) rfl ⟨Nd.zero, false, by rw [← HZQ.out]; rfl, HZ16.out, by rw [HP.out]; exact below_setRow HB2.out (Nat.le_refl _) _, HF.out⟩
    subst hc
    have HD2 := Lib.hid (HDS.out (w1.setRow p C) (HTW.out _ HB2.out))
    go_wp2_with (first | (refine wpList_store_row (by rfl) _ _ _ (by rfl) p C (by rfl) (by rfl) _ _ HZ1.out HI.out HZC.out HON.out ?_))
    refine HD2.out.mono ?_
    rintro e w3 ⟨rfl, hb3⟩
    have HC3 : Hid (w3.heap[p]? = some (.cells C 136 (0, 0))) := Lib.hid ((hb3.block p (lt_of_heap HC2.out)).trans HC2.out)
    have HB3 : Hid (Below p w w3) := Lib.hid (HB2.out.trans (hb3.mono (Nat.le_of_lt (lt_of_heap HC2.out))))
    clear hb3 c2 HD2 HDS
    by_cases hs : S = s
    · subst hs
      have hs1 : (S != S) = false := by simp
      have HF := Lib.hid (HIS.out true (by simp))
      go_wp2_with (first | (refine wpList_load_row (by rfl) _ _ (by rfl) p (by rfl) _ C _ _ HC3.out Tryz.underlying136 (by rfl) HI.out ?_) | (refine wpList_store_row (by rfl) _ _ _ (by rfl) p C (by rfl) (by rfl) _ _ HC3.out HI.out rfl HON.out ?_))
      refine bodyPost_ret (nresults_c1t rfl _ _ p _ _ _ _ rfl (setRow_heap _ _ _ _ _ _ HC3.out) Tryz.underlying136 rfl HI.out) rfl ⟨n, true, by rw [HNV.out]; rfl, HN16.out, by rw [HP.out]; exact below_setRow HB3.out (Nat.le_refl _) _, HF.out⟩
    · have hs1 : (S != s) = true := by rw [bne_iff_ne]; exact hs
      have hs2 : (S == s) = false := beq_eq_false_iff_ne.2 hs
      have HF := Lib.hid (HISS.out hs)
      clear hs
      go_wp2_with (first | (refine wpList_build_some (by rfl) _ _ (by rfl) [] (by first | rfl | (simp [Act.eval]; done) | kernel_rfl) Z HBZ.out ?_) | (refine wpList_store_row (by rfl) _ _ _ (by rfl) p Z (by rfl) (by rfl) _ _ HC3.out HIZ.out HCZ.out HOZ.out ?_))
      refine bodyPost_ret (nresults_c1t rfl _ _ p _ _ _ _ rfl (setRow_heap _ _ _ _ _ _ HC3.out) Tryz.underlying136 rfl HIZ.out) rfl ⟨Nd.zero, false, by rw [← HZQ.out]; rfl, HZ16.out, by rw [HP.out]; exact below_setRow HB3.out (Nat.le_refl _) _, HF.out⟩
end Go.Proofs.YtjfefphgikncnaaGreatDoor
namespace Go.Proofs.YtjfefphgikncnaaGreatDoor
open Go.RowKit
open Sto (T)

/-- What is behind a beginning; the text itself, if it does not begin so. -/
def cutP (s p : T) : T := if s.take p.length = p then s.drop p.length else s
theorem cut_in (s p : T) (w : World) :
    Calls Tryz.prog 120 #[.string ⟨s.toArray⟩, .string ⟨p.toArray⟩] w fun e w' => e = .returned (.tuple #[.string ⟨(cutP s p).toArray⟩, .bool (decide (s.take p.length = p))]) ∧ w = w' := by
  have HP := Lib.hid (fun w => prefix_in s p w)
  unfold cutP
  by_cases h : s.take p.length = p
  · have hle : p.length ≤ s.length := by
      have := congrArg List.length h
      simp at this
      omega
    have h1 : (p.length : Int) ≤ (s.length : Int) := by omega
    have h0 : (0 : Int) ≤ (p.length : Int) := by omega
    have e1 : decide (s.take p.length = p) = true := decide_eq_true h
    rw [e1] at HP ⊢
    rw [if_pos h]
    have he : (⟨s.toArray⟩ : ByteArray).extract p.length s.length = ⟨(s.drop p.length).toArray⟩ := by
      rw [Lib.extract_eq]
      simp [List.take_of_length_le]
    clear h e1 hle
    go_enter Tryz.func120, Tryz.ntmps120
    go_wp2_with fail
    refine (HP.out _).mono ?_
    rintro e w1 ⟨rfl, rfl⟩
    go_wp2
    go_ret2
    exact ⟨rfl, rfl⟩
  · have e1 : decide (s.take p.length = p) = false := decide_eq_false h
    rw [e1] at HP ⊢
    rw [if_neg h]
    clear h e1
    go_enter Tryz.func120, Tryz.ntmps120
    go_wp2_with fail
    refine (HP.out _).mono ?_
    rintro e w1 ⟨rfl, rfl⟩
    go_wp2
    go_ret2
    exact ⟨rfl, rfl⟩
theorem cut_any (s p : T) (w : World) :
    Calls Tryz.prog 90 #[.string ⟨s.toArray⟩, .string ⟨p.toArray⟩] w fun e w' => e = .returned (.tuple #[.string ⟨(cutP s p).toArray⟩, .bool (decide (s.take p.length = p))]) ∧ w = w' := by
  have HP := Lib.hid (fun w => cut_in s p w)
  go_enter Tryz.func90, Tryz.ntmps90
  go_wp2_with fail
  refine (HP.out _).mono ?_
  rintro e w1 ⟨rfl, rfl⟩
  go_wp2
  go_ret2
  exact ⟨rfl, rfl⟩
end Go.Proofs.YtjfefphgikncnaaGreatDoor
