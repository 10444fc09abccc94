/- TriLoadPart, TriLoad, TriGrownMath, TriSavedMath, VerReach, RegionInv, TriCover2, TriShow, ProofMath, ProofPlain, TriUnlike, ProofLaw, ArgItems -/
import Derived.Test.YtjfefphgikncnaaGreatDoorPk16
import Derived.Test.YtjfefphgikncnaaGreatDoorPk13
import Derived.Test.YtjfefphgikncnaaGreatDoorPk02
import Derived.Test.YtjfefphgikncnaaGreatDoorPk15
import Derived.Test.YtjfefphgikncnaaGreatDoorPk12
import Derived.RegionTactic
import Derived.Deep.RegionHeld3
import Derived.Test.YtjfefphgikncnaaGreatDoorPk14
import Derived.Test.YtjfefphgikncnaaGreatDoorPk03
import Derived.Test.YtjfefphgikncnaaGreatDoorPk11
import Derived.BigQuiet
import Derived.Deep.Slices
import Derived.DataReads
import Derived.OpenShut
import Derived.SizedLaws
import Derived.Lib.LaidU8
namespace Go.Proofs.YtjfefphgikncnaaGreatDoor
open Go.RowKit
open Sto (T St)
open Tri (Tr Ok hb)
open Go.Proofs.YtjfefphgikncnaaGreatDoor.Nd (N)

theorem Loaded.parts {S : St} {sum place : T} {inE : Bool} {t : Tr} {kd : Nat} {P V : T} {L : List T} (h : Loaded S sum place inE t) (hd : Sto.nodeOf S sum = (⟨kd, P, V, L⟩, 0)) : t.kind = kd ∧ t.pth = P ∧ t.vl = V := by
  have e := h.node
  rw [hd, Tri.node_kid _ h.nn] at e
  simp only [Prod.mk.injEq, N.mk.injEq, and_true] at e
  exact ⟨by omega, e.2.1.symm, e.2.2.1.symm⟩
theorem Only.setNew {d q : Nat} {a w : World} (h : Only d a w) (hq : a.heap.size ≤ q) (i : Nat) (u : Value) : Only d a (w.setCell ⟨q, i, none⟩ u) :=
  ⟨h.os, h.tape, h.output, by have := h.size; simpa [World.setCell] using this, fun k hk hg => (Below.heap_setCell w ⟨q, i, none⟩ u k (by show k ≠ q; omega)).trans (h.block k hk hg)⟩
/-- What holds at the loop's round i: the first kids are read. -/
def LdI (S : St) (d g n kd : Nat) (P V E sum : T) (L : List T) (hL : L.length = 16) (q pb : Nat) (w : World) (i : Nat) (wr : World) : Prop :=
  ∃ (k : Fin 16 → Tr) (Kv : Ks) (ni : Nat), RowP wr pb kd P V Kv sum ∧ (∀ j : Fin 16, j.val < i → KidOf S kd E (L[j.val]'(by rw [hL]; exact j.isLt)) j (k j)) ∧ (∀ j, PAt wr (Fm.up (pb + 1)) true (k j) (Kv j)) ∧ (∀ j : Fin 16, i ≤ j.val → k j = .nil) ∧
    LdAt wr d g ni ∧ ni = n + ownN V + cntK k i ∧ ni ≤ 1024 ∧ NodeAt wr q ⟨kd, P, V, L⟩ ∧ Only d w wr
/-- Behind the last kid: the trie that stands there. -/
theorem LdI.done {S : St} {d g n kd : Nat} {P V place sum : T} {L : List T} {hL : L.length = 16} {q pb : Nat} {w wr : World} {inE : Bool} (h : LdI S d g n kd P V (place ++ P) sum L hL q pb w 16 wr) (hf : Nd.fine ⟨kd, P, V, L⟩ = true)
    (hl : Sto.look S sum = some (Nd.written ⟨kd, P, V, L⟩)) (hs : Nd.sumS ⟨kd, P, V, L⟩ = sum) (hp : place.length + P.length ≤ 16) (hE : inE = true → kd = 3) (hv : V ≠ [] → 1 ≤ place.length + P.length ∧ (place.length + P.length) % 2 = 0) (hb : w.heap.size ≤ pb) :
    PartPost S sum place inE d g n w (.returned (.tuple #[.pointer (some ⟨pb, 0, none⟩), .int .i64 0])) wr := by
  obtain ⟨k, Kv, ni, hr, hk, hpa, -, hld, hni, hn, -, ho⟩ := h
  have hk' : ∀ i : Fin 16, KidOf S kd (place ++ P) ((⟨kd, P, V, L⟩ : N).kids[i.val]'(by show i.val < L.length; rw [hL]; exact i.isLt)) i (k i) := fun i => hk i i.isLt
  have hi := mkT_is (n := ⟨kd, P, V, L⟩) hL hf hk'
  have hlo := mkT_loaded (inE := inE) (place := place) hL hf rfl hl hs hk' hp (fun e => by have := hE e; show (kd : Int) = 3; omega) hv
  refine ⟨_, 0, ni, rfl, hld, ho, hn, Or.inl ⟨rfl, _, hlo, ?_, ?_⟩⟩
  · refine (PAt.iff hi.nn).2 ⟨pb, true, Kv, rfl, fun _ => rfl, hb, ?_, fun i => ?_⟩
    · have e1 : (mkT ⟨kd, P, V, L⟩ k).kind = kd := by have := hi.kind; exact Int.ofNat_inj.1 this
      rw [e1, hi.pth, hi.vl, hlo.sum]
      exact hr
    · rw [hi.kid]; exact (hpa i).upMono (by omega)
  · rw [items_count hlo.ok hi.nn, hi.vl, hni, cntK_same (k := (mkT ⟨kd, P, V, L⟩ k).kid) (m := k) (fun i _ => hi.kid i)]
    show n + ownN V + cntK k 16 = n + (ownN V + cntK k 16)
    omega
/-- A kid that is refused: so is the whole. -/
theorem LdI.bad {S : St} {n kd : Nat} {P V place sum : T} {L : List T} {hL : L.length = 16} {inE : Bool} {i : Nat} (hi : i < 16) {k : Fin 16 → Tr} {ni : Nat} (hk : ∀ j : Fin 16, j.val < i → KidOf S kd (place ++ P) (L[j.val]'(by rw [hL]; exact j.isLt)) j (k j)) (hni : ni = n + ownN V + cntK k i)
    (hd : Sto.nodeOf S sum = (⟨kd, P, V, L⟩, 0)) (hx : L[i]'(by omega) ≠ []) (hbad : ∀ t, Loaded S (L[i]'(by omega)) (placeT kd (place ++ P) ⟨i, hi⟩) (decide (kd = 2)) t → 1024 < ni + t.items.length) : ∀ t, Loaded S sum place inE t → 1024 < n + t.items.length := by
  intro t ht
  have hko := fun j => ht.kidOf hd (kind := kd) rfl hL j
  obtain ⟨e1, e2, e3⟩ := ht.parts hd
  have h1 : Loaded S (L[i]'(by omega)) (placeT kd (place ++ P) ⟨i, hi⟩) (decide (kd = 2)) (t.kid ⟨i, hi⟩) := by
    rcases hko ⟨i, hi⟩ with ⟨h, _⟩ | ⟨_, h⟩
    · exact absurd h hx
    · exact h
  have h2 := hbad _ h1
  have h3 := items_count ht.ok ht.nn
  have h4 := cntK_step t.kid i hi
  have h5 := cntK_mono t.kid (i := i + 1) (j := 16) (by omega) (by omega)
  have h6 : cntK k i = cntK t.kid i := cntK_same fun j hj => (hk j hj).one (hko j)
  rw [e3] at h3
  omega
theorem LdI.more {S : St} {d g n kd : Nat} {P V E sum : T} {L : List T} {hL : L.length = 16} {q pb : Nat} {w wr wk : World} {i : Nat} (hi : i < 16) {k : Fin 16 → Tr} {Kv : Ks} {ni ni' : Nat} {z : Value} {t : Tr}
    (hr : RowP wr pb kd P V Kv sum) (hk : ∀ j : Fin 16, j.val < i → KidOf S kd E (L[j.val]'(by rw [hL]; exact j.isLt)) j (k j)) (hpa : ∀ j, PAt wr (Fm.up (pb + 1)) true (k j) (Kv j)) (hnil : ∀ j : Fin 16, i ≤ j.val → k j = .nil) (hni : ni = n + ownN V + cntK k i) (hnd : NodeAt wr q ⟨kd, P, V, L⟩) (ho : Only d w wr)
    (hx : L[i]'(by omega) ≠ []) (ht : Loaded S (L[i]'(by omega)) (placeT kd E ⟨i, hi⟩) (decide (kd = 2)) t) (hpt : PAt wk (Fm.up wr.heap.size) true t z) (hn' : ni' = ni + t.items.length) (hle : ni' ≤ 1024) (hld : LdAt wk d g ni') (hok : Only d wr wk)
    (hdp : d < pb) (hdq : d ≠ q) (hqp : q ≠ pb) (hwp : w.heap.size ≤ pb) : LdI S d g n kd P V E sum L hL q pb w (i + 1) (wk.setCell ⟨pb, 3 + i, none⟩ z) := by
  have hpl := lt_of_heap hr
  have hql := lt_of_heap hnd
  have hset : ∀ b, b ≠ pb → (wk.setCell ⟨pb, 3 + i, none⟩ z).heap[b]? = wk.heap[b]? := fun b hb' => heap_setCell_other wk ⟨pb, 3 + i, none⟩ b z hb'
  refine ⟨Tri.upd k ⟨i, hi⟩ t, updK Kv ⟨i, hi⟩ z, ni', ?_, fun j hj => ?_, fun j => ?_, fun j hj => ?_, ?_, ?_, hle, ?_, ?_⟩
  · have h1 : RowP wk pb kd P V Kv sum := (hok.block pb hpl (by omega)).trans hr
    exact h1.setKid ⟨i, hi⟩ z
  · simp only [Tri.upd]
    split
    · rename_i e
      subst e
      exact Or.inr ⟨hx, ht⟩
    · rename_i e
      exact hk j (by have : j.val ≠ i := fun h => e (Fin.ext h); omega)
  · simp only [Tri.upd, updK]
    split
    · exact (hpt.upMono (by omega)).up fun b hb' _ => hset b (by omega)
    · exact ((hpa j).upOnly hok (by omega)).up fun b hb' _ => hset b (by omega)
  · simp only [Tri.upd]
    rw [if_neg (fun e => by have := congrArg Fin.val e; dsimp only at this; omega)]
    exact hnil j (by omega)
  · exact (hset d (by omega)).trans hld
  · rw [cntK_step _ i hi, cntK_same (k := Tri.upd k ⟨i, hi⟩ t) (m := k) (fun j hj => by
      simp only [Tri.upd]
      rw [if_neg (fun e => by have := congrArg Fin.val e; dsimp only at this; omega)])]
    simp only [Tri.upd, if_true]
    omega
  · exact (hset q hqp).trans ((hok.block q hql (fun e => hdq e.symm)).trans hnd)
  · exact (ho.trans hok).setNew hwp _ _
end Go.Proofs.YtjfefphgikncnaaGreatDoor
namespace Go.Proofs.YtjfefphgikncnaaGreatDoor
open Go.RowKit
open Sto (T St)
open Tri (Tr Ok hb)
open Go.Proofs.YtjfefphgikncnaaGreatDoor.Nd (N)

end Go.Proofs.YtjfefphgikncnaaGreatDoor
namespace Go.Proofs.YtjfefphgikncnaaGreatDoor.Tri
open Sto (T St Rising keys)
open Go.Proofs.YtjfefphgikncnaaGreatDoor.Nd (N)

theorem withL_take (b : UInt8) (R : St) (k : Nat) (hk : k < R.length) : withL b (R.take (k + 1)) = withL b (R.take k) ++ (if R[k].1.head? = some b then [R[k]] else []) := by
  rw [List.take_succ_eq_append_getElem hk, withL, withL, List.filter_append]
  by_cases h : R[k].1.head? = some b
  · simp [h]
  · simp [h]
theorem withL_le (b : UInt8) (R : St) : (withL b R).length ≤ R.length := List.length_filter_le _ _
def spotsK (dg : N → T) (p : T) (k : Fin 16 → Tr) (j : Nat) : List (T × N) := ((List.finRange 16).take j).flatMap fun i => (k i).spots dg (p ++ [hb i])
theorem spotsK_step (dg : N → T) (p : T) (k : Fin 16 → Tr) (j : Nat) (hj : j < 16) : spotsK dg p k (j + 1) = spotsK dg p k j ++ (k ⟨j, hj⟩).spots dg (p ++ [hb ⟨j, hj⟩]) := by
  unfold spotsK
  have h : j < (List.finRange 16).length := by rw [List.length_finRange]; exact hj
  rw [List.take_succ_eq_append_getElem h, List.flatMap_append]
  simp
theorem spotsK_all (dg : N → T) (p : T) (v : T) (k : Fin 16 → Tr) : (p, Tr.node dg (.br v k)) :: spotsK dg p k 16 = Tr.spots dg p (.br v k) := by
  unfold spotsK
  rw [List.take_of_length_le (by rw [List.length_finRange]; exact Nat.le_refl _)]
  rfl
theorem spotsK_le (dg : N → T) (p : T) (v : T) (k : Fin 16 → Tr) (j : Nat) : (spotsK dg p k j).length ≤ (Tr.spots dg p (.br v k)).length := by
  have e : Tr.spots dg p (.br v k) = (p, Tr.node dg (.br v k)) :: (spotsK dg p k j ++ ((List.finRange 16).drop j).flatMap fun i => (k i).spots dg (p ++ [hb i])) := by
    unfold spotsK
    rw [← List.flatMap_append, List.take_append_drop]
    rfl
  rw [e]
  simp only [List.length_cons, List.length_append]
  omega
def kidsK (dg : N → T) (k : Fin 16 → Tr) (j : Nat) : List T := List.ofFn fun i : Fin 16 => if i.val < j then (k i).sum dg else []
theorem kidsK_len (dg : N → T) (k : Fin 16 → Tr) (j : Nat) : (kidsK dg k j).length = 16 := by simp [kidsK]
theorem kidsK_at (dg : N → T) (k : Fin 16 → Tr) (j i : Nat) (hi : i < 16) : (kidsK dg k j)[i]'(by rw [kidsK_len]; exact hi) = if i < j then (k ⟨i, hi⟩).sum dg else [] := by
  unfold kidsK
  rw [List.getElem_ofFn]
theorem kidsK_zero (dg : N → T) (k : Fin 16 → Tr) : kidsK dg k 0 = List.replicate 16 [] := by
  refine List.ext_getElem (by rw [kidsK_len]; simp) fun i h1 h2 => ?_
  rw [kidsK_at dg k 0 i (by rw [kidsK_len] at h1; exact h1), if_neg (by omega), List.getElem_replicate]
theorem kidsK_set (dg : N → T) (k : Fin 16 → Tr) (j : Nat) (hj : j < 16) : (kidsK dg k j).set j ((k ⟨j, hj⟩).sum dg) = kidsK dg k (j + 1) := by
  refine List.ext_getElem (by rw [List.length_set, kidsK_len, kidsK_len]) fun i h1 h2 => ?_
  have hi : i < 16 := by rw [kidsK_len] at h2; exact h2
  rw [List.getElem_set, kidsK_at dg k (j + 1) i hi]
  by_cases e : j = i
  · subst e; rw [if_pos rfl, if_pos (by omega)]
  · rw [if_neg e, kidsK_at dg k j i hi]
    by_cases h : i < j
    · rw [if_pos h, if_pos (by omega)]
    · rw [if_neg h, if_neg (by omega)]
theorem kidsK_skip (dg : N → T) (k : Fin 16 → Tr) (j : Nat) (hj : j < 16) (h : (k ⟨j, hj⟩).sum dg = []) : kidsK dg k (j + 1) = kidsK dg k j := by
  rw [← kidsK_set dg k j hj, h]
  refine List.ext_getElem (by rw [List.length_set]) fun i h1 h2 => ?_
  have hi : i < 16 := by rw [kidsK_len] at h2; exact h2
  rw [List.getElem_set]
  by_cases e : j = i
  · subst e; rw [if_pos rfl, kidsK_at dg k j j hi, if_neg (by omega)]
  · rw [if_neg e]
theorem kidsK_all (dg : N → T) (k : Fin 16 → Tr) : kidsK dg k 16 = List.ofFn fun i => (k i).sum dg := by
  unfold kidsK
  congr 1
  funext i
  rw [if_pos i.isLt]
theorem br_node (dg : N → T) (v : T) (k : Fin 16 → Tr) : Tr.node dg (.br v k) = ⟨3, [], v, kidsK dg k 16⟩ := by rw [kidsK_all]; rfl
theorem nil_spots (dg : N → T) (p : T) {t : Tr} (h : t.isNil) : t.spots dg p = [] ∧ t.sum dg = [] := by
  cases t with
  | nil => exact ⟨rfl, rfl⟩
  | _ => cases h
/-- A branch has an item behind a half byte. -/
theorem br_some {v : T} {k : Fin 16 → Tr} (h : (Tr.br v k).canon) : ∃ x ∈ (Tr.br v k).items, 1 ≤ x.1.length := by
  rcases br_apart h with ⟨_, x, hx, e⟩ | ⟨x, hx, y, hy, i, j, q, r, _, e, _⟩
  · exact ⟨x, hx, List.length_pos_iff.2 e⟩
  · exact ⟨x, hx, by rw [e]; simp⟩
theorem kid_item {v : T} {k : Fin 16 → Tr} (i : Fin 16) {x : T × T} (h : x ∈ (k i).items) : (hb i :: x.1, x.2) ∈ (Tr.br v k).items := mem_br.2 (Or.inr ⟨i, x.1, rfl, h⟩)
theorem kid_few {v : T} {k : Fin 16 → Tr} (i : Fin 16) : (k i).items.length ≤ (Tr.br v k).items.length := by
  rw [← with_kids i k]
  unfold cutL
  rw [List.length_map]
  refine Nat.le_trans (withL_le _ _) ?_
  rw [br_items, List.length_append]
  omega
theorem spots_few (dg : N → T) {t : Tr} (h : t.canon) (p : T) : (t.spots dg p).length ≤ 3 * t.items.length := by
  by_cases hn : t.isNil
  · rw [(nil_spots dg p hn).1]; simp
  · have := (spots_len dg h hn p).1
    omega
end Go.Proofs.YtjfefphgikncnaaGreatDoor.Tri
namespace Go.Proofs.YtjfefphgikncnaaGreatDoor
open Go.RowKit
open Sto (T St)
open Tri (Tr Ok hb)

theorem paths_inj {S U : St} (h : Tri.paths S = Tri.paths U) : S = U := by
  unfold Tri.paths at h
  refine (List.map_inj_right fun x y e => ?_).1 h
  have e1 := congrArg Prod.fst e
  have e2 := congrArg Prod.snd e
  exact Prod.ext ((Tri.ofL_eq _ _).1 e1) e2
theorem TrS.one {S U : St} {t : Tr} (h : TrS S t) (k : TrS U t) : S = U := paths_inj (h.tree.2.2.symm.trans k.tree.2.2)
/-- Of tries whose nodes are in one store, those of one sum have the same items. -/
theorem TrS.same {S U st : St} {t u : Tr} (h : TrS S t) (k : TrS U u) (ht : t.inS st) (hu : u.inS st) (e : t.sum Nd.sumS = u.sum Nd.sumS) : S = U := by
  by_cases n1 : t.isNil
  · by_cases n2 : u.isNil
    · rw [Tri.nil_of_isNil n1] at h; rw [Tri.nil_of_isNil n2] at k
      exact h.one k
    · rw [Tri.nil_of_isNil n1] at e
      exact absurd e.symm (k.ok.sum_ne n2)
  · by_cases n2 : u.isNil
    · rw [Tri.nil_of_isNil n2] at e
      exact absurd e (h.ok.sum_ne n1)
    · have := inS_one h.ok k.ok n1 n2 ht hu e
      subst this
      exact h.one k
end Go.Proofs.YtjfefphgikncnaaGreatDoor
namespace Go.Proofs.YtjfefphgikncnaaGreatDoor
open Sto (T St)
open Tri (Tr Ok hb)
open Go.Proofs.YtjfefphgikncnaaGreatDoor.Nd (N)

theorem mem_nodes {dg : N → T} {t : Tr} (h : ¬ t.isNil) (n : N) : n ∈ t.nodes dg ↔ n = t.node dg ∨ ∃ i, n ∈ (t.kid i).nodes dg := by
  cases t with
  | nil => exact absurd trivial h
  | leaf p v => simp [Tri.Tr.nodes, Tri.Tr.kid]
  | ext p t =>
    rw [Tri.Tr.nodes, List.mem_cons]
    refine or_congr Iff.rfl ⟨fun h => ⟨0, by simpa [Tri.Tr.kid] using h⟩, fun ⟨i, hi⟩ => ?_⟩
    simp only [Tri.Tr.kid] at hi
    split at hi
    · exact hi
    · simp [Tri.Tr.nodes] at hi
  | br v k =>
    rw [Tri.Tr.nodes, List.mem_cons]
    refine or_congr Iff.rfl ?_
    rw [List.mem_flatMap]
    exact ⟨fun ⟨i, _, hi⟩ => ⟨i, hi⟩, fun ⟨i, hi⟩ => ⟨i, List.mem_finRange i, hi⟩⟩
theorem sum_text {t : Tr} (h : Ok t) (hn : ¬ t.isNil) : t.sum Nd.sumS = Sto.sumOf (Nd.written (t.node Nd.sumS)) := by
  rw [Tri.sum_node _ hn]
  exact sumS_of (h.fine hn)
end Go.Proofs.YtjfefphgikncnaaGreatDoor
namespace Go.Proofs.YtjfefphgikncnaaGreatDoor
open Go

theorem cnt_set : ∀ (L : List Bool) (i : Nat), L[i]? = some false → (L.set i true).count false + 1 = L.count false
  | [], i, h => by simp at h
  | b :: L, 0, h => by
    simp at h
    subst h
    simp
  | b :: L, i + 1, h => by
    have := cnt_set L i (by simpa using h)
    simp only [List.set_cons_succ, List.count_cons]
    omega
theorem ready_false {md : Region.Mode} {ops : Array Oper} {L : List Bool} {i : Nat} (h : i ∈ Region.ready md ops L.toArray) : L[i]? = some false := by
  have h2 := (List.mem_filter.1 h).2
  rw [Bool.and_eq_true] at h2
  have h3 := h2.1
  have e : L.toArray.getD i true = L[i]?.getD true := by simp [Array.getD_eq_getD_getElem?]
  rw [e] at h3
  cases hx : L[i]? with
  | none => rw [hx] at h3; simp at h3
  | some b => rw [hx] at h3; cases b <;> simp_all
theorem ready_lt {md : Region.Mode} {ops : Array Oper} {L : List Bool} {i : Nat} (h : i ∈ Region.ready md ops L.toArray) : i < ops.size := by
  have h2 := (List.mem_filter.1 h).1
  simpa using h2
theorem any_inv {P : Program} {md : Region.Mode} {l : List Oper} {Q : Exit → Act → World → Prop} {I : List Bool → Act → World → Prop}
    (hstep : ∀ L a w, L.length = l.length → I L a w → ∀ i o, l[i]? = some o → i ∈ Region.ready md l.toArray L.toArray → ∀ K : Act → World → Prop, (∀ a w, I (L.set i true) a w → K a w) → if Region.wanted o (yielded l.toArray a.tmps) = true then Oper.wp P o a w K Q else K (a.put o.dst undef) w)
    (hend : ∀ L a w, L.length = l.length → Region.ready md l.toArray L.toArray = [] → I L a w → Q .normal a w) :
    ∀ (fuel : Nat) (L : List Bool) (a : Act) (w : World), L.length = l.length → L.count false ≤ fuel → I L a w → wpAny P md l.toArray Q fuel L.toArray a w
  | 0, L, a, w, hl, hc, hI => by
    have hr : Region.ready md l.toArray L.toArray = [] := by
      cases hr : Region.ready md l.toArray L.toArray with
      | nil => rfl
      | cons i is =>
        have := ready_false (md := md) (ops := l.toArray) (L := L) (i := i) (by rw [hr]; simp)
        have := cnt_set L i this
        omega
    exact ⟨hr, hend L a w hl hr hI⟩
  | fuel + 1, L, a, w, hl, hc, hI => by
    refine ⟨fun hr => hend L a w hl hr hI, fun i hi => ?_⟩
    have hf := ready_false hi
    have hlt : i < l.length := by simpa using ready_lt hi
    have hs := cnt_set L i hf
    refine wpOp_step (o := l[i]) (by simp [hlt]) (fun K hK => ?_)
    refine hstep L a w hl hI i l[i] (by simp [hlt]) hi K (fun a' w' h => hK a' w' ?_)
    have e : L.toArray.setIfInBounds i true = (L.set i true).toArray := by simp
    rw [e]
    exact any_inv hstep hend fuel (L.set i true) a' w' (by simpa using hl) (by omega) h
theorem region_inv {P : Program} {id : Nat} {l : List Oper} {Q : Exit → Act → World → Prop} {a : Act} {w : World} (I : List Bool → Act → World → Prop) (hm : P.follows .mixedOrders = true)
    (h0 : I (List.replicate l.length false) a w.drew)
    (hstep : ∀ L a w, L.length = l.length → I L a w → ∀ i o, l[i]? = some o → i ∈ Region.ready .any l.toArray L.toArray → ∀ K : Act → World → Prop, (∀ a w, I (L.set i true) a w → K a w) → if Region.wanted o (yielded l.toArray a.tmps) = true then Oper.wp P o a w K Q else K (a.put o.dst undef) w)
    (hend : ∀ L a w, L.length = l.length → Region.ready .any l.toArray L.toArray = [] → I L a w → Q .normal a w) :
    (Code.region id l.toArray true).wp P Q a w := by
  refine wp_region_any hm ?_
  have e : Array.replicate l.toArray.size false = (List.replicate l.length false).toArray := by simp
  rw [e]
  exact any_inv hstep hend _ _ _ _ (by simp) (by simp) h0
end Go.Proofs.YtjfefphgikncnaaGreatDoor
namespace Go.Proofs.YtjfefphgikncnaaGreatDoor
open Go.RowKit
open Sto (T)
open Tri (Tr Ok upd ix hb lay splitT Trim rank)
open Go.Proofs.YtjfefphgikncnaaGreatDoor.Nd (N)

/-- A variable of the region's own: made once b, and holding P once d. -/
def CovR (w0 w : World) (b d : Option Bool) (P : T) (v : Value) : Prop :=
  b = some true → ∃ c, v = .pointer (some ⟨c, 0, none⟩) ∧ w0.heap.size ≤ c ∧ w.heap[c]? = some (.cells #[.string ⟨(if d = some true then P else []).toArray⟩] 9 (0, 0))
theorem CovR.below {w0 w w' : World} {b d : Option Bool} {P : T} {v : Value} (h : CovR w0 w b d P v) (hb : Below w.heap.size w w') : CovR w0 w' b d P v := fun hx => by
  obtain ⟨c, e, h1, h2⟩ := h hx
  exact ⟨c, e, h1, (hb.block c (lt_of_heap h2)).trans h2⟩
end Go.Proofs.YtjfefphgikncnaaGreatDoor
namespace Go.Proofs.YtjfefphgikncnaaGreatDoor
open Go.RowKit
open Sto (T St)
open Tri (Tr)

def trailS (S : St) (k : T) : List T := wantedT (fun p => Tri.begins p (Nib.ofL k)) (treeS S)
theorem strail_any {g : Nat} {S : St} (k : T) (w : World) (h : TrAt w g S) (hl : k.length ≤ 1000) :
    Calls Tryz.prog 57 #[ptr g, .string ⟨k.toArray⟩] w (TextsPost w (trailS S k)) := by
  obtain ⟨top, t, h1, h2, h3⟩ := h
  unfold trailS
  rw [treeS_of h3]
  exact trail_any k w hl h1 (h3.sealed h2)
end Go.Proofs.YtjfefphgikncnaaGreatDoor
namespace Go.Proofs.YtjfefphgikncnaaGreatDoor
open Sto (T St)
open Tri (Tr Ok hb ix)
open Go.Proofs.YtjfefphgikncnaaGreatDoor.Nd (N)
namespace Prf

/-- What a node says of what is left: the sum that is sought next with what is left then, or a value. -/
def next (n : N) (l : T) : (T × T) ⊕ T :=
  if n.kind = 1 then .inr (if n.path = l then n.val else [])
  else if n.kind = 2 then (if l.take n.path.length = n.path then .inl (n.kids.getD 0 [], l.drop n.path.length) else .inr [])
  else match l with
    | [] => .inr n.val
    | b :: q => if n.kids.getD b.toNat [] = [] then .inr [] else .inl (n.kids.getD b.toNat [], q)
/-- To follow what is left from a sum by just these nodes. -/
def follow : T → T → List T → Option T
  | _, _, [] => none
  | s, l, x :: r =>
    if Sto.sumOf x = s ∧ (Nd.dec x).2 = 0 then
      match next (Nd.dec x).1 l with
      | .inl p => follow p.1 p.2 r
      | .inr v => if r = [] then some v else none
    else none
def verify (root key : T) (nodes : List T) : T × Bool × Nat :=
  if Tri.keyed key then
    (if root = [] then (if nodes = [] then ([], false, 0) else ([], false, 130))
    else match follow root (Nib.ofL key) nodes with
      | some v => (v, decide (v ≠ []), 0)
      | none => ([], false, 130))
  else ([], false, 1)
/-! ### the nodes on the way -/
def trail : Tr → T → List N
  | .nil, _ => []
  | .leaf p v, _ => [Tr.node Nd.sumS (.leaf p v)]
  | .ext p t, l => Tr.node Nd.sumS (.ext p t) :: (if l.take p.length = p then trail t (l.drop p.length) else [])
  | .br v k, [] => [Tr.node Nd.sumS (.br v k)]
  | .br v k, b :: q => Tr.node Nd.sumS (.br v k) :: (if b.toNat ≤ 15 then trail (k (ix b)) q else [])
theorem spots_pre (t : Tr) : ∀ (p : T), ∀ x ∈ t.spots Nd.sumS p, ∃ q, x.1 = p ++ q := by
  induction t with
  | nil => intro p x hx; cases hx
  | leaf q v => intro p x hx; rw [List.mem_singleton.1 hx]; exact ⟨[], by simp⟩
  | ext q t ih =>
    intro p x hx
    rcases List.mem_cons.1 hx with rfl | hx
    · exact ⟨[], by simp⟩
    · obtain ⟨r, hr⟩ := ih _ x hx
      exact ⟨q ++ r, by rw [hr, List.append_assoc]⟩
  | br v k ih =>
    intro p x hx
    rcases List.mem_cons.1 hx with rfl | hx
    · exact ⟨[], by simp⟩
    · obtain ⟨i, _, hi⟩ := List.mem_flatMap.1 hx
      obtain ⟨r, hr⟩ := ih i _ x hi
      exact ⟨[hb i] ++ r, by rw [hr, List.append_assoc]⟩
theorem begins_app (p q l : T) : Tri.begins (p ++ q) (p ++ l) = Tri.begins q l := by
  unfold Tri.begins
  rw [List.length_append, List.take_append, List.take_of_length_le (Nat.le_add_right _ _), Nat.add_sub_cancel_left]
  simp
theorem begins_self (p l : T) : Tri.begins p (p ++ l) = true := by
  unfold Tri.begins
  simp
/-- Of a tree at a place that is not ahead of the mark no node is ahead of it. -/
theorem none_of {t : Tr} {p m : T} (h : Tri.begins p m = false) : ((t.spots Nd.sumS p).filter fun x => Tri.begins x.1 m) = [] := by
  rw [List.filter_eq_nil_iff]
  intro x hx
  obtain ⟨q, hq⟩ := spots_pre t p x hx
  have h1 : m.take p.length ≠ p := of_decide_eq_false h
  intro hb
  have h2 : m.take (p ++ q).length = p ++ q := by rw [← hq]; exact of_decide_eq_true hb
  apply h1
  have h3 := congrArg (List.take p.length) h2
  rw [List.take_take, List.length_append, Nat.min_eq_left (by omega), List.take_left] at h3
  exact h3
theorem begins_ext (p q l : T) : Tri.begins (p ++ q) (p ++ l) = decide (l.take q.length = q) := by rw [begins_app]; rfl
theorem flat_one (f : Fin 16 → List (T × N)) (i : Fin 16) (h : ∀ j, j ≠ i → f j = []) : ∀ L : List (Fin 16), L.Nodup → L.flatMap f = if i ∈ L then f i else [] := by
  intro L
  induction L with
  | nil => intro _; rfl
  | cons j L ih =>
    intro hn
    obtain ⟨h1, h2⟩ := List.nodup_cons.1 hn
    rw [List.flatMap_cons, ih h2]
    by_cases e : j = i
    · subst e
      rw [if_neg h1, if_pos (List.mem_cons_self ..), List.append_nil]
    · rw [h j e, List.nil_append]
      by_cases hm : i ∈ L
      · rw [if_pos hm, if_pos (List.mem_cons_of_mem _ hm)]
      · rw [if_neg hm, if_neg (fun e2 => (List.mem_cons.1 e2).elim (fun e3 => e e3.symm) hm)]
theorem flat_none (f : Fin 16 → List (T × N)) (h : ∀ j, f j = []) (L : List (Fin 16)) : L.flatMap f = [] := by
  rw [List.flatMap_eq_nil_iff]
  exact fun j _ => h j
theorem filter_flat (P : T × N → Bool) (f : Fin 16 → List (T × N)) (L : List (Fin 16)) : (L.flatMap f).filter P = L.flatMap fun i => (f i).filter P := by
  induction L with
  | nil => rfl
  | cons a L ih => rw [List.flatMap_cons, List.filter_append, ih, List.flatMap_cons]
theorem trail_spots (t : Tr) : ∀ (p l : T), ((t.spots Nd.sumS p).filter fun x => Tri.begins x.1 (p ++ l)).map (·.2) = trail t l := by
  induction t with
  | nil => intro p l; rfl
  | leaf q v =>
    intro p l
    rw [Tr.spots, List.filter_cons, if_pos (begins_self p l)]
    rfl
  | ext q t ih =>
    intro p l
    rw [Tr.spots, List.filter_cons, if_pos (begins_self p l), List.map_cons, trail]
    congr 1
    by_cases h : l.take q.length = q
    · rw [if_pos h]
      have e : p ++ l = (p ++ q) ++ l.drop q.length := by
        rw [List.append_assoc]
        conv => lhs; rw [← List.take_append_drop q.length l, h]
      rw [e]
      exact ih (p ++ q) (l.drop q.length)
    · rw [if_neg h, none_of (by rw [begins_ext]; exact decide_eq_false h)]
      rfl
  | br v k ih =>
    intro p l
    rw [Tr.spots, List.filter_cons, if_pos (begins_self p l), List.map_cons, filter_flat]
    cases l with
    | nil =>
      rw [trail, flat_none]
      · rfl
      · intro j
        exact none_of (by rw [begins_ext]; simp)
    | cons b q =>
      rw [trail]
      congr 1
      by_cases hb15 : b.toNat ≤ 15
      · rw [if_pos hb15, flat_one _ (ix b) (fun j hj => none_of (by
          rw [begins_ext]
          simp only [List.length_cons, List.length_nil, Nat.zero_add, List.take_succ_cons, List.take_zero, decide_eq_false_iff_not, List.cons.injEq, and_true]
          intro e
          apply hj
          rw [← Tri.ix_hb j, ← e])) _ (List.nodup_finRange 16), if_pos (List.mem_finRange _)]
        have e : p ++ b :: q = (p ++ [hb (ix b)]) ++ q := by rw [Tri.hb_ix hb15]; simp
        rw [e]
        exact ih (ix b) (p ++ [hb (ix b)]) q
      · rw [if_neg hb15, flat_none]
        · rfl
        · intro j
          refine none_of ?_
          rw [begins_ext]
          simp only [List.length_cons, List.length_nil, Nat.zero_add, List.take_succ_cons, List.take_zero, decide_eq_false_iff_not, List.cons.injEq, and_true]
          intro e
          apply hb15
          rw [e, Tri.hb_toNat]
          have := j.isLt
          omega
theorem trail_wanted (t : Tr) (l : T) : wantedT (fun q => Tri.begins q l) t = (trail t l).map Nd.written := by
  unfold wantedT
  have h := trail_spots t [] l
  rw [List.nil_append] at h
  rw [← h, List.map_map]
  rfl
theorem trailS_eq {S : St} {t : Tr} (h : TrS S t) (k : T) : trailS S k = (trail t (Nib.ofL k)).map Nd.written := by
  unfold trailS
  rw [treeS_of h, trail_wanted]
theorem dec_node {t : Tr} (h : Ok t) (hn : ¬ t.isNil) : Nd.dec (Nd.written (t.node Nd.sumS)) = (t.node Nd.sumS, 0) := Nd.dec_written _ (Tri.node_kids _ _) (h.fine hn)
/-- What a tree's topmost node says: where it goes on, a kid that is there, and what that has of what is left then. -/
theorem next_node {t : Tr} (h : Ok t) (hn : ¬ t.isNil) (l : T) (hl : Nib.fitL l = true) :
    (∃ i q, next (t.node Nd.sumS) l = .inl ((t.kid i).sum Nd.sumS, q) ∧ ¬ (t.kid i).isNil ∧ Nib.fitL q = true ∧ t.get l = (t.kid i).get q ∧ trail t l = t.node Nd.sumS :: trail (t.kid i) q) ∨
    (∃ v, next (t.node Nd.sumS) l = .inr v ∧ v = (t.get l).getD [] ∧ trail t l = [t.node Nd.sumS]) := by
  cases t with
  | nil => exact absurd trivial hn
  | leaf p v =>
    refine Or.inr ⟨_, rfl, ?_, rfl⟩
    show (if p = l then v else []) = _
    rw [Tr.get]
    by_cases e : p = l
    · rw [if_pos e, if_pos e.symm]; rfl
    · rw [if_neg e, if_neg (fun e2 => e e2.symm)]; rfl
  | ext p t =>
    obtain ⟨v, k, rfl, _⟩ := Tri.ext_br h.canon
    by_cases e : l.take p.length = p
    · refine Or.inl ⟨0, l.drop p.length, ?_, id, Tri.fit_drop _ hl, ?_, ?_⟩
      · show (if l.take p.length = p then _ else _) = _
        rw [if_pos e]; rfl
      · rw [Tr.get, if_pos e]; rfl
      · rw [trail, if_pos e]; rfl
    · refine Or.inr ⟨[], ?_, ?_, ?_⟩
      · show (if l.take p.length = p then _ else _) = _
        rw [if_neg e]
      · rw [Tr.get, if_neg e]; rfl
      · rw [trail, if_neg e]
  | br v k =>
    cases l with
    | nil =>
      refine Or.inr ⟨v, rfl, ?_, rfl⟩
      rw [Tr.get]
      by_cases e : v = []
      · rw [if_pos e, e]; rfl
      · rw [if_neg e]; rfl
    | cons b q =>
      obtain ⟨hb15, hq⟩ := Tri.fit_cons.1 hl
      have hlt : b.toNat < 16 := by omega
      have hk : (List.ofFn fun i => (k i).sum Nd.sumS).getD b.toNat [] = (k (ix b)).sum Nd.sumS := by
        rw [List.getD_eq_getElem?_getD, List.getElem?_ofFn, dif_pos hlt]
        simp only [Option.getD_some]
        congr 2
        exact Fin.ext (by simp [ix]; omega)
      have hnx : next (Tr.node Nd.sumS (.br v k)) (b :: q) = if (k (ix b)).sum Nd.sumS = [] then .inr [] else .inl ((k (ix b)).sum Nd.sumS, q) := by
        show (if (List.ofFn fun i => (k i).sum Nd.sumS).getD b.toNat [] = [] then Sum.inr [] else Sum.inl ((List.ofFn fun i => (k i).sum Nd.sumS).getD b.toNat [], q)) = _
        rw [hk]
      by_cases e : (k (ix b)).isNil
      · refine Or.inr ⟨[], ?_, ?_, ?_⟩
        · rw [hnx, if_pos (show (k (ix b)).sum Nd.sumS = [] by rw [Tri.nil_of_isNil e]; rfl)]
        · rw [Tr.get, if_pos hb15, Tri.nil_of_isNil e]; rfl
        · rw [trail, if_pos hb15, Tri.nil_of_isNil e]; rfl
      · refine Or.inl ⟨ix b, q, ?_, e, hq, ?_, ?_⟩
        · rw [hnx, if_neg (show (k (ix b)).sum Nd.sumS ≠ [] from (h.kid (ix b)).sum_ne e)]; rfl
        · rw [Tr.get, if_pos hb15]; rfl
        · rw [trail, if_pos hb15]; rfl
/-- What is proved is verified. -/
theorem follow_trail (t : Tr) : Ok t → ¬ t.isNil → ∀ l, Nib.fitL l = true → follow (t.sum Nd.sumS) l ((trail t l).map Nd.written) = some ((t.get l).getD []) := by
  refine Tri.kid_ind (P := fun t => Ok t → ¬ t.isNil → ∀ l, Nib.fitL l = true → follow (t.sum Nd.sumS) l ((trail t l).map Nd.written) = some ((t.get l).getD [])) (fun _ h => absurd trivial h) ?_ t
  intro t hn ih hok _ l hl
  have hc : Sto.sumOf (Nd.written (t.node Nd.sumS)) = t.sum Nd.sumS ∧ (Nd.dec (Nd.written (t.node Nd.sumS))).2 = 0 := ⟨(sum_text hok hn).symm, by rw [dec_node hok hn]⟩
  rcases next_node hok hn l hl with ⟨i, q, h1, h2, h3, h4, h5⟩ | ⟨v, h1, h2, h3⟩
  · rw [h5, List.map_cons, follow, if_pos hc, dec_node hok hn]
    simp only [h1]
    rw [ih i (hok.kid i) h2 q h3, h4]
  · rw [h3, List.map_cons, follow, if_pos hc, dec_node hok hn]
    simp only [h1, List.map_nil, if_true, h2]
theorem clash_mono {C D : List T} (h : ∀ x ∈ C, x ∈ D) (k : Clash C) : Clash D := by
  obtain ⟨s, hs, t, ht, h1, h2⟩ := k
  exact ⟨s, h s hs, t, h t ht, h1, h2⟩
/-- Whatever is verified is as the tree has it, or two unlike texts have one sum. -/
theorem follow_sound (t : Tr) : Ok t → ¬ t.isNil → ∀ l, Nib.fitL l = true → ∀ (L : List T) (v : T), follow (t.sum Nd.sumS) l L = some v → v = (t.get l).getD [] ∨ Clash ((t.nodes Nd.sumS).map Nd.written ++ L) := by
  refine Tri.kid_ind (P := fun t => Ok t → ¬ t.isNil → ∀ l, Nib.fitL l = true → ∀ (L : List T) (v : T), follow (t.sum Nd.sumS) l L = some v → v = (t.get l).getD [] ∨ Clash ((t.nodes Nd.sumS).map Nd.written ++ L)) (fun _ h => absurd trivial h) ?_ t
  intro t hn ih hok _ l hl L v hv
  cases L with
  | nil => cases hv
  | cons x r =>
    rw [follow] at hv
    by_cases hc : Sto.sumOf x = t.sum Nd.sumS ∧ (Nd.dec x).2 = 0
    · rw [if_pos hc] at hv
      by_cases hx : x = Nd.written (t.node Nd.sumS)
      · subst hx
        rw [dec_node hok hn] at hv
        rcases next_node hok hn l hl with ⟨i, q, h1, h2, h3, h4, _⟩ | ⟨u, h1, h2, _⟩
        · simp only [h1] at hv
          rcases ih i (hok.kid i) h2 q h3 r v hv with h | h
          · exact Or.inl (by rw [h, h4])
          · refine Or.inr (clash_mono (fun y hy => ?_) h)
            rcases List.mem_append.1 hy with hy | hy
            · obtain ⟨n, hnn, rfl⟩ := List.mem_map.1 hy
              exact List.mem_append_left _ (List.mem_map.2 ⟨n, (mem_nodes hn n).2 (Or.inr ⟨i, hnn⟩), rfl⟩)
            · exact List.mem_append_right _ (List.mem_cons_of_mem _ hy)
        · simp only [h1] at hv
          by_cases hr : r = []
          · rw [if_pos hr] at hv
            exact Or.inl (by rw [← Option.some.inj hv, h2])
          · rw [if_neg hr] at hv; cases hv
      · refine Or.inr ⟨x, List.mem_append_right _ (List.mem_cons_self ..), Nd.written (t.node Nd.sumS), List.mem_append_left _ (List.mem_map.2 ⟨_, (mem_nodes hn _).2 (Or.inl rfl), rfl⟩), hx, ?_⟩
        rw [hc.1, sum_text hok hn]
    · rw [if_neg hc] at hv; cases hv
/-! ### no more and no less -/
/-- At most one node more than what is left has half bytes. -/
theorem trail_few (t : Tr) : Ok t → ∀ l : T, (trail t l).length ≤ l.length + 1 := by
  induction t with
  | nil => intro _ l; simp [trail]
  | leaf p v => intro _ l; simp [trail]
  | ext p t ih =>
    intro h l
    rw [trail]
    by_cases e : l.take p.length = p
    · rw [if_pos e]
      have h1 := ih (h.kid 0) (l.drop p.length)
      rw [List.length_drop] at h1
      have h2 : 1 ≤ p.length := List.length_pos_iff.2 h.canon.1
      have h3 : p.length ≤ l.length := by have := congrArg List.length e; simp at this; omega
      simp only [List.length_cons]
      omega
    · rw [if_neg e]; simp
  | br v k ih =>
    intro h l
    cases l with
    | nil => simp [trail]
    | cons b q =>
      rw [trail]
      by_cases hb15 : b.toNat ≤ 15
      · rw [if_pos hb15]
        have h1 := ih (ix b) (h.kid (ix b)) q
        simp only [List.length_cons]
        omega
      · rw [if_neg hb15]; simp
end Prf
end Go.Proofs.YtjfefphgikncnaaGreatDoor
namespace Go.Proofs.YtjfefphgikncnaaGreatDoor
open Sto (T St)
open Go.Proofs.YtjfefphgikncnaaGreatDoor.Nd (N)
namespace Prf

/-- What the bytes of a node tell. -/
structure Told (n : N) : Prop where
  kids : n.kids.length = 16
  short : ∀ x ∈ n.kids, x.length ≤ 32
  path : n.path.length ≤ 16
  fit : Nib.fitL n.path = true
  val : n.val.length ≤ 32
  kind : n.kind = 1 ∨ (n.kind = 2 ∧ n.kids.getD 0 [] ≠ []) ∨ n.kind = 3
theorem Told.of {x : T} (h : (Nd.dec x).2 = 0) : Told (Nd.dec x).1 := by
  rcases Nd.dec_is x with ⟨_, h1, h2, _⟩ | ⟨h1, _⟩
  · unfold Nd.fine at h1
    simp only [Bool.and_eq_true, decide_eq_true_eq] at h1
    obtain ⟨k1, k2, k3, k4, k5⟩ := h1
    refine ⟨h2, fun y hy => ?_, k3, k2, k4, ?_⟩
    · have := List.all_eq_true.1 k1 y hy
      simp only [Bool.or_eq_true, decide_eq_true_eq] at this
      rcases this with e | e
      · rw [e]; simp
      · omega
    · by_cases e1 : (Nd.dec x).1.kind = 1
      · exact Or.inl e1
      rw [if_neg e1] at k5
      by_cases e2 : (Nd.dec x).1.kind = 2
      · rw [if_pos e2] at k5
        simp only [Bool.and_eq_true, decide_eq_true_eq] at k5
        exact Or.inr (Or.inl ⟨e2, k5.2.1⟩)
      rw [if_neg e2] at k5
      by_cases e3 : (Nd.dec x).1.kind = 3
      · exact Or.inr (Or.inr e3)
      · rw [if_neg e3] at k5
        cases k5
  · rw [h] at h1
    cases h1
theorem dec16 (x : T) : (Nd.dec x).1.kids.length = 16 := by
  rcases Nd.dec_is x with ⟨_, _, h, _⟩ | ⟨_, h, _⟩
  · exact h
  · rw [h]; rfl
theorem dec_code (x : T) : (Nd.dec x).2 = 0 ∨ (Nd.dec x).2 = 80 := by
  rcases Nd.dec_is x with ⟨h, _⟩ | ⟨h, _⟩
  · exact Or.inl h
  · exact Or.inr h
/-- Whether a text is a node of this sum. -/
def isN (s x : T) : Bool := decide (Sto.sumOf x = s ∧ (Nd.dec x).2 = 0)
/-- To follow, where of the sum "" there is nothing. -/
def fol (s l : T) (L : List T) : Option T := if s = [] then (if L = [] then some [] else none) else follow s l L
theorem fol_nil (l : T) (L : List T) : fol [] l L = if L = [] then some [] else none := by unfold fol; rw [if_pos rfl]
theorem fol_none {s l : T} (hs : s ≠ []) : fol s l [] = none := by unfold fol; rw [if_neg hs, follow]
theorem fol_bad {s l x : T} {r : List T} (hs : s ≠ []) (h : isN s x = false) : fol s l (x :: r) = none := by
  unfold fol
  rw [if_neg hs, follow, if_neg (of_decide_eq_false h)]
theorem fol_cons {s l x : T} {r : List T} (hs : s ≠ []) (h : isN s x = true) : fol s l (x :: r) = match next (Nd.dec x).1 l with | .inl p => follow p.1 p.2 r | .inr v => if r = [] then some v else none := by
  unfold fol
  rw [if_neg hs, follow, if_pos (of_decide_eq_true h)]
  first | done | rfl
theorem fol_leaf {s l x : T} {r : List T} {n : N} (hs : s ≠ []) (h : isN s x = true) (hn : (Nd.dec x).1 = n) (hk : n.kind = 1) : fol s l (x :: r) = if r = [] then some (if n.path = l then n.val else []) else none := by
  rw [fol_cons hs h, hn]
  unfold next
  rw [if_pos hk]
theorem fol_ext {s l x : T} {r : List T} {n : N} (hs : s ≠ []) (h : isN s x = true) (hn : (Nd.dec x).1 = n) (hk : n.kind = 2) (h0 : n.kids.getD 0 [] ≠ []) (hp : l.take n.path.length = n.path) : fol s l (x :: r) = fol (n.kids.getD 0 []) (l.drop n.path.length) r := by
  rw [fol_cons hs h, hn]
  unfold next
  rw [if_neg (by rw [hk]; decide), if_pos hk, if_pos hp]
  unfold fol
  rw [if_neg h0]
theorem fol_off {s l x : T} {r : List T} {n : N} (hs : s ≠ []) (h : isN s x = true) (hn : (Nd.dec x).1 = n) (hk : n.kind = 2) (hp : l.take n.path.length ≠ n.path) : fol s l (x :: r) = if r = [] then some [] else none := by
  rw [fol_cons hs h, hn]
  unfold next
  rw [if_neg (by rw [hk]; decide), if_pos hk, if_neg hp]
theorem fol_end {s x : T} {r : List T} {n : N} (hs : s ≠ []) (h : isN s x = true) (hn : (Nd.dec x).1 = n) (hk : n.kind = 3) : fol s [] (x :: r) = if r = [] then some n.val else none := by
  rw [fol_cons hs h, hn]
  unfold next
  rw [if_neg (by rw [hk]; decide), if_neg (by rw [hk]; decide)]
theorem fol_kid {s x q : T} {b : UInt8} {r : List T} {n : N} (hs : s ≠ []) (h : isN s x = true) (hn : (Nd.dec x).1 = n) (hk : n.kind = 3) : fol s (b :: q) (x :: r) = fol (n.kids.getD b.toNat []) q r := by
  rw [fol_cons hs h, hn]
  unfold next
  rw [if_neg (by rw [hk]; decide), if_neg (by rw [hk]; decide)]
  dsimp only
  by_cases e : n.kids.getD b.toNat [] = []
  · rw [if_pos e, e, fol_nil]
  · rw [if_neg e]
    unfold fol
    rw [if_neg e]
/-- What Verify tells, by the way that the code goes. -/
theorem verify_fol (root key : T) (nodes : List T) : verify root key nodes = if Tri.keyed key then (match fol root (Nib.ofL key) nodes with | some v => (v, decide (v ≠ []), 0) | none => ([], false, 130)) else ([], false, 1) := by
  unfold verify
  by_cases hk : Tri.keyed key
  · rw [if_pos hk, if_pos hk]
    unfold fol
    by_cases hr : root = []
    · rw [if_pos hr, if_pos hr]
      by_cases hn : nodes = []
      · rw [if_pos hn, if_pos hn]; rfl
      · rw [if_neg hn, if_neg hn]
    · rw [if_neg hr, if_neg hr]
      first | done | rfl
  · rw [if_neg hk, if_neg hk]
end Prf
end Go.Proofs.YtjfefphgikncnaaGreatDoor
namespace Go.Proofs.YtjfefphgikncnaaGreatDoor
open Go.RowKit
open Sto (T St)

def sumsL (L : List T) : List T := L.map Sto.sumOf
theorem sumsL_take {L : List T} {k : Nat} (h : k < L.length) : sumsL (L.take (k + 1)) = sumsL (L.take k) ++ [Sto.sumOf L[k]] := by
  unfold sumsL
  rw [List.take_succ_eq_append_getElem h, List.map_append]; rfl
theorem sumsL_len (L : List T) : (sumsL L).length = L.length := List.length_map ..
theorem sumsL_at (L : List T) (i : Nat) (h : i < L.length) : (sumsL L)[i]'(by rw [sumsL_len]; exact h) = Sto.sumOf L[i] := List.getElem_map ..
def BadAt (Z L : List T) (i k : Nat) : Prop := Z[i]? = Z[k]? ∧ L[i]? ≠ L[k]?
theorem no_clash {L : List T} (h : ∀ (i k : Nat) (hi : i < L.length) (hk : k < i), ¬ (Sto.sumOf L[i] = Sto.sumOf (L[k]'(by omega)) ∧ L[i] ≠ L[k]'(by omega))) : ¬ Clash L := by
  rintro ⟨s, hs, t, ht, hne, he⟩
  obtain ⟨i, hi, rfl⟩ := List.mem_iff_getElem.1 hs
  obtain ⟨k, hk, rfl⟩ := List.mem_iff_getElem.1 ht
  rcases Nat.lt_trichotomy k i with h1 | h1 | h1
  · exact h i k hi h1 ⟨he, hne⟩
  · subst h1; exact hne rfl
  · exact h k i hk h1 ⟨he.symm, fun e => hne e.symm⟩
def UnlikePost (L : List T) (w : World) (e : Ending) (w' : World) : Prop := ∃ b : Bool, e = .returned (.bool b) ∧ (Clash L → b = true) ∧ Below w.heap.size w w'
theorem no_bad {L : List T} (h : ∀ i, i < L.length → ∀ k, k < i → ¬ BadAt (sumsL L) L i k) : ¬ Clash L := by
  refine no_clash fun i k hi hk hb => h i hi k hk ⟨?_, ?_⟩
  · have h1 := sumsL_at L i hi
    have h2 := sumsL_at L k (by omega)
    rw [List.getElem?_eq_getElem (by rw [sumsL_len]; exact hi), List.getElem?_eq_getElem (by rw [sumsL_len]; omega), h1, h2, hb.1]
  · rw [List.getElem?_eq_getElem hi, List.getElem?_eq_getElem (by omega)]
    exact fun e => hb.2 (Option.some.inj e)
set_option maxRecDepth 100000 in
set_option maxHeartbeats 4000000 in
theorem runlike_any (L : List T) (v : Value) (w : World) (hv : Strs w v L) (hl : L.length ≤ 100000) (hsh : ∀ x ∈ L, x.length ≤ 999) :
    Calls Tryz.prog 23 #[.int .i64 1, v] w (UnlikePost L w) := by
  obtain ⟨A, cap, rfl, hc⟩ := id hv
  have HV := Lib.hid hv
  have HL := Lib.hid hl
  have HTG : Hid (∀ k (h : k < L.length) w', Calls Tryz.prog 53 #[.int .i64 1, .string ⟨L[k].toArray⟩] w' fun e w'' => e = .returned (.string ⟨(Sto.sumOf L[k]).toArray⟩) ∧ Below w'.heap.size w' w'') := Lib.hid (fun k h w' => by
    have := rTagged_any 1 L[k] w' (hsh _ (List.getElem_mem h))
    unfold Sto.sumOf Dig.sum
    rw [if_pos (by decide)]
    exact this)
  have HB0 := Lib.hid (Below.refl w.heap.size w)
  have HN0 := Lib.hid (Own.nil w w.heap.size)
  clear hv hc hsh
  go_enter Tryz.func23, Tryz.ntmps23
  go_wp2
  go_loopw [5, 6] (fun av iv wr => ∃ (k : Nat) (u : Value), u = av ∧ k ≤ L.length ∧ iv = .int .i64 k ∧ Own wr w.heap.size u (sumsL (L.take k)) ∧ Below w.heap.size w wr) (fun _ i _ => L.length - (intOf i).toNat)
  case atStart => exact ⟨0, _, rfl, Nat.zero_le _, rfl, HN0.out, HB0.out⟩
  case round =>
    obtain ⟨k, u, rfl, hk, rfl, hu, hb0⟩ := hrel
    have HB := Lib.hid hb0
    have HU := Lib.hid hu
    by_cases hlt : k < L.length
    · have h1 : (k : Int) < (L.length : Int) := by omega
      have h0 : (0 : Int) ≤ (k : Int) := by omega
      have hnb : (k : Int) ≤ 100000 := by have := HL.out; omega
      obtain ⟨A', cap', hv', hc'⟩ := HV.out.below hb0
      obtain ⟨rfl, -⟩ : A = A' ∧ _ := by simpa using hv'
      obtain ⟨a, rfl, hcell⟩ := hc' k hlt
      have HTK := Lib.hid (sumsL_take hlt)
      have HTL : Hid ((sumsL (L.take k)).length ≤ 100000) := Lib.hid (by rw [sumsL_len, List.length_take]; exact Nat.le_trans (Nat.min_le_right _ _) HL.out)
      have HT := Lib.hid (HTG.out k hlt wr)
      obtain ⟨y, hy⟩ : ∃ y, L[k] = y := ⟨_, rfl⟩
      rw [hy] at hcell HT HTK
      obtain ⟨s, hs⟩ : ∃ s, Sto.sumOf y = s := ⟨_, rfl⟩
      rw [hs] at HTK HT
      clear hu hb0 hv' hc' hy hs
      go_wp2_with fail
      refine HT.out.mono ?_
      rintro e w1 ⟨rfl, hb1⟩
      obtain ⟨g5, c5, w5, r5, o5, b5⟩ := app_one s (HU.out.below hb1) HTL.out (bchain HB.out hb1).size
      have HR5 := Lib.hid r5
      have HO5 := Lib.hid o5
      have HB5 : Hid (Below w.heap.size w w5) := Lib.hid ((bchain HB.out hb1).trans b5)
      clear hb1 r5 o5 b5 hcell
      go_wp2_with (at_builtin; refine wpList_append_run rfl _ _ _ rfl u (.slice (some ⟨w1.heap.size, 0, none⟩) 1 1) _ (by rfl) (by rfl) HR5.out ?_)
      exact ⟨⟨k + 1, _, rfl, by omega, by go_num, by rw [HTK.out]; exact HO5.out, HB5.out⟩, by simp [intOf]; omega⟩
    · obtain rfl : k = L.length := by omega
      have h1 : ¬ ((L.length : Int) < (L.length : Int)) := by omega
      rw [List.take_length] at hu
      have HNB := Lib.hid (@no_bad L)
      have HSL : Hid ((sumsL L).length = L.length) := Lib.hid (sumsL_len L)
      obtain ⟨As, cs, rfl⟩ := own_form hu
      have HU2 := Lib.hid hu
      have HV2 := Lib.hid (HV.out.below hb0)
      obtain ⟨w1, rfl⟩ : ∃ y, y = wr := ⟨_, rfl⟩
      clear hu hb0
      rw [HSL.out]
      obtain ⟨Z, hZ⟩ : ∃ Z, sumsL L = Z := ⟨_, rfl⟩
      have HZS : Hid (Own w1 w.heap.size (.slice As Z.length cs) Z) := Lib.hid (by rw [← hZ]; exact HU2.out)
      rw [hZ] at HNB HSL
      have hzl : Z.length = L.length := HSL.out
      have hl1 := HL.out
      clear hZ HU HU2 HTG HN0 HB0
      go_wp2
      go_loopw [7] (fun iv wr => ∃ i : Nat, i ≤ L.length ∧ iv = .int .i64 i ∧ Below w1.heap.size w1 wr ∧ ∀ i', i' < i → ∀ k, k < i' → ¬ BadAt Z L i' k) (fun i _ => L.length - (intOf i).toNat)
      case atStart => exact ⟨0, Nat.zero_le _, rfl, Below.refl _ _, fun i' h => by omega⟩
      case round =>
        obtain ⟨i, hi, rfl, hb1, hg⟩ := hrel
        have HB1 := Lib.hid hb1
        have HG := Lib.hid hg
        obtain ⟨wo, rfl⟩ : ∃ y, y = wr := ⟨_, rfl⟩
        by_cases hlt : i < L.length
        · have h2 : (i : Int) < (L.length : Int) := by omega
          have h3 : (0 : Int) ≤ (i : Int) := by omega
          have hnb : (i : Int) ≤ 100000 := by omega
          clear hb1 hg
          go_wp2
          go_loopw [8] (fun kv wr => ∃ k : Nat, k ≤ i ∧ kv = .int .i64 k ∧ Below w1.heap.size w1 wr ∧ ∀ k', k' < k → ¬ BadAt Z L i k') (fun k _ => i - (intOf k).toNat)
          case atStart => exact ⟨0, Nat.zero_le _, rfl, HB1.out, fun k' h => by omega⟩
          case round =>
            obtain ⟨k, hk, rfl, hb2, hg2⟩ := hrel
            have HB2 := Lib.hid hb2
            have HG2 := Lib.hid hg2
            by_cases hlk : k < i
            · have k1 : (k : Int) < (i : Int) := by omega
              have k2 : (k : Int) < (L.length : Int) := by omega
              have k3 : (0 : Int) ≤ (k : Int) := by omega
              have knb : (k : Int) ≤ 100000 := by omega
              have hown := HZS.out.below hb2
              obtain ⟨a, ra, ci⟩ := hown.strs_at (Below.refl _ _) i (by omega)
              obtain ⟨a2, ra2, ck⟩ := hown.strs_at (Below.refl _ _) k (by omega)
              subst ra
              obtain rfl : a = a2 := by simpa using ra2
              obtain ⟨A', cap', hv', hc'⟩ := HV2.out.below hb2
              obtain ⟨rfl, -⟩ : A = A' ∧ _ := by simpa using hv'
              obtain ⟨b, rb, di⟩ := hc' i (by omega)
              obtain ⟨b2, rb2, dk⟩ := hc' k (by omega)
              subst rb
              obtain rfl : b = b2 := by simpa using rb2
              have HBA : Hid (BadAt Z L i k ↔ Z[i]'(by omega) = Z[k]'(by omega) ∧ L[i] ≠ L[k]'(by omega)) := Lib.hid (by
                unfold BadAt
                rw [List.getElem?_eq_getElem (by omega), List.getElem?_eq_getElem (by omega), List.getElem?_eq_getElem hlt, List.getElem?_eq_getElem (by omega)]
                simp)
              obtain ⟨zi, hzi⟩ : ∃ x, Z[i]'(by omega) = x := ⟨_, rfl⟩
              obtain ⟨zk, hzk⟩ : ∃ x, Z[k]'(by omega) = x := ⟨_, rfl⟩
              obtain ⟨li, hli⟩ : ∃ x, L[i] = x := ⟨_, rfl⟩
              obtain ⟨lk, hlk2⟩ : ∃ x, L[k]'(by omega) = x := ⟨_, rfl⟩
              rw [hzi] at ci
              rw [hzk] at ck
              rw [hli] at di
              rw [hlk2] at dk
              rw [hzi, hzk, hli, hlk2] at HBA
              clear hb2 hg2 hown ra2 hv' hc' rb2 hzi hzk hli hlk2
              by_cases ez : zi = zk
              · have e1 : (zi == zk) = true := by rw [beq_iff_eq]; exact ez
                have EZ := Lib.hid ez
                clear ez
                by_cases el : li = lk
                · have e2 : (li == lk) = true := by rw [beq_iff_eq]; exact el
                  have e3 : (li != lk) = false := by rw [el]; simp
                  have HNO : Hid (¬ BadAt Z L i k) := Lib.hid (fun h => (HBA.out.1 h).2 el)
                  clear el
                  go_wp2
                  go_quiet (fail)
                  go_wp2
                  go_roundw
                  case rel => exact ⟨k + 1, by omega, by go_num, bel_drewN HB2.out _, fun k' h => by
                    rcases Nat.lt_or_ge k' k with h2 | h2
                    · exact HG2.out k' h2
                    · obtain rfl : k' = k := by omega
                      exact HNO.out⟩
                  case measure => simp [intOf]; omega
                · have e2 : (li == lk) = false := by rw [beq_eq_false_iff_ne]; exact el
                  have e3 : (li != lk) = true := by rw [bne_iff_ne]; exact el
                  clear el
                  go_wp2
                  go_quiet (fail)
                  go_wp2
                  go_ret
                  exact ⟨true, rfl, fun _ => rfl, HB.out.trans (bel_drewN HB2.out _ |>.mono HB.out.size)⟩
              · have e1 : (zi == zk) = false := by rw [beq_eq_false_iff_ne]; exact ez
                have HNO : Hid (¬ BadAt Z L i k) := Lib.hid (fun h => ez (HBA.out.1 h).1)
                clear ez
                go_wp2
                go_quiet (fail)
                go_wp2
                go_roundw
                case rel => exact ⟨k + 1, by omega, by go_num, bel_drewN HB2.out _, fun k' h => by
                  rcases Nat.lt_or_ge k' k with h2 | h2
                  · exact HG2.out k' h2
                  · obtain rfl : k' = k := by omega
                    exact HNO.out⟩
                case measure => simp [intOf]; omega
            · obtain rfl : k = i := by omega
              have k1 : ¬ ((k : Int) < (k : Int)) := by omega
              clear hb2 hg2
              go_wp2
              go_roundw
              case rel => exact ⟨k + 1, by omega, by go_num, HB2.out, fun i' h => by
                rcases Nat.lt_or_ge i' k with h2 | h2
                · exact HG.out i' h2
                · obtain rfl : i' = k := by omega
                  exact HG2.out⟩
              case measure => simp [intOf]; omega
        · obtain rfl : i = L.length := by omega
          have h2 : ¬ ((L.length : Int) < (L.length : Int)) := by omega
          clear hb1 hg
          go_wp2
          go_ret
          exact ⟨false, rfl, fun h => absurd h (HNB.out HG.out), HB.out.trans (HB1.out.mono HB.out.size)⟩
end Go.Proofs.YtjfefphgikncnaaGreatDoor
namespace Go.Proofs.YtjfefphgikncnaaGreatDoor
open Sto (T St)
open Tri (Tr Ok)
open Go.Proofs.YtjfefphgikncnaaGreatDoor.Nd (N)
namespace Prf

/-- The items that may be, of the first twenty. -/
def stepS (S : St) (x : T × T) : St := if Tri.putC S x.1 x.2 = 0 then Tri.put S x.1 x.2 else S
def someS (L : St) : St := (L.take 20).foldl stepS []
theorem some_step (L : St) (k : Nat) (hk : k < L.length) : (L.take (k + 1)).foldl stepS [] = stepS ((L.take k).foldl stepS []) L[k] := by
  rw [List.take_succ_eq_append_getElem hk, List.foldl_append]
  rfl
theorem root_sum {S : St} {t : Tr} (h : TrS S t) : rootS S = t.sum Nd.sumS := by
  unfold rootS
  rw [treeS_of h]
theorem empty_of {S : St} {t : Tr} (h : TrS S t) (hn : t.isNil) : S = [] := by
  rw [Tri.nil_of_isNil hn] at h
  exact h.one TrS.empty
theorem code_ok {S : St} {k : T} (hk : Tri.keyed k = true) : (Tri.getC S k).1 = (Sto.look S k).getD [] ∧ ((Tri.getC S k).2 = 0 ↔ Sto.look S k ≠ none) := by
  cases hl : Sto.look S k with
  | none => rw [Tri.getC_none hk hl]; exact ⟨rfl, by simp⟩
  | some v => rw [Tri.getC_some hk hl]; exact ⟨rfl, by simp⟩
/-- What a value tells of Get. -/
theorem get_is {S : St} {t : Tr} (h : TrS S t) {k v : T} (hk : Tri.keyed k = true) (hv : v = (Sto.look S k).getD []) : v = (Tri.getC S k).1 ∧ decide (v ≠ []) = decide ((Tri.getC S k).2 = 0) := by
  obtain ⟨h1, h2⟩ := code_ok (S := S) hk
  refine ⟨hv.trans h1.symm, ?_⟩
  rw [decide_eq_decide, h2, hv]
  cases hl : Sto.look S k with
  | none => simp
  | some u => simpa using h.look_ne hl
/-- What is proved is verified. -/
theorem verify_whole {S : St} {t : Tr} (h : TrS S t) {k : T} (hk : Tri.keyed k = true) : verify (rootS S) k (trailS S k) = ((Tri.getC S k).1, decide ((Tri.getC S k).2 = 0), 0) := by
  unfold verify
  rw [if_pos hk]
  by_cases hn : t.isNil
  · obtain rfl := empty_of h hn
    have e1 : rootS [] = [] := by rw [root_sum TrS.empty]; rfl
    have e2 : trailS [] k = [] := by rw [trailS_eq TrS.empty]; rfl
    rw [e1, e2, if_pos rfl, if_pos rfl, Tri.getC_none hk rfl]
    rfl
  · have e1 : rootS S ≠ [] := by rw [root_sum h]; exact h.ok.sum_ne hn
    rw [if_neg e1, root_sum h, trailS_eq h, follow_trail t h.ok hn _ (Tri.ofL_fit k)]
    have hg : (t.get (Nib.ofL k)).getD [] = (Sto.look S k).getD [] := by rw [h.tree.get h.rise]
    obtain ⟨q1, q2⟩ := get_is h hk hg
    dsimp only
    rw [q2, q1]
/-- Whatever is verified is as the trie has it, or two unlike texts have one sum. -/
theorem verify_sound {S : St} {t : Tr} (h : TrS S t) {k : T} {L : List T} (h0 : (verify (rootS S) k L).2.2 = 0) : ((verify (rootS S) k L).1 = (Tri.getC S k).1 ∧ (verify (rootS S) k L).2.1 = decide ((Tri.getC S k).2 = 0)) ∨ Clash (nodesS S ++ L) := by
  unfold verify at h0 ⊢
  by_cases hk : Tri.keyed k = true
  case neg =>
    rw [if_neg hk] at h0; cases h0
  rw [if_pos hk] at h0 ⊢
  by_cases hn : t.isNil
  · obtain rfl := empty_of h hn
    have e1 : rootS [] = [] := by rw [root_sum TrS.empty]; rfl
    rw [e1, if_pos rfl] at h0 ⊢
    by_cases hL : L = []
    · rw [if_pos hL, Tri.getC_none hk rfl]
      exact Or.inl ⟨rfl, rfl⟩
    · rw [if_neg hL] at h0; cases h0
  · have e1 : rootS S ≠ [] := by rw [root_sum h]; exact h.ok.sum_ne hn
    rw [if_neg e1, root_sum h] at h0 ⊢
    cases hf : follow (t.sum Nd.sumS) (Nib.ofL k) L with
    | none => rw [hf] at h0; cases h0
    | some v =>
      dsimp only
      rcases follow_sound t h.ok hn _ (Tri.ofL_fit k) L v hf with hv | hc
      · rw [h.tree.get h.rise] at hv
        exact Or.inl (get_is h hk hv)
      · rw [nodesS_nodes h]
        exact Or.inr hc
theorem verify_bad {r k : T} {L : List T} (h : (verify r k L).2.2 ≠ 0) : verify r k L = ([], false, (verify r k L).2.2) := by
  unfold verify at h ⊢
  split
  · rename_i hk
    rw [if_pos hk] at h
    split
    · rename_i hr
      rw [if_pos hr] at h
      split
      · rfl
      · rfl
    · rename_i hr
      rw [if_neg hr] at h
      cases hf : follow r (Nib.ofL k) L with
      | none => rfl
      | some v => rw [hf] at h; exact absurd rfl h
  · rfl
theorem verify_none {k : T} {L : List T} (hk : Tri.keyed k = true) (h : L ≠ []) : verify [] k L = ([], false, 130) := by
  unfold verify
  rw [if_pos hk, if_pos rfl, if_neg h]
theorem trailS_few {S : St} {t : Tr} (h : TrS S t) {k : T} (hk : Tri.keyed k = true) : (trailS S k).length ≤ 17 := by
  rw [trailS_eq h, List.length_map]
  have h1 := trail_few t h.ok (Nib.ofL k)
  rw [Nib.ofL_length] at h1
  simp [Tri.keyed] at hk
  omega
def wP : List T := [[1, 1, 2, 32, 107, 1, 1, 118]]
theorem wK_tr : TrS Tri.wK (.leaf [6, 11] [118]) := ⟨Tri.wU_tree, List.pairwise_singleton .., by decide, by decide⟩
theorem wK_trail (k : T) : trailS Tri.wK k = wP := by
  rw [trailS_eq wK_tr]
  show [Nd.written (Tr.node Nd.sumS (.leaf [6, 11] [118]))] = _
  rw [Tri.wU_text]
  rfl
theorem wK_k : verify (rootS Tri.wK) [107] wP = ([118], true, 0) := by
  have h := verify_whole wK_tr (k := [107]) (by decide)
  rw [wK_trail] at h
  rw [h]
  decide +kernel
theorem wK_x : verify (rootS Tri.wK) [120] wP = ([], false, 0) := by
  have h := verify_whole wK_tr (k := [120]) (by decide)
  rw [wK_trail] at h
  rw [h]
  decide +kernel
theorem wK_none : verify [] [107] wP = ([], false, 130) := verify_none (by decide) (by decide)
end Prf
end Go.Proofs.YtjfefphgikncnaaGreatDoor
namespace Go.Proofs.YtjfefphgikncnaaGreatDoor
open Go.RowKit Go.ChangeShapes Go.WideShapes
open Sto (T St)

set_option maxRecDepth 100000 in
theorem cellsItem : Tryz.prog.cellsOf 39 = 2 := by kernel_rfl
theorem okWide_slice_at {P : Program} {W : World} {r : Reach} {b0 : Nat} {t e : TypeId} {v : Value} (ht : P.underlying t = some (.slice e)) (h : Value.okWide P W r b0 t v) : v = .slice none 0 0 ∨ ∃ b o len cap, v = .slice (some ⟨b, o, none⟩) len cap ∧ len ≤ cap := by
  obtain ⟨a, len, cap, rfl⟩ := okWide_slice ht h
  simp only [Value.okWide, ht, Cell.okWide, Cell.ok] at h
  cases a with
  | none =>
    left
    cases len <;> cases cap <;> simp_all
  | some a =>
    right
    obtain ⟨h1, _, h2⟩ := h
    obtain ⟨b, o, sp⟩ := a
    have h3 : sp = none := h2.2.1
    subst h3
    exact ⟨b, o, len, cap, rfl, h1⟩
set_option maxRecDepth 100000 in
theorem item_cells {H : Type} {enc : TypeId × Value → H} {W : World} {fuel : Nat} {cs : List Value} {x : DataW H × List MemPlace} (ht : DataW.trod enc Tryz.prog W 0 (fun _ => true) true fuel 39 cs = some x) :
    ∃ s : T × T, cs = itcl s := by
  obtain ⟨ys, n', _, hy, hcl, hyl, hfs⟩ := DataW.trod_struct Tryz.underlying39 ht
  rw [cellsItem] at hcl
  match cs, hcl, ys, hyl with
  | [v0, v1], _, [y0, y1], _ =>
    have g0 := hfs 0 _ rfl
    have g1 := hfs 1 _ rfl
    simp [cellsS] at g0 g1
    obtain ⟨s0, e0, _, _⟩ := DataW.trod_string Tryz.underlying9 g0
    obtain ⟨s1, e1, _, _⟩ := DataW.trod_string Tryz.underlying9 g1
    obtain rfl : v0 = .string s0 := by simpa using e0
    obtain rfl : v1 = .string s1 := by simpa using e1
    exact ⟨(s0.data.toList, s1.data.toList), by simp [itcl]⟩
set_option maxRecDepth 100000 in
theorem items_open {H : Type} {enc : TypeId × Value → H} {W : World} {r : Reach} {b0 : Nat} {v : Value} {d : DataW H} {p : List MemPlace}
    (hv : Value.okWide Tryz.prog W r b0 31 v) (h : DataW.Trod enc Tryz.prog W 0 (fun _ => true) true 31 v d p)
    (hz : ∀ n ∈ d.weights Tryz.prog 31, n ≤ reachBytes) :
    ∃ L, ItIn W v L ∧ L.length * 32 ≤ reachBytes := by
  obtain ⟨fuel, hf⟩ := h
  rcases okWide_slice_at Tryz.underlying31 hv with rfl | ⟨b, o, len, cap, rfl, hlc⟩
  · exact ⟨[], ⟨none, 0, rfl, Nat.le_refl _, fun _ => Or.inl ⟨rfl, rfl⟩, fun h => absurd h (by simp)⟩, by simp⟩
  rcases Go.Deep.open_slice Tryz.underlying31 hf with ⟨hcs, _⟩ | ⟨x, l, c, m, n, D, Pl, hcs, _, hl, hm, hmm, hx, hel⟩
  · simp [Value.cells] at hcs
  · simp [Value.cells] at hcs
    obtain ⟨rfl, rfl, rfl⟩ := hcs
    simp only [if_true] at hmm
    subst hmm
    rw [cellsItem] at hel hx
    obtain ⟨hd, -⟩ := Prod.mk.inj hx
    have hlen32 : len * 32 ≤ reachBytes := by
      have h1 := hz ((((List.range len).map D).length + ((List.range (m - len)).map fun j => D (len + j)).length) * Tryz.prog.bytesOf 39) (by
        rw [hd]; simp [DataW.weights, Tryz.underlying31])
      rw [show Tryz.prog.bytesOf 39 = 32 from by kernel_rfl] at h1
      simp only [List.length_map, List.length_range] at h1
      omega
    have key : ∀ i, i < len → ∃ q : T × T, W.cell? ⟨b, o + i * 2 + 0, none⟩ = some (.string ⟨q.1.toArray⟩) ∧ W.cell? ⟨b, o + i * 2 + 1, none⟩ = some (.string ⟨q.2.toArray⟩) := fun i hi => by
      obtain ⟨cs', hc, ht⟩ := hel i (by omega)
      obtain ⟨_, _, hat⟩ := World.cells?_some hc
      obtain ⟨q, rfl⟩ := item_cells ht
      have q0 := hat 0 (by omega)
      have q1 := hat 1 (by omega)
      rw [Addr.add_mid, Addr.add_mid] at q0 q1
      exact ⟨q, by simpa [itcl] using q0, by simpa [itcl] using q1⟩
    obtain ⟨f, hf⟩ := Go.Deep.choose_lt (fun i hi => key i hi)
    have hlen : ((List.range len).map f).length = len := by simp
    refine ⟨(List.range len).map f, ⟨some ⟨b, o, none⟩, _, by rw [hlen], by rw [hlen]; exact hlc, fun _ => Or.inr ⟨b, o, rfl⟩, fun h0 => ?_⟩, by rw [hlen]; exact hlen32⟩
    rw [hlen] at h0
    obtain ⟨q0, _⟩ := hf 0 h0
    refine ⟨b, o, rfl, block_lt_of_cell q0, fun i hi j u hu => ?_⟩
    rw [hlen] at hi
    obtain ⟨q0, q1⟩ := hf i hi
    have e : ((List.range len).map f)[i]'(by rw [hlen]; exact hi) = f i := by simp
    rw [e] at hu
    match j, hu with
    | 0, hu => simp [itcl] at hu; subst hu; exact q0
    | 1, hu => simp [itcl] at hu; subst hu; exact q1
    | j + 2, hu => simp [itcl] at hu
end Go.Proofs.YtjfefphgikncnaaGreatDoor
