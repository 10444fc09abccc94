/- TriLoadPart, TriSeal -/
import Derived.Test.YtbkanebkobjnnaaGreatDoorPk13
import Derived.Test.YtbkanebkobjnnaaGreatDoorPk06
import Derived.Test.YtbkanebkobjnnaaGreatDoorPk10
namespace Go.Proofs.YtbkanebkobjnnaaGreatDoor
open Go.RowKit
open Sto (T St)
open Tri (Tr Ok hb)
open Go.Proofs.YtbkanebkobjnnaaGreatDoor.Nd (N)

theorem fine_most {n : N} (hf : Nd.fine n = true) : (∃ kd : Nat, (kd : Int) = n.kind ∧ 1 ≤ kd ∧ kd ≤ 3) ∧ n.path.length ≤ 16 ∧ n.val.length ≤ 32 ∧ ∀ x ∈ n.kids, x.length ≤ 32 := by
  unfold Nd.fine at hf
  simp only [Bool.and_eq_true, decide_eq_true_eq] at hf
  obtain ⟨h1, _, h3, h4, h5⟩ := hf
  refine ⟨?_, h3, h4, fun x hx => ?_⟩
  · by_cases k1 : n.kind = 1
    · exact ⟨1, k1.symm, by omega, by omega⟩
    · by_cases k2 : n.kind = 2
      · exact ⟨2, k2.symm, by omega, by omega⟩
      · by_cases k3 : n.kind = 3
        · exact ⟨3, k3.symm, by omega, by omega⟩
        · rw [if_neg k1, if_neg k2, if_neg k3] at h5; cases h5
  · unfold Nd.all32 at h1
    have := List.all_eq_true.1 h1 x hx
    simp only [Bool.or_eq_true, decide_eq_true_eq] at this
    rcases this with e | e
    · rw [e]; simp
    · omega
theorem Loaded.parts {S : St} {sum place : T} {inE : Bool} {t : Tr} {kd : Nat} {P V : T} {L : List T} (h : Loaded S sum place inE t) (hd : Sto.nodeOf S sum = (⟨kd, P, V, L⟩, 0)) : t.kind = kd ∧ t.pth = P ∧ t.vl = V := by
  have e := h.node
  rw [hd, Tri.node_kid _ h.nn] at e
  simp only [Prod.mk.injEq, N.mk.injEq, and_true] at e
  exact ⟨by omega, e.2.1.symm, e.2.2.1.symm⟩
theorem items_pos {t : Tr} (h : t.canon) (hn : ¬ t.isNil) : 1 ≤ t.items.length := List.length_pos_iff.2 (fun e => hn ((Tri.items_nil h).1 e))
theorem Only.setNew {d q : Nat} {a w : World} (h : Only d a w) (hq : a.heap.size ≤ q) (i : Nat) (u : Value) : Only d a (w.setCell ⟨q, i, none⟩ u) :=
  ⟨h.os, h.tape, h.output, by have := h.size; simpa [World.setCell] using this, fun k hk hg => (Below.heap_setCell w ⟨q, i, none⟩ u k (by show k ≠ q; omega)).trans (h.block k hk hg)⟩
/-- What holds at the loop's round i: the first kids are read. -/
def LdI (S : St) (d g n kd : Nat) (P V E sum : T) (L : List T) (hL : L.length = 16) (q pb : Nat) (w : World) (i : Nat) (wr : World) : Prop :=
  ∃ (k : Fin 16 → Tr) (Kv : Ks) (ni : Nat), RowP wr pb kd P V Kv sum ∧ (∀ j : Fin 16, j.val < i → KidOf S kd E (L[j.val]'(by rw [hL]; exact j.isLt)) j (k j)) ∧ (∀ j, PAt wr (Fm.up (pb + 1)) true (k j) (Kv j)) ∧ (∀ j : Fin 16, i ≤ j.val → k j = .nil) ∧
    LdAt wr d g ni ∧ ni = n + ownN V + cntK k i ∧ ni ≤ 1024 ∧ NodeAt wr q ⟨kd, P, V, L⟩ ∧ Only d w wr
/-- Behind the last kid: the trie that stands there. -/
theorem LdI.done {S : St} {d g n kd : Nat} {P V place sum : T} {L : List T} {hL : L.length = 16} {q pb : Nat} {w wr : World} {inE : Bool} (h : LdI S d g n kd P V (place ++ P) sum L hL q pb w 16 wr) (hf : Nd.fine ⟨kd, P, V, L⟩ = true)
    (hl : Sto.look S sum = some (Nd.written ⟨kd, P, V, L⟩)) (hs : Nd.sumS ⟨kd, P, V, L⟩ = sum) (hp : place.length + P.length ≤ 16) (hE : inE = true → kd = 3) (hv : V ≠ [] → 1 ≤ place.length + P.length ∧ (place.length + P.length) % 2 = 0) (hb : w.heap.size ≤ pb) :
    PartPost S sum place inE d g n w (.returned (.tuple #[.pointer (some ⟨pb, 0, none⟩), .int .i64 0])) wr := by
  obtain ⟨k, Kv, ni, hr, hk, hpa, -, hld, hni, hn, -, ho⟩ := h
  have hk' : ∀ i : Fin 16, KidOf S kd (place ++ P) ((⟨kd, P, V, L⟩ : N).kids[i.val]'(by show i.val < L.length; rw [hL]; exact i.isLt)) i (k i) := fun i => hk i i.isLt
  have hi := mkT_is (n := ⟨kd, P, V, L⟩) hL hf hk'
  have hlo := mkT_loaded (inE := inE) (place := place) hL hf rfl hl hs hk' hp (fun e => by have := hE e; show (kd : Int) = 3; omega) hv
  refine ⟨_, 0, ni, rfl, hld, ho, hn, Or.inl ⟨rfl, _, hlo, ?_, ?_⟩⟩
  · refine (PAt.iff hi.nn).2 ⟨pb, true, Kv, rfl, fun _ => rfl, hb, ?_, fun i => ?_⟩
    · have e1 : (mkT ⟨kd, P, V, L⟩ k).kind = kd := by have := hi.kind; exact Int.ofNat_inj.1 this
      rw [e1, hi.pth, hi.vl, hlo.sum]
      exact hr
    · rw [hi.kid]; exact (hpa i).upMono (by omega)
  · rw [items_count hlo.ok hi.nn, hi.vl, hni, cntK_same (k := (mkT ⟨kd, P, V, L⟩ k).kid) (m := k) (fun i _ => hi.kid i)]
    show n + ownN V + cntK k 16 = n + (ownN V + cntK k 16)
    omega
/-- A kid that is refused: so is the whole. -/
theorem LdI.bad {S : St} {n kd : Nat} {P V place sum : T} {L : List T} {hL : L.length = 16} {inE : Bool} {i : Nat} (hi : i < 16) {k : Fin 16 → Tr} {ni : Nat} (hk : ∀ j : Fin 16, j.val < i → KidOf S kd (place ++ P) (L[j.val]'(by rw [hL]; exact j.isLt)) j (k j)) (hni : ni = n + ownN V + cntK k i)
    (hd : Sto.nodeOf S sum = (⟨kd, P, V, L⟩, 0)) (hx : L[i]'(by omega) ≠ []) (hbad : ∀ t, Loaded S (L[i]'(by omega)) (placeT kd (place ++ P) ⟨i, hi⟩) (decide (kd = 2)) t → 1024 < ni + t.items.length) : ∀ t, Loaded S sum place inE t → 1024 < n + t.items.length := by
  intro t ht
  have hko := fun j => ht.kidOf hd (kind := kd) rfl hL j
  obtain ⟨e1, e2, e3⟩ := ht.parts hd
  have h1 : Loaded S (L[i]'(by omega)) (placeT kd (place ++ P) ⟨i, hi⟩) (decide (kd = 2)) (t.kid ⟨i, hi⟩) := by
    rcases hko ⟨i, hi⟩ with ⟨h, _⟩ | ⟨_, h⟩
    · exact absurd h hx
    · exact h
  have h2 := hbad _ h1
  have h3 := items_count ht.ok ht.nn
  have h4 := cntK_step t.kid i hi
  have h5 := cntK_mono t.kid (i := i + 1) (j := 16) (by omega) (by omega)
  have h6 : cntK k i = cntK t.kid i := cntK_same fun j hj => (hk j hj).one (hko j)
  rw [e3] at h3
  omega
theorem LdI.skip {S : St} {d g n kd : Nat} {P V E sum : T} {L : List T} {hL : L.length = 16} {q pb : Nat} {w wr : World} {i : Nat} (hi : i < 16) (h : LdI S d g n kd P V E sum L hL q pb w i wr) (hx : L[i]'(by omega) = []) : LdI S d g n kd P V E sum L hL q pb w (i + 1) wr := by
  obtain ⟨k, Kv, ni, hr, hk, hpa, hnil, hld, hni, hn, hnd, ho⟩ := h
  refine ⟨k, Kv, ni, hr, fun j hj => ?_, hpa, fun j hj => hnil j (by omega), hld, ?_, hn, hnd, ho⟩
  · by_cases e : j.val = i
    · obtain rfl : j = ⟨i, hi⟩ := Fin.ext e
      exact Or.inl ⟨hx, hnil _ (Nat.le_refl _)⟩
    · exact hk j (by omega)
  · rw [cntK_step k i hi, hnil ⟨i, hi⟩ (Nat.le_refl _), hni]; rfl
theorem LdI.more {S : St} {d g n kd : Nat} {P V E sum : T} {L : List T} {hL : L.length = 16} {q pb : Nat} {w wr wk : World} {i : Nat} (hi : i < 16) {k : Fin 16 → Tr} {Kv : Ks} {ni ni' : Nat} {z : Value} {t : Tr}
    (hr : RowP wr pb kd P V Kv sum) (hk : ∀ j : Fin 16, j.val < i → KidOf S kd E (L[j.val]'(by rw [hL]; exact j.isLt)) j (k j)) (hpa : ∀ j, PAt wr (Fm.up (pb + 1)) true (k j) (Kv j)) (hnil : ∀ j : Fin 16, i ≤ j.val → k j = .nil) (hni : ni = n + ownN V + cntK k i) (hnd : NodeAt wr q ⟨kd, P, V, L⟩) (ho : Only d w wr)
    (hx : L[i]'(by omega) ≠ []) (ht : Loaded S (L[i]'(by omega)) (placeT kd E ⟨i, hi⟩) (decide (kd = 2)) t) (hpt : PAt wk (Fm.up wr.heap.size) true t z) (hn' : ni' = ni + t.items.length) (hle : ni' ≤ 1024) (hld : LdAt wk d g ni') (hok : Only d wr wk)
    (hdp : d < pb) (hdq : d ≠ q) (hqp : q ≠ pb) (hwp : w.heap.size ≤ pb) : LdI S d g n kd P V E sum L hL q pb w (i + 1) (wk.setCell ⟨pb, 3 + i, none⟩ z) := by
  have hpl := lt_of_heap hr
  have hql := lt_of_heap hnd
  have hset : ∀ b, b ≠ pb → (wk.setCell ⟨pb, 3 + i, none⟩ z).heap[b]? = wk.heap[b]? := fun b hb' => heap_setCell_other wk ⟨pb, 3 + i, none⟩ b z hb'
  refine ⟨Tri.upd k ⟨i, hi⟩ t, updK Kv ⟨i, hi⟩ z, ni', ?_, fun j hj => ?_, fun j => ?_, fun j hj => ?_, ?_, ?_, hle, ?_, ?_⟩
  · have h1 : RowP wk pb kd P V Kv sum := (hok.block pb hpl (by omega)).trans hr
    exact h1.setKid ⟨i, hi⟩ z
  · simp only [Tri.upd]
    split
    · rename_i e
      subst e
      exact Or.inr ⟨hx, ht⟩
    · rename_i e
      exact hk j (by have : j.val ≠ i := fun h => e (Fin.ext h); omega)
  · simp only [Tri.upd, updK]
    split
    · exact (hpt.upMono (by omega)).up fun b hb' _ => hset b (by omega)
    · exact ((hpa j).upOnly hok (by omega)).up fun b hb' _ => hset b (by omega)
  · simp only [Tri.upd]
    rw [if_neg (fun e => by have := congrArg Fin.val e; dsimp only at this; omega)]
    exact hnil j (by omega)
  · exact (hset d (by omega)).trans hld
  · rw [cntK_step _ i hi, cntK_same (k := Tri.upd k ⟨i, hi⟩ t) (m := k) (fun j hj => by
      simp only [Tri.upd]
      rw [if_neg (fun e => by have := congrArg Fin.val e; dsimp only at this; omega)])]
    simp only [Tri.upd, if_true]
    omega
  · exact (hset q hqp).trans ((hok.block q hql (fun e => hdq e.symm)).trans hnd)
  · exact (ho.trans hok).setNew hwp _ _
theorem scells_info (L : List T) (h : L.length = 16) : (Tryz.prog.info? 71).map (·.size) = some (scells L).length := by rw [scells_length, h]; kernel_rfl
theorem NodeAt.rng {w : World} {g : Nat} {n : N} (h : NodeAt w g n) : w.rangeAt g 3 (scells n.kids) := by
  intro j v hv
  have hj : j < n.kids.length := by
    rcases Nat.lt_or_ge j n.kids.length with h2 | h2
    · exact h2
    · rw [List.getElem?_eq_none (by rw [scells_length]; exact h2)] at hv; cases hv
  rw [h.kid j hj]
  simpa [scells, hj] using hv
set_option maxRecDepth 100000 in
theorem index_strs (L : List T) (hL : L.length = 16) (i : Nat) (hi : i < 16) (w : World) : (Instr.index 71 (.agg (scells L).toArray) (.int .i64 i)).run Tryz.prog w = .ok (.string ⟨(L[i]'(by omega)).toArray⟩) w := by
  have hu := Tryz.underlying71
  have hk0 : (0 : Int) ≤ (i : Int) := by omega
  have hk8 : (i : Int) < 16 := by omega
  have hat : (scells L)[i]? = some (.string ⟨(L[i]'(by omega)).toArray⟩) := by
    simp [scells, hL, hi]
  have hs := Tryz.sizeOf9
  have ha := Tryz.isAgg9
  unfold Instr.index
  go_simp
theorem fine_deep {kd : Nat} {place P V : T} {L : List T} (hL : L.length = 16) (hf : Nd.fine ⟨kd, P, V, L⟩ = true) (i : Fin 16) (hx : L[i.val]'(by rw [hL]; exact i.isLt) ≠ []) : place.length < (placeT kd (place ++ P) i).length := by
  have hf2 := hf
  rw [Nd.fine_kinds _ hL] at hf
  unfold placeT
  by_cases k3 : kd = 3
  · rw [if_pos k3]
    have : (place ++ P ++ [hb i]).length = place.length + P.length + 1 := by simp [Nat.add_assoc]
    omega
  · rw [if_neg k3]
    by_cases k1 : kd = 1
    · subst k1
      rw [if_pos (by rfl)] at hf
      simp only [Nd.leafB, Bool.and_eq_true] at hf
      exact absurd (none_at hf.2.2.2 i.val (by show i.val < L.length; rw [hL]; exact i.isLt)) hx
    · by_cases k2 : kd = 2
      · subst k2
        rw [if_neg (by show ¬ ((2 : Int) = 1); decide), if_pos (by rfl)] at hf
        simp only [Nd.extB, Bool.and_eq_true, decide_eq_true_eq] at hf
        have := List.length_pos_iff.2 hf.1
        simp; omega
      · exfalso
        rw [if_neg (by show ¬ ((kd : Int) = 1); omega), if_neg (by show ¬ ((kd : Int) = 2); omega), if_neg (by show ¬ ((kd : Int) = 3); omega)] at hf
        cases hf
theorem ptr_form {P1 : Prop} {P2 : Tr → Prop} {P3 : Tr → Prop} {w : World} {F : Fm} {z : Value} {P4 P5 : Prop} (h : (P1 ∧ ∃ t, P2 t ∧ PAt w F true t z ∧ P3 t) ∨ (P4 ∧ z = nilp ∧ P5)) : ∃ zz, z = .pointer zz := by
  rcases h with ⟨_, t, _, h, _⟩ | ⟨_, h, _⟩
  · rcases h.cellK with rfl | ⟨g, rfl⟩
    · exact ⟨_, rfl⟩
    · exact ⟨_, rfl⟩
  · exact ⟨_, h⟩
def NoneIs (S : St) (sum : T) : Prop := ∀ (place : T) (inE : Bool) (t : Tr), ¬ Loaded S sum place inE t
set_option maxRecDepth 100000 in
set_option maxHeartbeats 8000000 in
theorem part_step {S : St} {d g m f : Nat} (hS0 : OwnSums S) (IH : PartIs S d g m f) : PartIs S d g m (f + 1) := by
  intro sum place inE n w hf hpl hs hn hL hSt
  have hdm : d ≠ m := fun e => hSt.map.no_cells _ _ _ _ rfl (by rw [← e]; exact hL)
  have hdg : d ≠ g := fun e => by
    have h1 := hSt.head
    rw [← e, hL] at h1
    injection h1 with h1; injection h1 with _ h1 _
    exact absurd h1 (by decide)
  have HST : Hid (∀ w', Only d w w' → StoreAt w' g m S) := Lib.hid (fun w' ho => hSt.out (F := fun j => j = d) ⟨ho.os, ho.tape, ho.output, ho.size, fun i hi hne => ho.block i hi hne⟩ (fun e => hdg e.symm) (fun e => hdm e.symm))
  have HND := Lib.hid (stnode_any g m S sum w hSt (by omega))
  have HLD := Lib.hid hL
  have hsome := nodeOf_some hS0 (x := sum)
  have hnone : (Sto.nodeOf S sum).2 ≠ 0 → NoneIs S sum := fun h place inE t ht => nodeOf_none h ht
  obtain ⟨⟨nd, c⟩, hX⟩ : ∃ X, Sto.nodeOf S sum = X := ⟨_, rfl⟩
  rw [hX] at hsome hnone HND
  dsimp only at hsome hnone HND
  have hlc := hL.store
  have hls := hL.num
  have HI19 : Hid ((Tryz.prog.info? 73).map (·.size) = some 19) := Lib.hid (by kernel_rfl)
  by_cases hc : c = 0
  case neg =>
    have HNO := Lib.hid (hnone hc)
    have c1 : (c == 0) = false := by rw [beq_eq_false_iff_ne]; exact hc
    have c2 : (c != 0) = true := by rw [bne_iff_ne]; exact hc
    have HC0 := Lib.hid hc
    have hk16 : (Sto.nodeOf S sum).1.kids.length = 16 := by
      unfold Sto.nodeOf
      split
      · rcases Nd.dec_is _ with ⟨_, _, h, _⟩ | ⟨_, h, _⟩
        · exact h
        · rw [h]; rfl
      · rfl
    rw [hX] at hk16
    have HON := Lib.hid (ncl_one nd)
    have HSN : Hid ((ncl nd).toArray.size = 19) := Lib.hid (by rw [List.size_toArray, ncl_length nd hk16])
    unfold ndval at HND
    obtain ⟨C, hC⟩ : ∃ C, (ncl nd).toArray = C := ⟨_, rfl⟩
    rw [hC] at HND HON HSN
    have HI : Hid ((Tryz.prog.info? 73).map (·.size) = some C.size) := Lib.hid (by rw [HSN.out]; exact HI19.out)
    have HNN := Lib.hid hn
    clear hX hsome hnone hL hSt hk16 hC hc IH hS0 hdm hdg
    go_enter Tryz.func50, Tryz.ntmps50
    go_wp2_with fail
    refine HND.out.mono ?_
    rintro e w1 ⟨rfl, hb1⟩
    have HB2 := Lib.hid (hb1.alloc hb1.size (.cells C 73))
    clear hb1
    go_wp2_with (refine wpList_store_fresh (by rfl) _ _ _ (by rfl) w1.heap.size rfl C (by rfl) (by rfl) _ _ HI.out HSN.out.symm HON.out ?_)
    go_ret2
    exact ⟨nilp, c, n, rfl, HLD.out.below HB2.out, Only.of HB2.out, HNN.out, Or.inr ⟨HC0.out, rfl, fun t ht => absurd ht (HNO.out _ _ _)⟩⟩
  subst hc
  obtain ⟨hfine, h16, hlook, hsum⟩ := hsome rfl
  obtain ⟨⟨kd, hkd, hk1, hk3⟩, hP, hV, hKL⟩ := fine_most hfine
  obtain ⟨kk, P, V, L⟩ := nd
  dsimp only at hkd h16 hP hV hKL
  subst hkd
  have HX := Lib.hid hX
  have HFI := Lib.hid hfine
  have HLO := Lib.hid hlook
  have HSU := Lib.hid hsum
  have HON := Lib.hid (ncl_one ⟨kd, P, V, L⟩)
  have HSN : Hid ((ncl ⟨kd, P, V, L⟩).toArray.size = 19) := Lib.hid (by rw [List.size_toArray, ncl_length _ h16])
  have HNW : Hid (∀ w1 : World, NodeAt (w1.alloc (.cells (ncl ⟨kd, P, V, L⟩).toArray 73)) w1.heap.size ⟨kd, P, V, L⟩) := Lib.hid (fun w1 => heap_new_at w1 _ _ rfl)
  unfold ndval at HND
  obtain ⟨C, hC⟩ : ∃ C, (ncl ⟨kd, P, V, L⟩).toArray = C := ⟨_, rfl⟩
  rw [hC] at HND HON HSN HNW
  have HI : Hid ((Tryz.prog.info? 73).map (·.size) = some C.size) := Lib.hid (by rw [HSN.out]; exact HI19.out)
  have HNN := Lib.hid hn
  have HL16 := Lib.hid h16
  have HKLS := Lib.hid hKL
  have HPL := Lib.hid hpl
  have HPP := Lib.hid hP
  have HVV := Lib.hid hV
  have HFF := Lib.hid hf
  have HIH := Lib.hid IH
  have HDL := Lib.hid (lt_of_heap hL)
  have hcm := cat_mk place P
  have hadd : ∀ w, (Op.stringOp .add (⟨place.toArray⟩ : ByteArray) ⟨P.toArray⟩).run Tryz.prog w = .ok (.string ⟨(place ++ P).toArray⟩) w := fun w => run_string_add_lists w place P (by omega) (by omega)
  have hsum : ¬ (9223372036854775807 < place.length + P.length) := by omega
  have HEL : Hid ((place ++ P).length = place.length + P.length) := Lib.hid List.length_append
  have hel : (place ++ P).length ≤ 32 := by rw [List.length_append]; omega
  obtain ⟨E, hE⟩ : ∃ E, place ++ P = E := ⟨_, rfl⟩
  rw [hE] at hcm hadd HEL hel
  have HE := Lib.hid hE
  have HSS := Lib.hid hs
  clear hX hfine hlook hL hSt h16 hC IH hS0 hdm hdg hKL hP hV hE hf hpl hs hn hnone
  go_enter Tryz.func50, Tryz.ntmps50
  go_wp2_with fail
  refine HND.out.mono ?_
  rintro e w1 ⟨rfl, hb1⟩
  have HB2 := Lib.hid (hb1.alloc hb1.size (.cells C 73))
  have HN2 := Lib.hid (HNW.out w1)
  have HQW : Hid (w.heap.size ≤ w1.heap.size) := Lib.hid hb1.size
  clear hb1 HNW
  have cn0 := HN2.out.kind
  have cn1 := HN2.out.path
  have cn2 := HN2.out.val
  go_upto_region 4 with (refine wpList_store_fresh (by rfl) _ _ _ (by rfl) w1.heap.size rfl C (by rfl) (by rfl) _ _ HI.out HSN.out.symm HON.out ?_)
  obtain ⟨q, hq⟩ : ∃ q, w1.heap.size = q := ⟨_, rfl⟩
  rw [hq] at cn0 cn1 cn2 HN2 HQW ⊢
  obtain ⟨w2, hw2⟩ : ∃ w2, w1.alloc (.cells C 73) = w2 := ⟨_, rfl⟩
  rw [hw2] at cn0 cn1 cn2 HN2 HB2 ⊢
  clear hq hw2
  by_cases hbE : inE = true ∧ kd ≠ 3
  · obtain ⟨rfl, hk⟩ := hbE
    have k1 : ((kd : Int) != 3) = true := by rw [bne_iff_ne]; omega
    have k2 : ((kd : Int) == 3) = false := by rw [beq_eq_false_iff_ne]; omega
    have HK := Lib.hid hk
    have HBAD : Hid (∀ t, Loaded S sum place true t → 1024 < n + t.items.length) := Lib.hid (fun t ht => by
      have e := (ht.parts HX.out).1
      have := isBr_kind.1 (ht.br rfl)
      exact absurd (e.symm.trans this) HK.out)
    clear hk
    go_wp2
    go_ret2
    exact ⟨nilp, 4, n, rfl, HLD.out.below HB2.out, Only.of HB2.out, HNN.out, Or.inr ⟨by decide, rfl, HBAD.out⟩⟩
  have HIE : Hid (inE = true → kd = 3) := Lib.hid (fun h => Classical.byContradiction fun hk => hbE ⟨h, hk⟩)
  clear hbE
  go_upto_region 5 with fail
  go_cut [43] from 33 to 43 (fun b wx => b = .bool (decide (16 < E.length)) ∧ wx = w2)
  case first =>
    have q5 : ((E.length : Int) > 16) ↔ 16 < E.length := by omega
    have q6 : decide ((16 : Int) < (E.length : Int)) = decide (16 < E.length) := by rw [decide_eq_decide]; omega
    cases inE with
    | false =>
      go_wp2
      go_meet
      case rel => exact ⟨rfl, rfl⟩
    | true =>
      have k0 : kd = 3 := HIE.out rfl
      have k1 : ((kd : Int) != 3) = false := by rw [k0]; rfl
      have k2 : ((kd : Int) == 3) = true := by rw [k0]; rfl
      have k3 : (kd : Int) = 3 := by omega
      clear k0
      go_wp2
      go_meet
      case rel => exact ⟨rfl, rfl⟩
  case rest =>
    obtain ⟨rfl, hwc⟩ := hcut
    subst hwc
    obtain ⟨w2, rfl⟩ : ∃ y, y = wc := ⟨_, rfl⟩
    by_cases hlen : 16 < E.length
    · rw [decide_eq_true hlen]
      have HBAD : Hid (∀ t, Loaded S sum place inE t → 1024 < n + t.items.length) := Lib.hid (fun t ht => by
        have e := (ht.parts HX.out).2.1
        have h1 := ht.short
        have h2 := HEL.out
        rw [e] at h1
        omega)
      clear hlen
      go_wp2
      go_ret2
      exact ⟨nilp, 4, n, rfl, HLD.out.below HB2.out, Only.of HB2.out, HNN.out, Or.inr ⟨by decide, rfl, HBAD.out⟩⟩
    rw [decide_eq_false hlen]
    have HEN : Hid (place.length + P.length ≤ 16) := Lib.hid (by have := HEL.out; omega)
    have HL2 := Lib.hid (HLD.out.below HB2.out)
    clear hlen
    have HQD : Hid (d ≠ q) := Lib.hid (by have := HDL.out; have := HQW.out; omega)
    by_cases hv : V = []
    · have v1 : (V == []) = true := beq_iff_eq.2 hv
      have v2 : (V != []) = false := by rw [hv]; rfl
      have v3 : V.isEmpty = true := by rw [hv]; rfl
      have HL3 : Hid (LdAt w2 d g (n + ownN V)) := Lib.hid (by rw [hv]; exact HL2.out)
      have HO3 : Hid (Only d w w2) := Lib.hid (Only.of HB2.out)
      have HN3 : Hid (NodeAt w2 q ⟨kd, P, V, L⟩) := HN2
      have HM3 : Hid (n + ownN V ≤ 1024) := Lib.hid (by rw [hv]; have := HNN.out; simp [ownN]; omega)
      have HVE : Hid (V ≠ [] → 1 ≤ place.length + P.length ∧ (place.length + P.length) % 2 = 0) := Lib.hid (fun h => absurd hv h)
      clear hv HB2 HN2 HL2 hcm hadd hsum
      obtain ⟨w3, rfl⟩ : ∃ y, y = w2 := ⟨_, rfl⟩
      go_upto_region 11 with fail
      have HQL : Hid (q < w3.heap.size) := Lib.hid (lt_of_heap HN3.out)
      have HCN : Hid (∀ w', Below w3.heap.size w3 w' → w'.cell? ⟨q, 0, none⟩ = some (.int .i64 kd) ∧ w'.cell? ⟨q, 1, none⟩ = some (.string ⟨P.toArray⟩) ∧ w'.cell? ⟨q, 2, none⟩ = some (.string ⟨V.toArray⟩)) := Lib.hid (fun w' h => ⟨(HN3.out.below h).kind, (HN3.out.below h).path, (HN3.out.below h).val⟩)
      have HCLN : Hid (∀ w', Below w3.heap.size w3 w' → Calls Tryz.prog 43 #[.string ⟨sum.toArray⟩] w' fun e w'' => e = .returned (.string ⟨sum.toArray⟩) ∧ Below w3.heap.size w3 w'') := Lib.hid (fun w' h => (dclone_any sum w' (by have := HSS.out; omega)).mono fun e w'' q => ⟨q.1, bchain h q.2⟩)
      have BD : Below w3.heap.size w3 w3.drew := (Below.refl _ _).drew
      obtain ⟨d0, d1, d2⟩ := HCN.out _ BD
      go_cut [14] from 53 to 62 (fun p wx => ∃ pb, p = .pointer (some ⟨pb, 0, none⟩) ∧ RowP wx pb kd P V noK sum ∧ w3.heap.size ≤ pb ∧ Below w3.heap.size w3 wx)
      case first =>
        go_wp2
        go_region_held3 (fun w' => w'.cell? ⟨q, 0, none⟩ = some (.int .i64 kd) ∧ w'.cell? ⟨q, 1, none⟩ = some (.string ⟨P.toArray⟩) ∧ w'.cell? ⟨q, 2, none⟩ = some (.string ⟨V.toArray⟩))
          ((first | (with_reducible exact ⟨d0, d1, d2⟩) | (refine HCN.out _ ?_; first | (with_reducible assumption) | (exact hb6.alloc hb6.size _))))
          ((go_at_call 43; refine (HCLN.out _ ?_).mono ?_; (with_reducible exact BD); rintro e w6 ⟨rfl, hb6⟩))
        all_goals
          go_wp2_with fail
          go_meet
          case rel => exact ⟨_, rfl, RowP.new rfl, hb6.size, hb6.alloc hb6.size _⟩
      case rest =>
        obtain ⟨pb, rfl, hrow, hpb, hb4⟩ := hcut
        obtain ⟨w4, rfl⟩ : ∃ y, y = wc := ⟨_, rfl⟩
        have HR4 := Lib.hid hrow
        have HPB : Hid (q < pb ∧ d < pb ∧ w.heap.size ≤ pb) := Lib.hid ⟨by have := HQL.out; omega, by have := HDL.out; have := HO3.out.size; omega, by have := HO3.out.size; omega⟩
        have HN4 := Lib.hid (HN3.out.below hb4)
        have HL4 := Lib.hid (HL3.out.below hb4)
        have HO4 := Lib.hid (HO3.out.trans (Only.of hb4))
        have HRR := Lib.hid HN4.out.rng
        have HI16 := Lib.hid (scells_info L HL16.out)
        have HIX := Lib.hid (fun i hi w => index_strs L HL16.out i hi w)
        clear hrow hpb hb4 d0 d1 d2 BD HCLN HCN hlc hls
        go_wp2_with (refine wpList_load_mid (by rfl) _ _ (by rfl) q 3 (by rfl) (scells L) _ HRR.out Tryz.underlying71 (by rfl) HI16.out ?_)
        obtain ⟨SC, hSC⟩ : ∃ SC, scells L = SC := ⟨_, rfl⟩
        rw [hSC] at HIX HI16 HRR ⊢
        clear hSC
        go_loopw [65] (fun iv wr => ∃ i : Nat, i ≤ 16 ∧ iv = .int .i64 i ∧ LdI S d g n kd P V E sum L HL16.out q pb w i wr) (fun i _ => 16 - (intOf i).toNat)
        case atStart => exact ⟨0, by omega, rfl, fun _ => .nil, noK, n + ownN V, HR4.out, fun j hj => by omega, fun j => PAt.nil _ _ _, fun _ _ => rfl, HL4.out, by simp [cntK_zero], HM3.out, HN4.out, HO4.out⟩
        case round =>
          obtain ⟨i, hi, rfl, hld⟩ := hrel
          by_cases hlt : i < 16
          · have h1 : (i : Int) < 16 := by omega
            have h0 : (0 : Int) ≤ (i : Int) := by omega
            have nix := HIX.out i hlt
            have hkl := HKLS.out (L[i]'(by rw [HL16.out]; exact hlt)) (List.getElem_mem _)
            have HXI : Hid (∃ x, x = L[i]'(by rw [HL16.out]; exact hlt)) := Lib.hid ⟨_, rfl⟩
            by_cases hxe : L[i]'(by rw [HL16.out]; exact hlt) = []
            · have HSK := Lib.hid (LdI.skip hlt hld hxe)
              rw [hxe] at nix
              clear hld hxe hkl
              go_wp2
              exact ⟨⟨i + 1, by omega, by go_num, HSK.out⟩, by simp [intOf]; omega⟩
            · obtain ⟨k, Kv, ni, hr, hk, hpa, hnil, hl, hni, hn, hnd, ho⟩ := hld
              have hdeep := fine_deep (place := place) HL16.out HFI.out ⟨i, hlt⟩ hxe
              rw [HE.out] at hdeep
              have hplc : (placeT kd E ⟨i, hlt⟩).length ≤ 100 := by
                unfold placeT
                split
                · simp; omega
                · omega
              have HPLC : Hid (∀ w', Below wr.heap.size wr w' → Calls Tryz.prog 68 #[.int .i64 kd, .string ⟨E.toArray⟩, .int .i64 i] w' fun r w'' => r = .returned (.string ⟨(placeT kd E ⟨i, hlt⟩).toArray⟩) ∧ Below wr.heap.size wr w'') := Lib.hid (fun w' h => (place_any kd E ⟨i, hlt⟩ w' (by omega) hk3).mono fun r w'' q => ⟨q.1, bchain h q.2⟩)
              have HKID : Hid (∀ w', Below wr.heap.size wr w' → Calls Tryz.prog 75 #[.pointer (some ⟨d, 0, none⟩), .int .i64 kd, .string ⟨(L[i]'(by rw [HL16.out]; exact hlt)).toArray⟩, .string ⟨(placeT kd E ⟨i, hlt⟩).toArray⟩] w' (PartPost S (L[i]'(by rw [HL16.out]; exact hlt)) (placeT kd E ⟨i, hlt⟩) (decide (kd = 2)) d g ni w')) := Lib.hid (fun w' h =>
                ldkid_any HIH.out kd _ _ ni w' (fun hp => by have := HFF.out; have := HPL.out; omega) (by omega) hkl hn (hl.below h) (HST.out w' (ho.trans (Only.of h))))
              have HRW := Lib.hid hr
              have HKK := Lib.hid hk
              have HPA := Lib.hid hpa
              have HNIL := Lib.hid hnil
              have HNI := Lib.hid hni
              have HND2 := Lib.hid hnd
              have HOW := Lib.hid ho
              have HXN := Lib.hid hxe
              have HCK : Hid (∀ w', Below wr.heap.size wr w' → w'.cell? ⟨q, 0, none⟩ = some (.int .i64 kd)) := Lib.hid (fun w' h => (HND2.out.below h).kind)
              have HPK : Hid (∀ w' wk, Below wr.heap.size wr w' → Only d w' wk → wk.cell? ⟨pb, 3 + i, none⟩ = some (Kv ⟨i, hlt⟩) ∧ wk.frozen? ⟨pb, 3 + i, none⟩ = false ∧ wk.cell? ⟨q, 0, none⟩ = some (.int .i64 kd) ∧ ∀ v, (wk.setCell ⟨pb, 3 + i, none⟩ v).cell? ⟨q, 0, none⟩ = some (.int .i64 kd)) := Lib.hid (fun w' wk h ho => by
                have h2 := HRW.out.below h
                have h3 : RowP wk pb kd P V Kv sum := (ho.block pb (lt_of_heap h2) (by have := HPB.out.2.1; omega)).trans h2
                have h4 := ho.cell (HCK.out _ h) (p := ⟨q, 0, none⟩) (fun e => HQD.out e.symm)
                exact ⟨h3.kid ⟨i, hlt⟩, h3.free _, h4, fun v => keep_cell h4 (Nat.ne_of_lt HPB.out.1)⟩)
              obtain ⟨x, hx⟩ : ∃ x, L[i]'(by rw [HL16.out]; exact hlt) = x := ⟨_, rfl⟩
              have HXL := Lib.hid hx
              have hx1 : (x == []) = false := by rw [beq_eq_false_iff_ne, ← hx]; exact hxe
              have hx2 : x.isEmpty = false := by rw [← hx]; cases h : L[i]'(by rw [HL16.out]; exact hlt) with
                | nil => exact absurd h hxe
                | cons a r => rfl
              rw [hx] at nix HKID
              obtain ⟨pl, hplq⟩ : ∃ pl, placeT kd E ⟨i, hlt⟩ = pl := ⟨_, rfl⟩
              have HPQ := Lib.hid hplq
              rw [hplq] at HPLC HKID
              have BD : Below wr.heap.size wr wr.drew := (Below.refl _ _).drew
              have cD := HCK.out _ BD
              clear hr hk hpa hnil hl hni hn hnd ho hxe hkl hdeep hplc hx hplq HXI
              go_upto_region 16 with fail
              go_region_held3 (fun w' => w'.cell? ⟨q, 0, none⟩ = some (.int .i64 kd))
                ((first | (with_reducible exact cD) | (with_reducible exact qk) | (with_reducible exact qs _) | (refine HCK.out _ ?_; with_reducible assumption)))
                (first | (go_at_call 68; refine (HPLC.out _ ?_).mono ?_; (with_reducible exact BD); rintro e wp ⟨rfl, hp1⟩) | (go_at_call 75; refine (HKID.out _ ?_).mono ?_; (with_reducible exact hp1); rintro e wk ⟨z, c, ni', rfl, hl', ho', hn', hcase⟩; obtain ⟨zz, rfl⟩ := ptr_form hcase; obtain ⟨pk, fk, qk, qs⟩ := HPK.out _ _ hp1 ho'))
              all_goals
                have HOK : Hid (Only d wr wk) := Lib.hid ((Only.of hp1).trans ho')
                have HLW : Hid (LdAt (wk.setCell ⟨pb, 3 + i, none⟩ (.pointer zz)) d g ni') := Lib.hid (hl'.setNew (by have := HPB.out.2.1; omega) _ _)
                have HNW : Hid (ni' ≤ 1024) := Lib.hid hn'
                rcases hcase with ⟨rfl, t, ht, hpt, hnn⟩ | ⟨hc0, hz, hbad⟩
                · have HMORE : Hid (LdI S d g n kd P V E sum L HL16.out q pb w (i + 1) (wk.setCell ⟨pb, 3 + i, none⟩ (.pointer zz))) := Lib.hid (LdI.more hlt HRW.out HKK.out HPA.out HNIL.out HNI.out HND2.out HOW.out HXN.out (t := t) (by rw [HXL.out, HPQ.out]; exact ht) (hpt.upMono hp1.size) hnn hn' hl' HOK.out HPB.out.2.1 HQD.out (Nat.ne_of_lt HPB.out.1) HPB.out.2.2)
                  clear hp1 ho' hl' hn' ht hpt hnn pk fk qk qs
                  go_wp2
                  exact ⟨⟨i + 1, by omega, by go_num, HMORE.out⟩, by simp [intOf]; omega⟩
                · have HBAD : Hid (∀ t, Loaded S sum place inE t → 1024 < n + t.items.length) := Lib.hid (LdI.bad (kd := kd) (P := P) (V := V) (L := L) (hL := HL16.out) (k := k) (ni := ni) hlt (by rw [HE.out]; exact HKK.out) HNI.out HX.out HXN.out (by rw [HE.out, HXL.out, HPQ.out]; exact hbad))
                  have HC0 := Lib.hid hc0
                  have HOO : Hid (Only d w (wk.setCell ⟨pb, 3 + i, none⟩ (.pointer zz))) := Lib.hid ((HOW.out.trans HOK.out).setNew HPB.out.2.2 _ _)
                  have c1 : (c == 0) = false := by rw [beq_eq_false_iff_ne]; exact hc0
                  have c2 : (c != 0) = true := by rw [bne_iff_ne]; exact hc0
                  clear hp1 ho' hl' hn' hc0 hz hbad pk fk qk qs
                  go_wp2
                  go_ret2
                  exact ⟨nilp, c, ni', rfl, HLW.out, HOO.out, HNW.out, Or.inr ⟨HC0.out, rfl, HBAD.out⟩⟩
          · obtain rfl : i = 16 := by omega
            have h1 : ¬ ((16 : Int) < 16) := by decide
            have HDONE : Hid (PartPost S sum place inE d g n w (.returned (.tuple #[.pointer (some ⟨pb, 0, none⟩), .int .i64 0])) wr) := Lib.hid (by
              rw [← HE.out] at hld
              exact hld.done HFI.out HLO.out HSU.out HEN.out HIE.out HVE.out HPB.out.2.2)
            clear hld
            go_wp2
            go_ret2
            exact HDONE.out
    · have v1 : (V == []) = false := by rw [beq_eq_false_iff_ne]; exact hv
      have v2 : (V != []) = true := by rw [bne_iff_ne]; exact hv
      have v3 : V.isEmpty = false := by cases V <;> simp_all
      have HIT := Lib.hid (lditem_any E w2 HL2.out HNN.out (by omega))
      have HVN := Lib.hid hv
      clear hv
      go_wp2_with fail
      refine HIT.out.mono ?_
      rintro e w3 ⟨c, rfl, ho3, hcase⟩
      have HO3 : Hid (Only d w w3) := Lib.hid ((Only.of HB2.out).trans ho3)
      have HN3 : Hid (NodeAt w3 q ⟨kd, P, V, L⟩) := Lib.hid ((ho3.block q (lt_of_heap HN2.out) (fun e => HQD.out e.symm)).trans HN2.out)
      rcases hcase with ⟨rfl, e1, e2, e3, hl3⟩ | ⟨hc0, hl3, hwhy⟩
      case inr =>
        have c1 : (c == 0) = false := by rw [beq_eq_false_iff_ne]; exact hc0
        have c2 : (c != 0) = true := by rw [bne_iff_ne]; exact hc0
        have HC0 := Lib.hid hc0
        have HL3 := Lib.hid hl3
        have HBAD : Hid (∀ t, Loaded S sum place inE t → 1024 < n + t.items.length) := Lib.hid (fun t ht => by
          obtain ⟨e1, e2, e3⟩ := ht.parts HX.out
          have hm := item_own (t := t) (by rw [e3]; exact HVN.out)
          have hfi := ht.fit _ hm
          dsimp only at hfi
          rw [e2, ← HEL.out] at hfi
          have h5 := items_pos ht.ok.canon ht.nn
          rcases hwhy with h | h | h <;> omega)
        clear hc0 hl3 hwhy ho3
        go_wp2
        go_ret2
        exact ⟨nilp, c, n, rfl, HL3.out, HO3.out, HNN.out, Or.inr ⟨HC0.out, rfl, HBAD.out⟩⟩
      have HL3 : Hid (LdAt w3 d g (n + ownN V)) := Lib.hid (by unfold ownN; rw [if_neg HVN.out]; exact hl3)
      have HM3 : Hid (n + ownN V ≤ 1024) := Lib.hid (by unfold ownN; rw [if_neg HVN.out]; omega)
      have HVE : Hid (V ≠ [] → 1 ≤ place.length + P.length ∧ (place.length + P.length) % 2 = 0) := Lib.hid (fun _ => by rw [← HEL.out]; exact ⟨e1, e2⟩)
      clear HB2 HN2 HL2 hcm hadd hsum hl3 ho3 e1 e2 e3 cn0 cn1 cn2
      go_upto_region 11 with fail
      have HQL : Hid (q < w3.heap.size) := Lib.hid (lt_of_heap HN3.out)
      have HCN : Hid (∀ w', Below w3.heap.size w3 w' → w'.cell? ⟨q, 0, none⟩ = some (.int .i64 kd) ∧ w'.cell? ⟨q, 1, none⟩ = some (.string ⟨P.toArray⟩) ∧ w'.cell? ⟨q, 2, none⟩ = some (.string ⟨V.toArray⟩)) := Lib.hid (fun w' h => ⟨(HN3.out.below h).kind, (HN3.out.below h).path, (HN3.out.below h).val⟩)
      have HCLN : Hid (∀ w', Below w3.heap.size w3 w' → Calls Tryz.prog 43 #[.string ⟨sum.toArray⟩] w' fun e w'' => e = .returned (.string ⟨sum.toArray⟩) ∧ Below w3.heap.size w3 w'') := Lib.hid (fun w' h => (dclone_any sum w' (by have := HSS.out; omega)).mono fun e w'' q => ⟨q.1, bchain h q.2⟩)
      have BD : Below w3.heap.size w3 w3.drew := (Below.refl _ _).drew
      obtain ⟨d0, d1, d2⟩ := HCN.out _ BD
      go_cut [14] from 53 to 62 (fun p wx => ∃ pb, p = .pointer (some ⟨pb, 0, none⟩) ∧ RowP wx pb kd P V noK sum ∧ w3.heap.size ≤ pb ∧ Below w3.heap.size w3 wx)
      case first =>
        go_wp2
        go_region_held3 (fun w' => w'.cell? ⟨q, 0, none⟩ = some (.int .i64 kd) ∧ w'.cell? ⟨q, 1, none⟩ = some (.string ⟨P.toArray⟩) ∧ w'.cell? ⟨q, 2, none⟩ = some (.string ⟨V.toArray⟩))
          ((first | (with_reducible exact ⟨d0, d1, d2⟩) | (refine HCN.out _ ?_; first | (with_reducible assumption) | (exact hb6.alloc hb6.size _))))
          ((go_at_call 43; refine (HCLN.out _ ?_).mono ?_; (with_reducible exact BD); rintro e w6 ⟨rfl, hb6⟩))
        all_goals
          go_wp2_with fail
          go_meet
          case rel => exact ⟨_, rfl, RowP.new rfl, hb6.size, hb6.alloc hb6.size _⟩
      case rest =>
        obtain ⟨pb, rfl, hrow, hpb, hb4⟩ := hcut
        obtain ⟨w4, rfl⟩ : ∃ y, y = wc := ⟨_, rfl⟩
        have HR4 := Lib.hid hrow
        have HPB : Hid (q < pb ∧ d < pb ∧ w.heap.size ≤ pb) := Lib.hid ⟨by have := HQL.out; omega, by have := HDL.out; have := HO3.out.size; omega, by have := HO3.out.size; omega⟩
        have HN4 := Lib.hid (HN3.out.below hb4)
        have HL4 := Lib.hid (HL3.out.below hb4)
        have HO4 := Lib.hid (HO3.out.trans (Only.of hb4))
        have HRR := Lib.hid HN4.out.rng
        have HI16 := Lib.hid (scells_info L HL16.out)
        have HIX := Lib.hid (fun i hi w => index_strs L HL16.out i hi w)
        clear hrow hpb hb4 d0 d1 d2 BD HCLN HCN hlc hls
        go_wp2_with (refine wpList_load_mid (by rfl) _ _ (by rfl) q 3 (by rfl) (scells L) _ HRR.out Tryz.underlying71 (by rfl) HI16.out ?_)
        obtain ⟨SC, hSC⟩ : ∃ SC, scells L = SC := ⟨_, rfl⟩
        rw [hSC] at HIX HI16 HRR ⊢
        clear hSC
        go_loopw [65] (fun iv wr => ∃ i : Nat, i ≤ 16 ∧ iv = .int .i64 i ∧ LdI S d g n kd P V E sum L HL16.out q pb w i wr) (fun i _ => 16 - (intOf i).toNat)
        case atStart => exact ⟨0, by omega, rfl, fun _ => .nil, noK, n + ownN V, HR4.out, fun j hj => by omega, fun j => PAt.nil _ _ _, fun _ _ => rfl, HL4.out, by simp [cntK_zero], HM3.out, HN4.out, HO4.out⟩
        case round =>
          obtain ⟨i, hi, rfl, hld⟩ := hrel
          by_cases hlt : i < 16
          · have h1 : (i : Int) < 16 := by omega
            have h0 : (0 : Int) ≤ (i : Int) := by omega
            have nix := HIX.out i hlt
            have hkl := HKLS.out (L[i]'(by rw [HL16.out]; exact hlt)) (List.getElem_mem _)
            have HXI : Hid (∃ x, x = L[i]'(by rw [HL16.out]; exact hlt)) := Lib.hid ⟨_, rfl⟩
            by_cases hxe : L[i]'(by rw [HL16.out]; exact hlt) = []
            · have HSK := Lib.hid (LdI.skip hlt hld hxe)
              rw [hxe] at nix
              clear hld hxe hkl
              go_wp2
              exact ⟨⟨i + 1, by omega, by go_num, HSK.out⟩, by simp [intOf]; omega⟩
            · obtain ⟨k, Kv, ni, hr, hk, hpa, hnil, hl, hni, hn, hnd, ho⟩ := hld
              have hdeep := fine_deep (place := place) HL16.out HFI.out ⟨i, hlt⟩ hxe
              rw [HE.out] at hdeep
              have hplc : (placeT kd E ⟨i, hlt⟩).length ≤ 100 := by
                unfold placeT
                split
                · simp; omega
                · omega
              have HPLC : Hid (∀ w', Below wr.heap.size wr w' → Calls Tryz.prog 68 #[.int .i64 kd, .string ⟨E.toArray⟩, .int .i64 i] w' fun r w'' => r = .returned (.string ⟨(placeT kd E ⟨i, hlt⟩).toArray⟩) ∧ Below wr.heap.size wr w'') := Lib.hid (fun w' h => (place_any kd E ⟨i, hlt⟩ w' (by omega) hk3).mono fun r w'' q => ⟨q.1, bchain h q.2⟩)
              have HKID : Hid (∀ w', Below wr.heap.size wr w' → Calls Tryz.prog 75 #[.pointer (some ⟨d, 0, none⟩), .int .i64 kd, .string ⟨(L[i]'(by rw [HL16.out]; exact hlt)).toArray⟩, .string ⟨(placeT kd E ⟨i, hlt⟩).toArray⟩] w' (PartPost S (L[i]'(by rw [HL16.out]; exact hlt)) (placeT kd E ⟨i, hlt⟩) (decide (kd = 2)) d g ni w')) := Lib.hid (fun w' h =>
                ldkid_any HIH.out kd _ _ ni w' (fun hp => by have := HFF.out; have := HPL.out; omega) (by omega) hkl hn (hl.below h) (HST.out w' (ho.trans (Only.of h))))
              have HRW := Lib.hid hr
              have HKK := Lib.hid hk
              have HPA := Lib.hid hpa
              have HNIL := Lib.hid hnil
              have HNI := Lib.hid hni
              have HND2 := Lib.hid hnd
              have HOW := Lib.hid ho
              have HXN := Lib.hid hxe
              have HCK : Hid (∀ w', Below wr.heap.size wr w' → w'.cell? ⟨q, 0, none⟩ = some (.int .i64 kd)) := Lib.hid (fun w' h => (HND2.out.below h).kind)
              have HPK : Hid (∀ w' wk, Below wr.heap.size wr w' → Only d w' wk → wk.cell? ⟨pb, 3 + i, none⟩ = some (Kv ⟨i, hlt⟩) ∧ wk.frozen? ⟨pb, 3 + i, none⟩ = false ∧ wk.cell? ⟨q, 0, none⟩ = some (.int .i64 kd) ∧ ∀ v, (wk.setCell ⟨pb, 3 + i, none⟩ v).cell? ⟨q, 0, none⟩ = some (.int .i64 kd)) := Lib.hid (fun w' wk h ho => by
                have h2 := HRW.out.below h
                have h3 : RowP wk pb kd P V Kv sum := (ho.block pb (lt_of_heap h2) (by have := HPB.out.2.1; omega)).trans h2
                have h4 := ho.cell (HCK.out _ h) (p := ⟨q, 0, none⟩) (fun e => HQD.out e.symm)
                exact ⟨h3.kid ⟨i, hlt⟩, h3.free _, h4, fun v => keep_cell h4 (Nat.ne_of_lt HPB.out.1)⟩)
              obtain ⟨x, hx⟩ : ∃ x, L[i]'(by rw [HL16.out]; exact hlt) = x := ⟨_, rfl⟩
              have HXL := Lib.hid hx
              have hx1 : (x == []) = false := by rw [beq_eq_false_iff_ne, ← hx]; exact hxe
              have hx2 : x.isEmpty = false := by rw [← hx]; cases h : L[i]'(by rw [HL16.out]; exact hlt) with
                | nil => exact absurd h hxe
                | cons a r => rfl
              rw [hx] at nix HKID
              obtain ⟨pl, hplq⟩ : ∃ pl, placeT kd E ⟨i, hlt⟩ = pl := ⟨_, rfl⟩
              have HPQ := Lib.hid hplq
              rw [hplq] at HPLC HKID
              have BD : Below wr.heap.size wr wr.drew := (Below.refl _ _).drew
              have cD := HCK.out _ BD
              clear hr hk hpa hnil hl hni hn hnd ho hxe hkl hdeep hplc hx hplq HXI
              go_upto_region 16 with fail
              go_region_held3 (fun w' => w'.cell? ⟨q, 0, none⟩ = some (.int .i64 kd))
                ((first | (with_reducible exact cD) | (with_reducible exact qk) | (with_reducible exact qs _) | (refine HCK.out _ ?_; with_reducible assumption)))
                (first | (go_at_call 68; refine (HPLC.out _ ?_).mono ?_; (with_reducible exact BD); rintro e wp ⟨rfl, hp1⟩) | (go_at_call 75; refine (HKID.out _ ?_).mono ?_; (with_reducible exact hp1); rintro e wk ⟨z, c, ni', rfl, hl', ho', hn', hcase⟩; obtain ⟨zz, rfl⟩ := ptr_form hcase; obtain ⟨pk, fk, qk, qs⟩ := HPK.out _ _ hp1 ho'))
              all_goals
                have HOK : Hid (Only d wr wk) := Lib.hid ((Only.of hp1).trans ho')
                have HLW : Hid (LdAt (wk.setCell ⟨pb, 3 + i, none⟩ (.pointer zz)) d g ni') := Lib.hid (hl'.setNew (by have := HPB.out.2.1; omega) _ _)
                have HNW : Hid (ni' ≤ 1024) := Lib.hid hn'
                rcases hcase with ⟨rfl, t, ht, hpt, hnn⟩ | ⟨hc0, hz, hbad⟩
                · have HMORE : Hid (LdI S d g n kd P V E sum L HL16.out q pb w (i + 1) (wk.setCell ⟨pb, 3 + i, none⟩ (.pointer zz))) := Lib.hid (LdI.more hlt HRW.out HKK.out HPA.out HNIL.out HNI.out HND2.out HOW.out HXN.out (t := t) (by rw [HXL.out, HPQ.out]; exact ht) (hpt.upMono hp1.size) hnn hn' hl' HOK.out HPB.out.2.1 HQD.out (Nat.ne_of_lt HPB.out.1) HPB.out.2.2)
                  clear hp1 ho' hl' hn' ht hpt hnn pk fk qk qs
                  go_wp2
                  exact ⟨⟨i + 1, by omega, by go_num, HMORE.out⟩, by simp [intOf]; omega⟩
                · have HBAD : Hid (∀ t, Loaded S sum place inE t → 1024 < n + t.items.length) := Lib.hid (LdI.bad (kd := kd) (P := P) (V := V) (L := L) (hL := HL16.out) (k := k) (ni := ni) hlt (by rw [HE.out]; exact HKK.out) HNI.out HX.out HXN.out (by rw [HE.out, HXL.out, HPQ.out]; exact hbad))
                  have HC0 := Lib.hid hc0
                  have HOO : Hid (Only d w (wk.setCell ⟨pb, 3 + i, none⟩ (.pointer zz))) := Lib.hid ((HOW.out.trans HOK.out).setNew HPB.out.2.2 _ _)
                  have c1 : (c == 0) = false := by rw [beq_eq_false_iff_ne]; exact hc0
                  have c2 : (c != 0) = true := by rw [bne_iff_ne]; exact hc0
                  clear hp1 ho' hl' hn' hc0 hz hbad pk fk qk qs
                  go_wp2
                  go_ret2
                  exact ⟨nilp, c, ni', rfl, HLW.out, HOO.out, HNW.out, Or.inr ⟨HC0.out, rfl, HBAD.out⟩⟩
          · obtain rfl : i = 16 := by omega
            have h1 : ¬ ((16 : Int) < 16) := by decide
            have HDONE : Hid (PartPost S sum place inE d g n w (.returned (.tuple #[.pointer (some ⟨pb, 0, none⟩), .int .i64 0])) wr) := Lib.hid (by
              rw [← HE.out] at hld
              exact hld.done HFI.out HLO.out HSU.out HEN.out HIE.out HVE.out HPB.out.2.2)
            clear hld
            go_wp2
            go_ret2
            exact HDONE.out
/-- The loader's part, whatever the store has, each text at its own sum. -/
theorem part_any {S : St} {d g m : Nat} (hS0 : OwnSums S) (f : Nat) : PartIs S d g m f := by
  induction f with
  | zero => intro sum place inE n w hf; omega
  | succ f ih => exact part_step hS0 ih
end Go.Proofs.YtbkanebkobjnnaaGreatDoor
namespace Go.Proofs.YtbkanebkobjnnaaGreatDoor
open Go.RowKit
open Sto (T)
open Tri (Tr Ok upd ix hb lay splitT Trim rank)
open Go.Proofs.YtbkanebkobjnnaaGreatDoor.Nd (N)

theorem Tab.mid {w w' : World} {B : Nat} (h : Tab w) (hb : Below B w w') (hB : 0 < B) : Tab w' := fun i hi => (hb.cell (p := ⟨0, i, none⟩) hB).trans (h i hi)
theorem from_mono (B : Nat) : ∀ s g, Fm.from B s g → Fm.from B true g := fun _ _ _ e => by cases e
/-- What sealing keeps: every tree is what it was; only sums are written. -/
def Keeps (B : Nat) (w w' : World) : Prop := (∀ s u z, PAt w (Fm.from B) s u z → PAt w' (Fm.from B) s u z) ∧ (∀ g k p x K s, RowP w g k p x K s → ∃ s', RowP w' g k p x K s') ∧ (∀ (g : Nat) (cs : Array Value) (ty : TypeId) (fl : Nat × Nat), ty ≠ 81 → w.heap[g]? = some (Obj.cells cs ty fl) → w'.heap[g]? = some (Obj.cells cs ty fl))
theorem Keeps.refl (B : Nat) (w : World) : Keeps B w w := ⟨fun _ _ _ h => h, fun _ _ _ _ _ s h => ⟨s, h⟩, fun _ _ _ _ _ h => h⟩
theorem Keeps.trans {B : Nat} {a b c : World} (h : Keeps B a b) (k : Keeps B b c) : Keeps B a c := ⟨fun s u z q => k.1 s u z (h.1 s u z q), fun g kk p x K s q => by
  obtain ⟨s', q'⟩ := h.2.1 g kk p x K s q
  exact k.2.1 g kk p x K s' q', fun g cs ty fl ht q => k.2.2 g cs ty fl ht (h.2.2 g cs ty fl ht q)⟩
theorem Keeps.below {B : Nat} {w w' : World} (h : Below w.heap.size w w') : Keeps B w w' := ⟨fun _ _ _ q => q.below h, fun _ _ _ _ _ s q => ⟨s, q.below h⟩, fun g _ _ _ _ q => (h.block g (lt_of_heap q)).trans q⟩
def SealTo (t : Tr) : Prop := ∀ (v : Value) (w : World) (B : Nat), 0 < B → B ≤ w.heap.size → Tab w → Ok t → PAt w (Fm.from B) false t v →
  Calls Tryz.prog 31 #[v] w fun e w' => e = .returned (.tuple #[]) ∧ PAt w' (Fm.from B) true t v ∧ Keeps B w w' ∧ Below B w w'
set_option maxRecDepth 100000 in
theorem seal_nil (w : World) (B : Nat) :
    Calls Tryz.prog 31 #[.pointer none] w fun e w' => e = .returned (.tuple #[]) ∧ PAt w' (Fm.from B) true .nil (.pointer none) ∧ Keeps B w w' ∧ Below B w w' := by
  go_enter Tryz.func31, Tryz.ntmps31
  go_wp2
  exact bodyPost_ret (results_none rfl _ _ _) rfl ⟨rfl, rfl, Keeps.refl _ _, Below.refl _ _⟩
set_option maxRecDepth 100000 in
theorem seal_done {t : Tr} {g : Nat} {K : Ks} (w : World) (B : Nat) (hn : ¬ t.isNil) (ho : Ok t) (hr : RowP w g t.kind t.pth t.vl K (t.sum Nd.sumS)) (hk : ∀ i, PAt w (Fm.from B) true (t.kid i) (K i)) :
    Calls Tryz.prog 31 #[ptr g] w fun e w' => e = .returned (.tuple #[]) ∧ PAt w' (Fm.from B) true t (ptr g) ∧ Keeps B w w' ∧ Below B w w' := by
  have n19 := hr.sum
  have hne : (t.sum Nd.sumS == []) = false := by rw [beq_eq_false_iff_ne]; exact ho.sum_ne hn
  have HP : Hid (PAt w (Fm.from B) true t (ptr g)) := Lib.hid ((PAt.iff hn).2 ⟨g, true, K, rfl, fun _ => rfl, (fun h => by cases h), hr, hk⟩)
  obtain ⟨S, hS⟩ : ∃ S, t.sum Nd.sumS = S := ⟨_, rfl⟩
  rw [hS] at n19 hne
  unfold ptr at HP ⊢
  clear hr hk hS
  go_enter Tryz.func31, Tryz.ntmps31
  go_wp2
  exact bodyPost_ret (results_none rfl _ _ _) rfl ⟨rfl, HP.out, Keeps.refl _ _, Below.refl _ _⟩
set_option maxRecDepth 100000 in
set_option maxHeartbeats 2000000 in
theorem seal_open {t : Tr} (IH : ∀ i, SealTo (t.kid i)) {g : Nat} {K : Ks} (w : World) (B : Nat) (hB : 0 < B) (hBw : B ≤ w.heap.size) (hT : Tab w) (hn : ¬ t.isNil) (ho : Ok t) (hr : RowP w g t.kind t.pth t.vl K []) (hg : B ≤ g) (hk : ∀ i, PAt w (Fm.from B) false (t.kid i) (K i)) :
    Calls Tryz.prog 31 #[ptr g] w fun e w' => e = .returned (.tuple #[]) ∧ PAt w' (Fm.from B) true t (ptr g) ∧ Keeps B w w' ∧ Below B w w' := by
  have n19 := hr.sum
  have HR := Lib.hid hr
  have HRG := Lib.hid hr.range
  have HI := Lib.hid (kcl_info K)
  have HKE := Lib.hid (fun (i : Fin 16) w => index_kids K i w)
  have HK := Lib.hid hk
  have HIH := Lib.hid (fun (i : Fin 16) (w' : World) (hb : Below B w w') (hp : PAt w' (Fm.from B) false (t.kid i) (K i)) => IH i (K i) w' B hB (Nat.le_trans hBw hb.size) (hT.mid hb hB) (ho.kid i) hp)
  have HTB := Lib.hid (fun (w' : World) (hb : Below B w w') => hT.mid hb hB)
  have HN := Lib.hid (fun (w' : World) (sx : T) (hr : RowP w' g t.kind t.pth t.vl K sx) (hk : ∀ i, PAt w' (Fm.from B) true (t.kid i) (K i)) => pnode_any w' hr hk hn)
  have HSL : Hid (∀ (w' : World) (sx : T), RowP w' g t.kind t.pth t.vl K sx → (∀ i, PAt w' (Fm.from B) true (t.kid i) (K i)) → PAt (w'.setCell ⟨g, 19, none⟩ (.string ⟨(t.sum Nd.sumS).toArray⟩)) (Fm.from B) true t (ptr g) ∧ Keeps B w' (w'.setCell ⟨g, 19, none⟩ (.string ⟨(t.sum Nd.sumS).toArray⟩))) := Lib.hid (fun w' sx hr hk => by
    refine ⟨PAt.seal (from_mono B) (fun e => by cases e) hn hr hk, fun s u z h => PAt.seals (from_mono B) hr hk h, fun g' kk p x K' s h => ?_, fun g' cs ty fl ht h => ?_⟩
    by_cases e : g' = g
    · subst e; exact ⟨_, h.seal _⟩
    · exact ⟨s, (Below.heap_setCell _ ⟨g, 19, none⟩ _ g' e).trans h⟩
    · have e : g' ≠ g := fun e => by
        subst e
        unfold RowP at hr
        rw [hr] at h
        injection h with h; injection h with _ h _
        exact ht h.symm
      exact (Below.heap_setCell _ ⟨g, 19, none⟩ _ g' e).trans h)
  have HDG : Hid (∀ w', Tab w' → Calls Tryz.prog 55 #[ndval (t.node Nd.sumS)] w' fun e w'' => e = .returned (.string ⟨(t.sum Nd.sumS).toArray⟩) ∧ Below w'.heap.size w' w'') := Lib.hid (fun w' h => by
    rw [Tri.sum_node _ hn]
    exact ndigest_any _ w' (Tri.node_kids _ _) h)
  obtain ⟨S, hS⟩ : ∃ S, t.sum Nd.sumS = S := ⟨_, rfl⟩
  obtain ⟨ND, hND⟩ : ∃ ND, ndval (t.node Nd.sumS) = ND := ⟨_, rfl⟩
  rw [hS] at HSL HDG
  rw [hND] at HDG HN
  unfold ptr at HSL HN ⊢
  clear hr hk hT IH hS hND hn ho
  go_enter Tryz.func31, Tryz.ntmps31
  go_wp2_with (refine wpList_load_mid (by rfl) _ _ (by rfl) g 3 (by rfl) (kcl K) _ HRG.out Tryz.underlying79 (by rfl) HI.out ?_)
  obtain ⟨KC, hKC⟩ : ∃ KC, kcl K = KC := ⟨_, rfl⟩
  rw [hKC] at HKE HI HRG ⊢
  clear hKC
  go_loopw [17] (fun i wr => ∃ k : Nat, k ≤ 16 ∧ i = .int .i64 k ∧ (∀ j : Fin 16, j.val < k → PAt wr (Fm.from B) true (t.kid j) (K j)) ∧ Keeps B w wr ∧ Below B w wr) (fun i _ => 16 - (intOf i).toNat)
  case atStart => exact ⟨0, Nat.zero_le _, rfl, fun j hj => absurd hj (Nat.not_lt_zero _), Keeps.refl _ _, Below.refl _ _⟩
  case round =>
    obtain ⟨k, hk, rfl, hks, hkp, hbw⟩ := hrel
    have HKS := Lib.hid hks
    have HKP := Lib.hid hkp
    have HBW := Lib.hid hbw
    by_cases hlt : k < 16
    · obtain ⟨i, hi⟩ : ∃ i : Fin 16, i.val = k := ⟨⟨k, hlt⟩, rfl⟩
      have h1 : (k : Int) < 16 := by omega
      have h0 : (0 : Int) ≤ (k : Int) := by omega
      have n0 := HKE.out i
      rw [hi] at n0
      have HC := Lib.hid (HIH.out i wr hbw (hkp.1 _ _ _ (HK.out i)))
      have HII := Lib.hid hi
      obtain ⟨vk, hvk⟩ : ∃ vk, K i = vk := ⟨_, rfl⟩
      rw [hvk] at n0 HC
      have HVK := Lib.hid hvk
      clear hks hkp hbw hi hvk
      go_wp2_with fail
      refine HC.out.mono ?_
      rintro e w2 ⟨rfl, hp2, hk2, hb2⟩
      have HP2 := Lib.hid hp2
      have HK2 := Lib.hid hk2
      have HB2 := Lib.hid hb2
      clear hp2 hk2 hb2
      go_wp2
      refine ⟨⟨k + 1, by omega, by go_num, fun j hj => ?_, HKP.out.trans HK2.out, HBW.out.trans HB2.out⟩, by simp [intOf]; omega⟩
      by_cases e : j.val < k
      · exact HK2.out.1 _ _ _ (HKS.out j e)
      · obtain rfl : j = i := Fin.ext (by have := HII.out; omega)
        rw [HVK.out]
        exact HP2.out
    · have h1 : ¬ ((k : Int) < 16) := by omega
      obtain rfl : k = 16 := by omega
      obtain ⟨sx, hrx⟩ := hkp.2.1 _ _ _ _ _ _ HR.out
      have hall : ∀ i, PAt wr (Fm.from B) true (t.kid i) (K i) := fun i => hks i i.isLt
      have HC := Lib.hid (HN.out wr sx hrx hall)
      have HRX := Lib.hid hrx
      have HAL := Lib.hid hall
      clear hks hkp hbw hrx hall
      go_wp2_with fail
      refine HC.out.mono ?_
      rintro e w2 ⟨rfl, hb2⟩
      have HB2 := Lib.hid hb2
      have HBB : Hid (Below B w w2) := Lib.hid (HBW.out.trans (hb2.mono (Nat.le_trans hBw HBW.out.size)))
      clear hb2
      go_wp2_with fail
      refine (HDG.out _ (HTB.out _ HBB.out)).mono ?_
      rintro e w3 ⟨rfl, hb3⟩
      have hr3 := (HRX.out.below HB2.out).below hb3
      have hk3 : ∀ i, PAt w3 (Fm.from B) true (t.kid i) (K i) := fun i => ((HAL.out i).below HB2.out).below hb3
      obtain ⟨p3, q3⟩ := HSL.out w3 sx hr3 hk3
      have HP3 := Lib.hid p3
      have HQ3 : Hid (Keeps B w (w3.setCell ⟨g, 19, none⟩ (.string ⟨S.toArray⟩))) := Lib.hid (HKP.out.trans ((Keeps.below HB2.out).trans ((Keeps.below hb3).trans q3)))
      have HB3 : Hid (Below B w (w3.setCell ⟨g, 19, none⟩ (.string ⟨S.toArray⟩))) := Lib.hid ((HBB.out.trans (hb3.mono (Nat.le_trans hBw HBB.out.size))).setCell (p := ⟨g, 19, none⟩) hg _)
      have m19 := hr3.sum
      have f19 := hr3.free 19
      clear hr3 hk3 p3 q3 hb3
      go_wp2
      go_end0
      exact ⟨rfl, HP3.out, HQ3.out, HB3.out⟩
/-- seal, of any tree. -/
theorem seal_to (t : Tr) : SealTo t := by
  induction t using Tri.kid_ind with
  | h0 =>
    intro v w B _ _ _ _ h
    have e : v = .pointer none := h
    subst e
    exact seal_nil w B
  | h t hn IH =>
    intro v w B hB hBw hT ho h
    obtain ⟨g, s', K, rfl, -, h2, hr, hk⟩ := h.row hn
    cases s' with
    | true => exact seal_done w B hn ho hr hk
    | false => exact seal_open IH w B hB hBw hT hn ho hr (h2 rfl) hk
set_option maxRecDepth 100000 in
set_option maxHeartbeats 1000000 in
theorem ptext_any {t : Tr} {g : Nat} {s : T} {K : Ks} {F : Fm} (w : World) (hr : RowP w g t.kind t.pth t.vl K s) (hk : ∀ i, PAt w F true (t.kid i) (K i)) (hn : ¬ t.isNil) (ho : Ok t) :
    Calls Tryz.prog 63 #[ptr g] w fun e w' => e = .returned (.string ⟨(Nd.written (t.node Nd.sumS)).toArray⟩) ∧ Below w.heap.size w w' := by
  have HN := Lib.hid (pnode_any w hr hk hn)
  have HE := Lib.hid (fun w => nencode_any (t.node Nd.sumS) w (Tri.node_kids _ _))
  unfold Nd.encS Nd.encC at HE
  rw [ho.fine hn, if_pos rfl, if_pos rfl] at HE
  obtain ⟨S, hS⟩ : ∃ S, Nd.written (t.node Nd.sumS) = S := ⟨_, rfl⟩
  obtain ⟨ND, hND⟩ : ∃ ND, ndval (t.node Nd.sumS) = ND := ⟨_, rfl⟩
  rw [hS] at HE ⊢
  rw [hND] at HE HN
  unfold ptr at HN ⊢
  clear hr hk hn ho hS hND
  go_enter Tryz.func63, Tryz.ntmps63
  go_wp2_with fail
  refine HN.out.mono ?_
  rintro e w1 ⟨rfl, hb1⟩
  have HB := Lib.hid hb1
  clear hb1
  go_wp2_with fail
  refine (HE.out _).mono ?_
  rintro e w2 ⟨rfl, hb2⟩
  go_wp2
  go_ret
  exact ⟨rfl, bchain HB.out hb2⟩
end Go.Proofs.YtbkanebkobjnnaaGreatDoor
