/- TriItems, TriRefDel, TriCount, TriTrie, TriWithT, TriDelT, TriRefOf, TriOfT, TriCover, TriWorks, ArgTActs, TriMade, TriMade2 -/
import Derived.Test.YtaficmboooaknaaGreatDoorPk14
import Derived.Test.YtaficmboooaknaaGreatDoorPk07
import Derived.Test.YtaficmboooaknaaGreatDoorPk02
import Derived.Deep.RegionHeld3
import Derived.Test.YtaficmboooaknaaGreatDoorPk03
import Derived.Deep.Slices
import Derived.DataReads
import Derived.OpenShut
import Derived.SizedLaws
import Derived.Lib.LaidU8
import Derived.BigQuiet
namespace Go.Proofs.YtaficmboooaknaaGreatDoor
open Go.RowKit
open Sto (T St)
open Tri (Tr Ok upd ix hb lay splitT Trim rank)
open Go.Proofs.YtaficmboooaknaaGreatDoor.Nd (N)

def OwnI (w : World) (B : Nat) (z : Value) (S : St) : Prop := w.ownsRow B 60 2 z S.length (rowsL itcl S)
theorem OwnI.nil (w : World) (B : Nat) : OwnI w B (.slice none 0 0) [] := ⟨rfl, Or.inl ⟨rfl, rfl⟩⟩
theorem OwnI.below {w w' : World} {B : Nat} {s : Value} {L : St} (h : OwnI w B s L) (hb : Below w.heap.size w w') : OwnI w' B s L :=
  row_out (G := fun _ => False) h (Out.of hb) (fun _ _ _ _ hf => hf.elim)
theorem OwnI.lt {w : World} {B : Nat} {s : Value} {L : St} (h : OwnI w B s L) (k : Nat) (hk : s.ownBlock = some k) : B ≤ k ∧ k < w.heap.size := World.ownsRow.lt h k hk
theorem OwnI.at_ {w : World} {B : Nat} {s : Value} {L : St} (h : OwnI w B s L) : ItAt w s L := RowsAt.own itcl_length h
theorem OwnI.low {w : World} {B B' : Nat} {s : Value} {L : St} (h : OwnI w B s L) (hB : B' ≤ B) : OwnI w B' s L := by
  refine ⟨h.1, ?_⟩
  rcases h.2 with hn | ⟨k, cap, cur, hv, hb, hk, hr⟩
  · exact Or.inl hn
  · exact Or.inr ⟨k, cap, cur, hv, Nat.le_trans hB hb, hk, hr⟩
theorem app_item {w : World} {B : Nat} {z : Value} {S : St} (x y : T) (h : OwnI w B z S) (hl : S.length ≤ 100000) (hB : B ≤ w.heap.size) :
    ∃ g c w', (Builtin.append_ #[22, 22] 22 #[z, .slice (some ⟨w.heap.size, 0, none⟩) 1 1]).run Tryz.prog (w.alloc (.cells #[.string ⟨x.toArray⟩, .string ⟨y.toArray⟩] 60)) = .ok (.slice (some ⟨g, 0, none⟩) (S.length + 1) c) w' ∧
      OwnI w' B (.slice (some ⟨g, 0, none⟩) (S.length + 1) c) (S ++ [(x, y)]) ∧ Below B w w' := by
  have hv : ItAt (w.alloc (.cells #[.string ⟨x.toArray⟩, .string ⟨y.toArray⟩] 60)) (.slice (some ⟨w.heap.size, 0, none⟩) 1 1) [(x, y)] :=
    OwnI.at_ (B := w.heap.size) ⟨rfl, Or.inr ⟨w.heap.size, 1, _, rfl, Nat.le_refl _, heap_alloc_new w _, by simp, by simp [maxLen], rfl, rfl⟩⟩
  have hs : (w.alloc (.cells #[.string ⟨x.toArray⟩, .string ⟨y.toArray⟩] 60)).ownsRow B 60 2 z S.length (rowsL itcl S) := World.ownsRow.alloc h _
  obtain ⟨v', w', h1, h2, h3, _⟩ := append_it hv hs (by simp; omega) (by simp; omega)
  have ho : OwnI w' B v' (S ++ [(x, y)]) := by
    unfold OwnI
    rw [List.length_append, rowsL_append]
    exact h2
  obtain ⟨g, c, e, _, _⟩ := World.ownsRow.form h2 (by simp)
  subst e
  exact ⟨g, c, w', h1, ho, ((Below.refl B w).alloc hB _).grown h3 (by simp; omega) (fun k hk => (OwnI.lt h k hk).1)⟩
/-- The key of a path. -/
def keyP (p : T) : T := if p.length % 2 = 0 then Nib.joinL p else []
theorem key_any (p : T) (w : World) (hl : p.length ≤ 1000) (hf : Nib.fitL p = true) :
    ∃ c : Int, Calls Tryz.prog 84 #[.string ⟨p.toArray⟩] w fun e w' => e = .returned (.tuple #[.string ⟨(keyP p).toArray⟩, .int .i64 c]) ∧ Below w.heap.size w w' := by
  unfold keyP
  by_cases h : p.length % 2 = 0
  · rw [if_pos h]; exact ⟨0, key_good p w (by omega) hf h⟩
  · rw [if_neg h]; exact ⟨4, key_odd p w (by omega) hf (by omega)⟩
def itemsT (L : List (T × Tr)) : St := L.flatMap fun x => if x.2.vl = [] then [] else [(keyP (x.1 ++ x.2.pth), x.2.vl)]
theorem itemsT_len (L : List (T × Tr)) : (itemsT L).length ≤ L.length := by
  unfold itemsT
  induction L with
  | nil => exact Nat.le_refl _
  | cons a L ih =>
    rw [List.flatMap_cons, List.length_append, List.length_cons]
    split
    · simp only [List.length_nil]; omega
    · simp only [List.length_singleton]; omega
theorem itemsT_add (L : List (T × Tr)) (p : T) (t : Tr) : itemsT (L ++ [(p, t)]) = if t.vl = [] then itemsT L else itemsT L ++ [(keyP (p ++ t.pth), t.vl)] := by
  unfold itemsT
  rw [List.flatMap_append, List.flatMap_singleton]
  split <;> simp
def ItemsI (B cl : Nat) (w' : World) (L : List (T × Tr)) : Prop :=
  ∃ z, w'.heap[cl]? = some (.cells #[z] 22 (0, 0)) ∧ OwnI w' B z (itemsT L)
theorem val_len {t : Tr} (h : Ok t) : t.vl.length ≤ 32 := by
  have := h.small
  cases t with
  | nil => simp [Tri.Tr.vl]
  | leaf p v => exact this.2
  | ext p t => simp [Tri.Tr.vl]
  | br v k => exact this.1
set_option maxRecDepth 100000 in
set_option maxHeartbeats 4000000 in
theorem items_step {w0 : World} {F : Fm} (B cl : Nat) (hB : w0.heap.size ≤ cl ∧ cl < B)
    (w' : World) (L : List (T × Tr)) (p : T) (t : Tr) (v : Value) (hlen : L.length < 100000) (hb : Below w0.heap.size w0 w') (hBw : B ≤ w'.heap.size) (hI : ItemsI B cl w' L) (h : PAt w0 F true t v) (hn : ¬ t.isNil) (ho : Ok t) (hf : Nib.fitL p = true) (hp16 : p.length + t.pth.length ≤ 16) :
    Calls Tryz.prog 83 #[v, .string ⟨p.toArray⟩, .pointer (some ⟨cl, 0, none⟩)] w' fun e w'' => e = .returned (.bool true) ∧ ItemsI B cl w'' (L ++ [(p, t)]) ∧ Below w0.heap.size w0 w'' := by
  obtain ⟨z, hcl, hown⟩ := hI
  obtain ⟨g, s', K, rfl, hs, -, hr, hk⟩ := h.row hn
  have HR : Hid (∀ w1, Below w0.heap.size w0 w1 → w1.cell? ⟨g, 1, none⟩ = some (.string ⟨t.pth.toArray⟩) ∧ w1.cell? ⟨g, 2, none⟩ = some (.string ⟨t.vl.toArray⟩)) := Lib.hid (fun w1 hb1 => ⟨(hr.below hb1).path, (hr.below hb1).val⟩)
  have hpf : Nib.fitL (p ++ t.pth) = true := Tri.fit_append.2 ⟨hf, by
    have := ho.fits
    cases t with
    | nil => rfl
    | leaf q v => exact this
    | ext q u => exact this.1
    | br v k => rfl⟩
  have HKY := Lib.hid (fun w => key_any (p ++ t.pth) w (by simp; omega) hpf)
  have HCL := Lib.hid (fun w => dclone_any t.vl w (by have := val_len ho; omega))
  have HIA := Lib.hid (itemsT_add L p t)
  have HTL : Hid ((itemsT L).length ≤ 100000) := Lib.hid (Nat.le_trans (itemsT_len _) (Nat.le_of_lt hlen))
  obtain ⟨TL, hTL⟩ : ∃ TL, itemsT L = TL := ⟨_, rfl⟩
  obtain ⟨pp, hpp⟩ : ∃ pp, t.pth = pp := ⟨_, rfl⟩
  obtain ⟨x, hx⟩ : ∃ x, t.vl = x := ⟨_, rfl⟩
  rw [hTL] at hown HIA HTL
  rw [hpp] at HR HKY HIA hp16
  rw [hx] at HR HCL HIA
  have HB := Lib.hid hb
  have HOWN := Lib.hid hown
  have HCLL := Lib.hid hcl
  have cL : p.length ≤ 1000 := by omega
  have cL2 : pp.length ≤ 1000 := by omega
  have hcm := cat_mk p pp
  obtain ⟨m1, m2⟩ := HR.out w' hb
  unfold ptr
  clear h hr hk hpp hx hTL hb hown hcl hn ho hf hlen hp16 hpf
  by_cases hxe : x = []
  · subst hxe
    rw [if_pos rfl] at HIA
    have hz : (([] : List UInt8) == []) = true := rfl
    go_enter Tryz.func83, Tryz.ntmps83
    go_wp2
    go_ret
    refine ⟨rfl, ⟨z, HCLL.out, ?_⟩, HB.out⟩
    rw [HIA.out]
    exact HOWN.out
  · rw [if_neg hxe] at HIA
    have hxe2 : (x == []) = false := by rw [beq_eq_false_iff_ne]; exact hxe
    obtain ⟨c, hky⟩ := HKY.out w'
    have HKK := Lib.hid hky
    obtain ⟨X, hX⟩ : ∃ X, keyP (p ++ pp) = X := ⟨_, rfl⟩
    rw [hX] at HKK HIA
    clear hky HKY hX hxe
    go_enter Tryz.func83, Tryz.ntmps83
    go_wp2_with fail
    refine HKK.out.mono ?_
    rintro e w1 ⟨rfl, hb1⟩
    have HB1 : Hid (Below w'.heap.size w' w1) := Lib.hid hb1
    have HBB1 : Hid (Below w0.heap.size w0 w1) := Lib.hid (HB.out.trans (hb1.mono HB.out.size))
    clear hb1
    have HCC : Hid (∀ w2, Below w1.heap.size w1 w2 → w2.cell? ⟨cl, 0, none⟩ = some z ∧ w2.heap[cl]? = some (.cells #[z] 22 (0, 0))) := Lib.hid (fun w2 hb2 => by
      have h3 := (hb2.block cl (Nat.lt_of_lt_of_le (lt_of_heap HCLL.out) HB1.out.size)).trans ((HB1.out.block cl (lt_of_heap HCLL.out)).trans HCLL.out)
      exact ⟨cell_of_one h3, h3⟩)
    have HTX1 : Hid (∀ w2, Below w1.heap.size w1 w2 → Calls Tryz.prog 46 #[.string ⟨x.toArray⟩] w2 fun e w3 => e = .returned (.string ⟨x.toArray⟩) ∧ Below w1.heap.size w1 w3) := Lib.hid (fun w2 hb2 =>
      (HCL.out w2).mono fun e w3 ⟨e1, h3⟩ => ⟨e1, bchain hb2 h3⟩)
    have HAPP : Hid (∀ w6, Below w1.heap.size w1 w6 → ∃ g7 c7 w7, (Builtin.append_ #[22, 22] 22 #[z, .slice (some ⟨w6.heap.size, 0, none⟩) 1 1]).run Tryz.prog (w6.alloc (.cells #[.string ⟨X.toArray⟩, .string ⟨x.toArray⟩] 60)) = .ok (.slice (some ⟨g7, 0, none⟩) (TL.length + 1) c7) w7 ∧ w6.cell? ⟨cl, 0, none⟩ = some z ∧ (w6.alloc (.cells #[.string ⟨X.toArray⟩, .string ⟨x.toArray⟩] 60)).cell? ⟨cl, 0, none⟩ = some z ∧
        w7.cell? ⟨cl, 0, none⟩ = some z ∧ w7.frozen? ⟨cl, 0, none⟩ = false ∧ ItemsI B cl (w7.setCell ⟨cl, 0, none⟩ (.slice (some ⟨g7, 0, none⟩) (TL.length + 1) c7)) (L ++ [(p, t)]) ∧ Below w0.heap.size w0 (w7.setCell ⟨cl, 0, none⟩ (.slice (some ⟨g7, 0, none⟩) (TL.length + 1) c7))) := Lib.hid (fun w6 hb6 => by
      have hb16 := bchain HB1.out hb6
      have ho6 := HOWN.out.below hb16
      obtain ⟨g7, c7, w7, ha, ho7, hb7⟩ := app_item X x ho6 HTL.out (Nat.le_trans hBw hb16.size)
      obtain ⟨q1, q2⟩ := HCC.out w6 hb6
      have q7 : w7.heap[cl]? = some (.cells #[z] 22 (0, 0)) := (hb7.block cl hB.2).trans q2
      refine ⟨g7, c7, w7, ha, q1, cell_of_one (heap_old_at _ q2), cell_of_one q7, free_of_one q7, ⟨_, one_setCell q7, ?_⟩, ?_⟩
      · rw [HIA.out]
        have hgcl : g7 ≠ cl := fun e => by have := (OwnI.lt ho7 g7 rfl).1; omega
        exact ownsRow_setCell_other ho7 (a := ⟨cl, 0, none⟩) (fun e => hgcl (by simpa [Value.ownBlock] using e)) _
      · have h8 : Below w0.heap.size w0 w7 := (bchain HBB1.out hb6).trans (hb7.mono (Nat.le_of_lt (by omega)))
        exact h8.setCell (p := ⟨cl, 0, none⟩) hB.1 _)
    go_upto_region 3 with fail
    have BD : Below w1.heap.size w1 w1.drew := (Below.refl _ _).drew
    have cD := (HCC.out _ BD).1
    have vD := (HR.out _ (bchain HBB1.out BD)).2
    go_region_law (first | (refine step_call rfl 46 (.tmp 28) _ rfl (fun _ _ => rfl) _ (HTX1.out _ BD) ?_; rintro e w6 ⟨rfl, hb6⟩; refine ⟨_, rfl, ?_⟩; obtain ⟨g7, c7, w7, happ, k6, k6a, k7, f7, hT7, hB7⟩ := HAPP.out _ hb6) | (refine step_append_run rfl (.tmp 23) (.tmp 31) _ rfl _ _ _ ?_ ?_ happ ?_; (first | rfl | (focus (simp [Act.eval]; done)) | fail); (first | rfl | (focus (simp [Act.eval]; done)) | fail)))
    all_goals
      go_wp2
      go_ret
      exact ⟨rfl, hT7, hB7⟩
def rawT (L : List (T × Tr)) : St := L.flatMap fun x => if x.2.vl = [] then [] else [(x.1 ++ x.2.pth, x.2.vl)]
theorem raw_items {t : Tr} (h : t.canon) (p : T) : rawT (t.visits (fun _ => true) p) = Tri.behind p t.items := by
  induction t generalizing p with
  | nil => rfl
  | leaf q v =>
    have hv : v ≠ [] := h
    simp [rawT, Tri.Tr.visits, Tri.Tr.vl, Tri.Tr.pth, Tri.Tr.items, Tri.behind, hv]
  | ext q t ih =>
    have e : rawT ((Tr.ext q t).visits (fun _ => true) p) = rawT (t.visits (fun _ => true) (p ++ q)) := by
      simp [rawT, Tri.Tr.visits, Tri.Tr.vl]
    rw [e, ih h.2.2, Tri.Tr.items, Tri.behind_append]
  | br v k ih =>
    have hkid : ∀ l : List (Fin 16), rawT (l.flatMap fun i => (k i).visits (fun _ => true) (p ++ [hb i])) = Tri.behind p (l.flatMap fun i => Tri.behind [hb i] (k i).items) := fun l => by
      induction l with
      | nil => rfl
      | cons i l ihl =>
        have e1 : rawT ((i :: l).flatMap fun i => (k i).visits (fun _ => true) (p ++ [hb i])) = rawT ((k i).visits (fun _ => true) (p ++ [hb i])) ++ rawT (l.flatMap fun i => (k i).visits (fun _ => true) (p ++ [hb i])) := by
          simp [rawT, List.flatMap_cons, List.flatMap_append]
        rw [e1, ihl, ih i (h.1 i), List.flatMap_cons, Tri.behind_append]
        simp [Tri.behind]
    have e : rawT ((Tr.br v k).visits (fun _ => true) p) = Tri.behind p (Tri.own v) ++ rawT ((List.finRange 16).flatMap fun i => (k i).visits (fun _ => true) (p ++ [hb i])) := by
      unfold rawT
      rw [Tri.Tr.visits, List.flatMap_cons]
      congr 1
      by_cases hv : v = [] <;> simp [Tri.Tr.vl, Tri.Tr.pth, Tri.own, Tri.behind, hv]
    rw [e, hkid, Tri.Tr.items]
    simp [Tri.behind]
theorem items_raw (L : List (T × Tr)) : itemsT L = (rawT L).map fun x => (keyP x.1, x.2) := by
  unfold itemsT rawT
  induction L with
  | nil => rfl
  | cons a L ih =>
    rw [List.flatMap_cons, List.flatMap_cons, List.map_append, ih]
    congr 1
    split <;> rfl
theorem keyP_of (k : T) : keyP (Nib.ofL k) = k := by
  unfold keyP
  rw [if_pos (by rw [Nib.ofL_length]; omega), Nib.join_of]
theorem items_all {S : St} {t : Tr} (h : Tri.TreeOf S t) : itemsT (t.visits (fun _ => true) []) = S := by
  rw [items_raw, raw_items h.1, h.2.2]
  unfold Tri.paths Tri.behind
  rw [List.map_map, List.map_map]
  conv => rhs; rw [← List.map_id S]
  refine List.map_congr_left fun x _ => ?_
  simp [keyP_of]
set_option maxRecDepth 100000 in
theorem items_visits (w : World) :
    Visits w (Fm.from 0) 83 #[.pointer (some ⟨w.heap.size, 0, none⟩)] (fun _ => true) (fun w' L => ItemsI (w.heap.size + 1) w.heap.size w' L ∧ w.heap.size + 1 ≤ w'.heap.size) where
  call := fun _ _ => rfl
  keep := fun w' w'' L ⟨⟨z, h1, h3⟩, h4⟩ hb => ⟨⟨z, (hb.block _ (lt_of_heap h1)).trans h1, h3.below hb⟩, Nat.le_trans h4 hb.size⟩
  step := fun w' L p t v hlen hb hI h hn ho hf hl => by
    have := items_step (F := Fm.from 0) (w.heap.size + 1) w.heap.size ⟨by omega, by omega⟩ w' L p t v hlen hb hI.2 hI.1 h hn ho hf (pth_len ho hn hl)
    refine this.mono fun e w'' ⟨h1, h2, h3⟩ => ⟨h1, ⟨h2, ?_⟩, h3⟩
    obtain ⟨z, q1, _⟩ := h2
    have := lt_of_heap q1
    omega
def ItemsPost (w : World) (S : St) (e : Ending) (w' : World) : Prop := ∃ z, e = .returned z ∧ OwnI w' w.heap.size z S ∧ Below w.heap.size w w'
set_option maxRecDepth 100000 in
set_option maxHeartbeats 2000000 in
theorem items_any {g : Nat} {t : Tr} {S : St} {top n : Value} (w : World) (hg : w.heap[g]? = some (.cells #[top, n] 84 (0, 0))) (hs : Sealed w t top) (hT : Tri.TreeOf S t) :
    Calls Tryz.prog 49 #[ptr g] w (ItemsPost w S) := by
  unfold ItemsPost
  have hmf : ∀ (fn : Fn) (first cap : Array Value) (w : World), (Instr.makeFunc fn first cap).run Tryz.prog w = .ok (.func fn first cap) w := fun _ _ _ _ => rfl
  have hb1 : Below w.heap.size w (w.alloc (.cells #[.slice none 0 0] 22)) := (Below.refl _ w).alloc (Nat.le_refl _) _
  have c0 : (w.alloc (.cells #[.slice none 0 0] 22)).cell? ⟨g, 0, none⟩ = some top := by
    rw [cell_of_row _ g 0 _ _ _ ((hb1.block g (lt_of_heap hg)).trans hg)]; rfl
  have hI0 : ItemsI (w.heap.size + 1) w.heap.size (w.alloc (.cells #[.slice none 0 0] 22)) [] := ⟨_, heap_alloc_new w _, OwnI.nil _ _⟩
  have HWK := Lib.hid (walk_to (items_visits w) t _ [] [] top (by
    have := visits_le (fun _ => true) t []
    have := hs.few []
    simp; omega) hb1 ⟨hI0, by simp⟩ hs.at_ hs.ok rfl (fun x hx => by
      have := hs.within x hx
      simpa using this))
  have HWT := Lib.hid (items_all hT)
  rw [List.nil_append] at HWK
  unfold ptr
  clear hg hs hb1 hI0 hT
  go_enter Tryz.func49, Tryz.ntmps49
  go_wp2_with fail
  refine HWK.out.mono ?_
  rintro e w2 ⟨rfl, ⟨⟨z, h1, h3⟩, h4⟩, hb2⟩
  have m1 := cell_of_one h1
  have HO : Hid (OwnI w2 w.heap.size z S) := Lib.hid (by rw [← HWT.out]; exact h3.low (by omega))
  have HB := Lib.hid hb2
  clear h1 h3 h4 hb2
  go_wp2
  go_ret
  exact ⟨z, rfl, HO.out, HB.out⟩
end Go.Proofs.YtaficmboooaknaaGreatDoor
namespace Go.Proofs.YtaficmboooaknaaGreatDoor
open Go.RowKit
open Go.Proofs.YtaficmboooaknaaGreatDoor.Sto (St)

def Tri.delL (S : St) (x : List UInt8) : St := if (Tri.getC S x).2 = 0 then Tri.del S x else []
def RtDelPost (S : St) (x : List UInt8) (w : World) (e : Ending) (w' : World) : Prop :=
  ∃ v', e = .returned (.tuple #[v', .int .i64 (Tri.getC S x).2]) ∧ ItAt w' v' (Tri.delL S x) ∧ Below w.heap.size w w'
theorem RtDelPost.bad {S : St} {x : List UInt8} {w w' : World} {c : Nat} (h : (Tri.getC S x).2 = c) (hc : c ≠ 0) (hb : Below w.heap.size w w') : RtDelPost S x w (.returned (.tuple #[.slice none 0 0, .int .i64 c])) w' := by
  subst h
  exact ⟨_, rfl, by rw [Tri.delL, if_neg hc]; exact RowsAt.nil .., hb⟩
theorem RtDelPost.good {S L : St} {x : List UInt8} {w w' : World} {v' : Value} (h : (Tri.getC S x).2 = 0) (hp : Tri.del S x = L) (hv : ItAt w' v' L) (hb : Below w.heap.size w w') : RtDelPost S x w (.returned (.tuple #[v', .int .i64 0])) w' := by
  refine ⟨v', by rw [h]; rfl, ?_, hb⟩
  rw [Tri.delL, if_pos h, hp]; exact hv
end Go.Proofs.YtaficmboooaknaaGreatDoor
namespace Go.Proofs.YtaficmboooaknaaGreatDoor.Tri
open Sto (T St Rising keys)
open Go.Proofs.YtaficmboooaknaaGreatDoor.Nd (N)

theorem pair_sub : ∀ i j : Fin 16, i < j → [i, j].Sublist (List.finRange 16) := by decide +kernel
theorem one_sub : ∀ i : Fin 16, [i].Sublist (List.finRange 16) := by decide +kernel
theorem spots_len (dg : N → T) {t : Tr} (h : t.canon) (hn : ¬ t.isNil) (p : T) : (t.spots dg p).length + 2 ≤ 3 * t.items.length ∧ (t.isBr → (t.spots dg p).length + 3 ≤ 3 * t.items.length) := by
  induction t generalizing p with
  | nil => exact absurd trivial hn
  | leaf q v => exact ⟨by simp [Tr.spots, Tr.items], fun h => h.elim⟩
  | ext q t ih =>
    have n1 : ¬ t.isNil := by have := h.2.1; cases t <;> simp_all [Tr.isBr, Tr.isNil]
    have := (ih h.2.2 n1 (p ++ q)).2 h.2.1
    refine ⟨?_, fun h => h.elim⟩
    rw [Tr.spots, Tr.items, behind, List.length_map, List.length_cons]
    omega
  | br v k ih =>
    have all : ∀ l : List (Fin 16), (l.flatMap fun i => (k i).spots dg (p ++ [hb i])).length + 2 * l.countP (fun i => !(k i).nilB) ≤ 3 * (l.flatMap fun i => behind [hb i] (k i).items).length := by
      intro l
      induction l with
      | nil => simp
      | cons i l ihl =>
        rw [List.flatMap_cons, List.flatMap_cons, List.length_append, List.length_append, List.countP_cons]
        have hb1 : (behind [hb i] (k i).items).length = (k i).items.length := by rw [behind, List.length_map]
        by_cases e : (k i).isNil
        · have e2 := (nilB_iff _).2 e
          have e3 : (k i).spots dg (p ++ [hb i]) = [] := by cases hk : k i with
            | nil => rfl
            | _ => rw [hk] at e; exact e.elim
          rw [e3, e2]
          simp only [Bool.not_true, Bool.false_eq_true, if_false, List.length_nil]
          omega
        · have e2 : (k i).nilB = false := by cases hk : (k i).nilB with
            | false => rfl
            | true => exact absurd ((nilB_iff _).1 hk) e
          have := (ih i (h.1 i) e (p ++ [hb i])).1
          rw [e2, hb1]
          simp only [Bool.not_false, if_true]
          omega
    have h1 := all (List.finRange 16)
    have h2 : 4 ≤ 3 * (own v).length + 2 * (List.finRange 16).countP (fun i => !(k i).nilB) := by
      have ne : ∀ i, ¬ (k i).isNil → (!(k i).nilB) = true := fun i hi => by
        cases hk : (k i).nilB with
        | false => rfl
        | true => exact absurd ((nilB_iff _).1 hk) hi
      rcases h.2 with ⟨i, j, hij, hi, hj⟩ | ⟨hv, i, hi⟩
      · have := (pair_sub i j hij).countP_le (p := fun i => !(k i).nilB)
        simp only [List.countP_cons, ne i hi, ne j hj, if_true, List.countP_nil] at this
        omega
      · have := (one_sub i).countP_le (p := fun i => !(k i).nilB)
        simp only [List.countP_cons, ne i hi, if_true, List.countP_nil] at this
        rw [own, if_neg hv, List.length_singleton]
        omega
    have h3 : (Tr.spots dg p (.br v k)).length + 3 ≤ 3 * (Tr.br v k).items.length := by
      rw [Tr.spots, Tr.items, List.length_cons, List.length_append]
      omega
    exact ⟨by omega, fun _ => h3⟩
end Go.Proofs.YtaficmboooaknaaGreatDoor.Tri
namespace Go.Proofs.YtaficmboooaknaaGreatDoor
open Go.RowKit
open Sto (T St)
open Tri (Tr Ok upd ix hb lay splitT Trim rank)
open Go.Proofs.YtaficmboooaknaaGreatDoor.Nd (N)

/-- Items as a trie may have them, with their tree. -/
structure TrS (S : St) (t : Tr) : Prop where
  tree : Tri.TreeOf S t
  rise : Sto.Rising S
  fair : ∀ x ∈ S, 1 ≤ x.1.length ∧ x.1.length ≤ 8 ∧ 1 ≤ x.2.length ∧ x.2.length ≤ 32
  few : S.length ≤ 1024
theorem TrS.within {S : St} {t : Tr} (h : TrS S t) : within t := fun x hx => by
  rw [h.tree.2.2] at hx
  obtain ⟨y, hy, rfl⟩ := List.mem_map.1 hx
  have := (h.fair y hy).2.1
  rw [Nib.ofL_length]; omega
theorem TrS.ok {S : St} {t : Tr} (h : TrS S t) : Ok t := ⟨h.tree.1, h.tree.2.1, Tri.small_of h.tree.1 fun x hx => ⟨h.within x hx, by
  rw [h.tree.2.2] at hx
  obtain ⟨y, hy, rfl⟩ := List.mem_map.1 hx
  exact (h.fair y hy).2.2.2⟩⟩
theorem TrS.trim {S : St} {t : Tr} (h : TrS S t) : Trim t := ⟨Tri.canon_firm h.tree.1, h.tree.2.1, Tri.small_low h.ok.small⟩
theorem TrS.spots {S : St} {t : Tr} (h : TrS S t) (p : T) : (t.spots Nd.sumS p).length ≤ 100000 := by
  by_cases hn : t.isNil
  · rw [Tri.isNil_eq hn]; simp [Tri.Tr.spots]
  · have h1 := (Tri.spots_len Nd.sumS h.tree.1 hn p).1
    have h2 : t.items.length = S.length := by rw [h.tree.2.2]; simp [Tri.paths]
    have := h.few
    omega
theorem TrS.sealed {S : St} {t : Tr} {w : World} {v : Value} (h : TrS S t) (hp : PAt w (Fm.from 0) true t v) : Sealed w t v := ⟨hp, h.ok, h.within, h.spots⟩
theorem TrS.empty : TrS [] .nil := ⟨⟨trivial, trivial, rfl⟩, List.Pairwise.nil, fun x hx => (by cases hx), by simp⟩
theorem TrS.find {S : St} {t : Tr} (h : TrS S t) (k : T) : findT t (Nib.ofL k) = (Sto.look S k).getD [] := by
  unfold findT; rw [h.tree.get h.rise]
theorem TrS.look_ne {S : St} {t : Tr} (h : TrS S t) {k v : T} (hl : Sto.look S k = some v) : v ≠ [] := fun e => by
  have := (h.fair _ ((Sto.look_mem h.rise k v).1 hl)).2.2.1
  rw [e] at this; simp at this
theorem TrS.put {S : St} {t : Tr} (h : TrS S t) {k v : T} (hk : Tri.putC S k v = 0) : TrS (Tri.put S k v) (t.put (Nib.ofL k) v) := by
  unfold Tri.putC at hk
  split at hk
  · rename_i hkk
    split at hk
    · rename_i hv
      obtain ⟨v1, v2, v3⟩ := hv
      have hkk2 : 1 ≤ k.length ∧ k.length ≤ 8 := by simpa [Tri.keyed] using hkk
      refine ⟨h.tree.put (fun e => by subst e; simp at v1), Tri.put_rising h.rise _ _, fun x hx => ?_, ?_⟩
      · rcases Tri.put_mem hx with hx | rfl
        · exact h.fair x hx
        · exact ⟨hkk2.1, hkk2.2, v1, v2⟩
      · have hf := h.few
        rw [Tri.put_eq]
        have hp := Tri.pos_le S k
        rcases v3 with v3 | v3
        · rw [if_pos v3]
          have hp2 : Tri.pos S k < S.length := (Tri.look_pos h.rise k v3).1
          simp; omega
        · simp; omega
    · cases hk
  · cases hk
theorem TrS.del {S : St} {t : Tr} (h : TrS S t) {k : T} (hk : Sto.look S k ≠ none) : TrS (Tri.del S k) (t.del (Nib.ofL k)) := by
  refine ⟨h.tree.del h.rise hk, Tri.del_rising h.rise _, fun x hx => h.fair x (Tri.del_mem hx), ?_⟩
  have hf := h.few
  have ha : Tri.at_ S k = true := by rw [Tri.at_look h.rise]; cases hl : Sto.look S k with | none => exact absurd hl hk | some v => rfl
  rw [Tri.del_eq h.rise k ha]
  simp; omega
/-- A trie in block g. -/
def TRow (w : World) (g : Nat) (top : Value) (n : Nat) : Prop := w.heap[g]? = some (.cells #[top, .int .i64 n] 84 (0, 0))
theorem TRow.below {w w' : World} {g n : Nat} {top : Value} (h : TRow w g top n) (hb : Below w.heap.size w w') : TRow w' g top n := (hb.block g (lt_of_heap h)).trans h
theorem TRow.top {w : World} {g n : Nat} {top : Value} (h : TRow w g top n) : w.cell? ⟨g, 0, none⟩ = some top := by rw [cell_of_row _ _ _ _ _ _ h]; rfl
theorem TRow.num {w : World} {g n : Nat} {top : Value} (h : TRow w g top n) : w.cell? ⟨g, 1, none⟩ = some (.int .i64 n) := by rw [cell_of_row _ _ _ _ _ _ h]; rfl
/-- A trie whose parts may be without their sums. -/
def OpenAt (w : World) (F : Fm) (g : Nat) (S : St) : Prop := ∃ top t, TRow w g top S.length ∧ PAt w F false t top ∧ TrS S t
def TrAt (w : World) (g : Nat) (S : St) : Prop := ∃ top t, TRow w g top S.length ∧ PAt w (Fm.from 0) true t top ∧ TrS S t
theorem TrAt.below {w w' : World} {g : Nat} {S : St} (h : TrAt w g S) (hb : Below w.heap.size w w') : TrAt w' g S := by
  obtain ⟨top, t, h1, h2, h3⟩ := h
  exact ⟨top, t, h1.below hb, h2.below hb, h3⟩
theorem TrAt.open {w : World} {g : Nat} {S : St} (h : TrAt w g S) (B : Nat) : OpenAt w (Fm.from B) g S := by
  obtain ⟨top, t, h1, h2, h3⟩ := h
  exact ⟨top, t, h1, h2.sealed (fun _ _ e => by cases e) false, h3⟩
theorem OpenAt.below {w w' : World} {F : Fm} {g : Nat} {S : St} (h : OpenAt w F g S) (hb : Below w.heap.size w w') : OpenAt w' F g S := by
  obtain ⟨top, t, h1, h2, h3⟩ := h
  exact ⟨top, t, h1.below hb, h2.below hb, h3⟩
theorem TrAt.rise {w : World} {g : Nat} {S : St} (h : TrAt w g S) : Sto.Rising S := by
  obtain ⟨_, _, _, _, h3⟩ := h; exact h3.rise
theorem TrAt.few {w : World} {g : Nat} {S : St} (h : TrAt w g S) : S.length ≤ 1024 := by
  obtain ⟨_, _, _, _, h3⟩ := h; exact h3.few

set_option maxRecDepth 100000 in
theorem tnew_any (w : World) : Calls Tryz.prog 32 #[] w fun e w' => ∃ g, e = .returned (ptr g) ∧ TrAt w' g [] ∧ w.heap.size ≤ g ∧ Below w.heap.size w w' := by
  go_enter Tryz.func32, Tryz.ntmps32
  go_wp2
  go_ret
  exact ⟨w.heap.size, rfl, ⟨nilp, .nil, heap_alloc_new w _, PAt.nil _ _ _, TrS.empty⟩, Nat.le_refl _, (Below.refl _ w).alloc (Nat.le_refl _) _⟩
set_option maxRecDepth 100000 in
theorem iskey_any (x : T) (w : World) :
    Calls Tryz.prog 97 #[.string ⟨x.toArray⟩] w fun e w' => e = .returned (.bool (Tri.keyed x)) ∧ w = w' := by
  by_cases h0 : x = []
  · subst h0
    go_enter Tryz.func97, Tryz.ntmps97
    go_wp2
    go_ret
    exact ⟨rfl, rfl⟩
  · have h1 : (x == []) = false := by rw [beq_eq_false_iff_ne]; exact h0
    have h2 : 1 ≤ x.length := List.length_pos_iff.2 h0
    by_cases h8 : x.length ≤ 8
    · have h3 : (x.length : Int) ≤ 8 := by omega
      have e : Tri.keyed x = true := by simp [Tri.keyed, h2, h8]
      rw [e]
      clear e h2 h8 h0
      go_enter Tryz.func97, Tryz.ntmps97
      go_wp2
      go_ret
      exact ⟨rfl, rfl⟩
    · have h3 : ¬ ((x.length : Int) ≤ 8) := by omega
      have e : Tri.keyed x = false := by simp [Tri.keyed]; omega
      rw [e]
      clear e h2 h8 h0
      go_enter Tryz.func97, Tryz.ntmps97
      go_wp2
      go_ret
      exact ⟨rfl, rfl⟩
end Go.Proofs.YtaficmboooaknaaGreatDoor
namespace Go.Proofs.YtaficmboooaknaaGreatDoor
open Go.RowKit
open Sto (T St)
open Tri (Tr Ok upd ix hb lay splitT Trim rank)
open Go.Proofs.YtaficmboooaknaaGreatDoor.Nd (N)

/-- What with of a trie answers. -/
def TWithPost (S : St) (k v : T) (F : Fm) (w : World) (e : Ending) (w' : World) : Prop :=
  ∃ z, e = .returned (.tuple #[z, .int .i64 (Tri.putC S k v)]) ∧ (Tri.putC S k v = 0 → ∃ g', z = ptr g' ∧ w.heap.size ≤ g' ∧ OpenAt w' F g' (Tri.put S k v)) ∧ (Tri.putC S k v ≠ 0 → z = nilp) ∧ Below w.heap.size w w'
theorem TWithPost.bad {S : St} {k v : T} {F : Fm} {w w' : World} {c : Nat} (h : Tri.putC S k v = c) (hc : c ≠ 0) (hb : Below w.heap.size w w') : TWithPost S k v F w (.returned (.tuple #[.pointer none, .int .i64 c])) w' := by
  subst h
  exact ⟨_, rfl, fun e => absurd e hc, fun _ => rfl, hb⟩
theorem TWithPost.good {S : St} {k v : T} {F : Fm} {w w' : World} {g' n : Nat} {top : Value} {t : Tr} (h : Tri.putC S k v = 0) (hg : w.heap.size ≤ g') (hr : TRow w' g' top n) (hn : n = (Tri.put S k v).length) (hp : PAt w' F false t top) (hs : TrS (Tri.put S k v) t) (hb : Below w.heap.size w w') : TWithPost S k v F w (.returned (.tuple #[.pointer (some ⟨g', 0, none⟩), .int .i64 0])) w' := by
  subst hn
  exact ⟨_, by rw [h]; rfl, fun _ => ⟨g', rfl, hg, top, t, hr, hp, hs⟩, fun e => absurd h e, hb⟩
set_option maxRecDepth 100000 in
set_option maxHeartbeats 1000000 in
theorem twith_good {g : Nat} {S : St} (k v : T) (w : World) (F : Fm) (hF : F.fresh w) (h : OpenAt w F g S) (hc : Tri.putC S k v = 0) :
    Calls Tryz.prog 60 #[ptr g, .string ⟨k.toArray⟩, .string ⟨v.toArray⟩] w (TWithPost S k v F w) := by
  obtain ⟨top, t, h1, h2, h3⟩ := h
  have hc0 := hc
  unfold Tri.putC at hc
  split at hc
  · rename_i hkk
    split at hc
    · rename_i hv
      obtain ⟨v1, v2, v3⟩ := hv
      have hkk2 : 1 ≤ k.length ∧ k.length ≤ 8 := by simpa [Tri.keyed] using hkk
      have HK := Lib.hid (fun w => iskey_any k w)
      rw [hkk] at HK
      have HOF := Lib.hid (fun w => of_any k w (by omega))
      have HFI : Hid (∀ w', Below w.heap.size w w' → Calls Tryz.prog 98 #[top, .string ⟨(Nib.ofL k).toArray⟩] w' fun e w'' => e = .returned (.string ⟨((Sto.look S k).getD []).toArray⟩) ∧ Below w'.heap.size w' w'') := Lib.hid (fun w' hb => by
        have := find_any (Nib.ofL k) w' (h2.below hb) h3.trim.firm (Tri.ofL_fit k) (by rw [Nib.ofL_length]; omega)
        rw [h3.find] at this
        exact this)
      have HCL := Lib.hid (fun w => dclone_any v w (by omega))
      have HWI : Hid (∀ w', Below w.heap.size w w' → Calls Tryz.prog 99 #[top, .string ⟨(Nib.ofL k).toArray⟩, .string ⟨v.toArray⟩] w' fun e w'' => ∃ g9, e = .returned (.pointer (some ⟨g9, 0, none⟩)) ∧ PAt w'' F false (t.put (Nib.ofL k) v) (.pointer (some ⟨g9, 0, none⟩)) ∧ Below w'.heap.size w' w'') := Lib.hid (fun w' hb =>
        (with_any (Nib.ofL k) v w' F (hF.size hb.size) (h2.below hb) h3.trim (Tri.ofL_fit k) (by rw [Nib.ofL_length]; omega)).mono fun e w'' ⟨v9, e1, hp, hb9⟩ => by
          obtain ⟨g9, rfl⟩ := hp.ptr (Tri.put_nn _ _ _)
          exact ⟨g9, e1, hp, hb9⟩)
      have HTS := Lib.hid (h3.put hc0)
      have HCC := Lib.hid hc0
      have HPN := Lib.hid (Tri.put_len S k v)
      have HAL := Lib.hid (Tri.at_look h3.rise k)
      have HT : Hid (∀ w', Below w.heap.size w w' → w'.cell? ⟨g, 0, none⟩ = some top ∧ w'.cell? ⟨g, 1, none⟩ = some (.int .i64 S.length)) := Lib.hid (fun w' hb => ⟨(h1.below hb).top, (h1.below hb).num⟩)
      obtain ⟨P, hP⟩ : ∃ P, Nib.ofL k = P := ⟨_, rfl⟩
      rw [hP] at HOF HFI HWI HTS
      have hve : (v == []) = false := by rw [beq_eq_false_iff_ne]; intro e; subst e; simp at v1
      have hvl : ¬ ((v.length : Int) > 32) := by omega
      have hvl2 : decide ((32 : Int) < (v.length : Int)) = false := decide_eq_false (by omega)
      have hvl3 : decide (32 < v.length) = false := decide_eq_false (by omega)
      unfold ptr
      have BD : Below w.heap.size w w.drew := (Below.refl _ _).drew
      obtain ⟨c0, c1⟩ := HT.out _ BD
      have hfew := h3.few
      have hlen : ∀ (n : Nat), n = (Tri.put S k v).length → n ≤ 1024 := fun n hn => by rw [hn]; exact HTS.out.few
      cases hl : Sto.look S k with
      | some y =>
        have hye : (y == []) = false := by rw [beq_eq_false_iff_ne]; exact h3.look_ne hl
        have hpl : S.length = (Tri.put S k v).length := by
          rw [HPN.out, if_pos (by rw [HAL.out, hl]; rfl)]; omega
        have HPL := Lib.hid hpl
        have hgt : ¬ ((S.length : Int) > 1024) := by omega
        have hgt2 : ¬ ((1024 : Int) < (S.length : Int)) := by omega
        rw [hl, Option.getD_some] at HFI
        clear h1 h2 h3 hkk hP hkk2 v1 v2 v3 hc hc0 HPN HAL hl hfew hlen hpl
        go_enter Tryz.func60, Tryz.ntmps60
        go_wp2_with fail
        refine (HK.out _).mono ?_
        rintro e w1 ⟨rfl, rfl⟩
        go_upto_region 5 with fail
        go_region_held3 (fun w' => w'.cell? ⟨g, 1, none⟩ = some (.int .i64 S.length))
          ((first | (with_reducible assumption) | (refine (HT.out _ ?_).2; with_reducible assumption)))
          ((go_at_call 59; refine (HOF.out _).mono ?_; rintro e w6 ⟨rfl, hb6⟩; have hb6' := bchain BD hb6))
        all_goals
          obtain ⟨d0, d1⟩ := HT.out _ hb6'
          go_wp2_with fail
          refine (HFI.out _ hb6').mono ?_
          rintro e w7 ⟨rfl, hb7⟩
          have hb7' := bchain hb6' hb7
          have BD7 : Below w.heap.size w w7.drew := hb7'.drew
          go_upto_region 10 with fail
          obtain ⟨e0, e1⟩ := HT.out _ BD7
          clear c0 c1 d0 d1
          go_region_held3 (fun w' => w'.cell? ⟨g, 0, none⟩ = some top)
            ((first | (with_reducible assumption) | (refine (HT.out _ ?_).1; with_reducible assumption) | (refine (HT.out _ ?_).1; refine Below.alloc ?_ ?_ _; (with_reducible assumption); (with_reducible exact hs9))))
            (first | (go_at_call 46; refine (HCL.out _).mono ?_; rintro e w8 ⟨rfl, hb8⟩; have hb8' := bchain BD7 hb8) | (go_at_call 99; refine (HWI.out _ ?_).mono ?_; (with_reducible exact hb8'); rintro e w9 ⟨g9, rfl, hp9, hb9⟩; have hb9' := bchain hb8' hb9; have hs9 := hb9'.size))
          all_goals
            go_wp2
            go_ret2
            have hba := hb9'.alloc hs9 (.cells #[.pointer (some ⟨g9, 0, none⟩), .int .i64 S.length] 84)
            exact TWithPost.good HCC.out hs9 (heap_alloc_new w9 _) HPL.out (hp9.below ((Below.refl _ w9).alloc (Nat.le_refl _) _)) HTS.out hba
      | none =>
        have hpl : S.length + 1 = (Tri.put S k v).length := by
          rw [HPN.out, if_neg (by rw [HAL.out, hl]; simp)]
        have z8 : IntKind.i64.wrap ((S.length : Int) + 1) = (S.length : Int) + 1 := IntWalk.i64_in _ (by omega)
        have hl1 := hlen _ hpl
        have HPL := Lib.hid hpl
        have hgt : ¬ ((S.length : Int) + 1 > 1024) := by omega
        have hgt2 : ¬ ((1024 : Int) < (S.length : Int) + 1) := by omega
        rw [hl, Option.getD_none] at HFI
        clear hl1 h1 h2 h3 hkk hP hkk2 v1 v2 v3 hc hc0 HPN HAL hl hfew hlen hpl
        go_enter Tryz.func60, Tryz.ntmps60
        go_wp2_with fail
        refine (HK.out _).mono ?_
        rintro e w1 ⟨rfl, rfl⟩
        go_upto_region 5 with fail
        go_region_held3 (fun w' => w'.cell? ⟨g, 1, none⟩ = some (.int .i64 S.length))
          ((first | (with_reducible assumption) | (refine (HT.out _ ?_).2; with_reducible assumption)))
          ((go_at_call 59; refine (HOF.out _).mono ?_; rintro e w6 ⟨rfl, hb6⟩; have hb6' := bchain BD hb6))
        all_goals
          obtain ⟨d0, d1⟩ := HT.out _ hb6'
          go_wp2_with fail
          refine (HFI.out _ hb6').mono ?_
          rintro e w7 ⟨rfl, hb7⟩
          have hb7' := bchain hb6' hb7
          have BD7 : Below w.heap.size w w7.drew := hb7'.drew
          go_upto_region 10 with fail
          obtain ⟨e0, e1⟩ := HT.out _ BD7
          clear c0 c1 d0 d1
          go_region_held3 (fun w' => w'.cell? ⟨g, 0, none⟩ = some top)
            ((first | (with_reducible assumption) | (refine (HT.out _ ?_).1; with_reducible assumption) | (refine (HT.out _ ?_).1; refine Below.alloc ?_ ?_ _; (with_reducible assumption); (with_reducible exact hs9))))
            (first | (go_at_call 46; refine (HCL.out _).mono ?_; rintro e w8 ⟨rfl, hb8⟩; have hb8' := bchain BD7 hb8) | (go_at_call 99; refine (HWI.out _ ?_).mono ?_; (with_reducible exact hb8'); rintro e w9 ⟨g9, rfl, hp9, hb9⟩; have hb9' := bchain hb8' hb9; have hs9 := hb9'.size))
          all_goals
            go_wp2
            go_ret2
            have hba := hb9'.alloc hs9 (.cells #[.pointer (some ⟨g9, 0, none⟩), .int .i64 ((S.length + 1 : Nat) : Int)] 84)
            exact TWithPost.good HCC.out hs9 (heap_alloc_new w9 _) HPL.out (hp9.below ((Below.refl _ w9).alloc (Nat.le_refl _) _)) HTS.out hba
    · cases hc
  · cases hc
set_option maxRecDepth 100000 in
set_option maxHeartbeats 1000000 in
theorem twith_any {g : Nat} {S : St} (k v : T) (w : World) (F : Fm) (hF : F.fresh w) (h : OpenAt w F g S) :
    Calls Tryz.prog 60 #[ptr g, .string ⟨k.toArray⟩, .string ⟨v.toArray⟩] w (TWithPost S k v F w) := by
  have HK := Lib.hid (fun w => iskey_any k w)
  cases hk : Tri.keyed k with
  | false =>
    rw [hk] at HK
    have HC := Lib.hid (Tri.putC_no (S := S) (y := v) hk)
    unfold ptr
    clear h hk
    go_enter Tryz.func60, Tryz.ntmps60
    go_wp2_with fail
    refine (HK.out _).mono ?_
    rintro e w1 ⟨rfl, rfl⟩
    go_wp2
    go_ret2
    exact TWithPost.bad HC.out (by decide) (Below.refl _ _)
  | true =>
    rw [hk] at HK
    by_cases hok : 1 ≤ v.length ∧ v.length ≤ 32 ∧ (Tri.at_ S k = true ∨ S.length < 1024)
    · exact twith_good k v w F hF h (Tri.putC_ok hk hok)
    · have HC := Lib.hid (Tri.putC_bad (S := S) (y := v) hk hok)
      by_cases hv0 : v = []
      · subst hv0
        unfold ptr
        clear h hk hok
        go_enter Tryz.func60, Tryz.ntmps60
        go_wp2_with fail
        refine (HK.out _).mono ?_
        rintro e w1 ⟨rfl, rfl⟩
        go_wp2
        go_ret2
        exact TWithPost.bad HC.out (by decide) (Below.refl _ _)
      · have hve : (v == []) = false := by rw [beq_eq_false_iff_ne]; exact hv0
        have hv1 : 1 ≤ v.length := List.length_pos_iff.2 hv0
        by_cases hv2 : v.length ≤ 32
        · obtain ⟨top, t, h1, h2, h3⟩ := h
          have hno : ¬ (Tri.at_ S k = true ∨ S.length < 1024) := fun e => hok ⟨hv1, hv2, e⟩
          have hl : Sto.look S k = none := by
            have := Tri.at_look h3.rise k
            cases hl : Sto.look S k with
            | none => rfl
            | some y => exact absurd (Or.inl (by rw [this, hl]; rfl)) hno
          have hfew : S.length = 1024 := by
            have := h3.few
            have : ¬ S.length < 1024 := fun e => hno (Or.inr e)
            omega
          have hx8 : k.length ≤ 8 := by simp [Tri.keyed] at hk; omega
          have HOF := Lib.hid (fun w => of_any k w (by omega))
          have HFI : Hid (∀ w', Below w.heap.size w w' → Calls Tryz.prog 98 #[top, .string ⟨(Nib.ofL k).toArray⟩] w' fun e w'' => e = .returned (.string ⟨#[]⟩) ∧ Below w'.heap.size w' w'') := Lib.hid (fun w' hb => by
            have := find_any (Nib.ofL k) w' (h2.below hb) h3.trim.firm (Tri.ofL_fit k) (by rw [Nib.ofL_length]; omega)
            rw [h3.find, hl] at this
            exact this)
          have HT : Hid (∀ w', Below w.heap.size w w' → w'.cell? ⟨g, 0, none⟩ = some top ∧ w'.cell? ⟨g, 1, none⟩ = some (.int .i64 1024)) := Lib.hid (fun w' hb => ⟨(h1.below hb).top, by have := (h1.below hb).num; rw [hfew] at this; exact this⟩)
          obtain ⟨P, hP⟩ : ∃ P, Nib.ofL k = P := ⟨_, rfl⟩
          rw [hP] at HOF HFI
          have BD : Below w.heap.size w w.drew := (Below.refl _ _).drew
          obtain ⟨c0, c1⟩ := HT.out _ BD
          have hvl2 : decide ((32 : Int) < (v.length : Int)) = false := decide_eq_false (by omega)
          have hvl3 : decide (32 < v.length) = false := decide_eq_false (by omega)
          have hvl : ¬ ((v.length : Int) > 32) := by omega
          unfold ptr
          clear h1 h2 h3 hk hP hl hno hok hfew hv0 hv1 hv2 hx8
          go_enter Tryz.func60, Tryz.ntmps60
          go_wp2_with fail
          refine (HK.out _).mono ?_
          rintro e w1 ⟨rfl, rfl⟩
          go_upto_region 5 with fail
          go_region_held3 (fun w' => w'.cell? ⟨g, 1, none⟩ = some (.int .i64 1024))
            ((first | (with_reducible assumption) | (refine (HT.out _ ?_).2; with_reducible assumption)))
            ((go_at_call 59; refine (HOF.out _).mono ?_; rintro e w6 ⟨rfl, hb6⟩; have hb6' := bchain BD hb6))
          all_goals
            obtain ⟨d0, d1⟩ := HT.out _ hb6'
            go_wp2_with fail
            refine (HFI.out _ hb6').mono ?_
            rintro e w7 ⟨rfl, hb7⟩
            have hb7' := bchain hb6' hb7
            go_wp2
            go_ret2
            exact TWithPost.bad HC.out (by decide) hb7'
        · have hvl : (v.length : Int) > 32 := by omega
          have hvl2 : decide ((32 : Int) < (v.length : Int)) = true := decide_eq_true (by omega)
          have hvl3 : decide (32 < v.length) = true := decide_eq_true (by omega)
          unfold ptr
          clear h hk hok hv0 hv1 hv2
          go_enter Tryz.func60, Tryz.ntmps60
          go_wp2_with fail
          refine (HK.out _).mono ?_
          rintro e w1 ⟨rfl, rfl⟩
          go_wp2
          go_ret2
          exact TWithPost.bad HC.out (by decide) (Below.refl _ _)
def TPutPost (S : St) (k v : T) (w : World) (e : Ending) (w' : World) : Prop :=
  ∃ z, e = .returned (.tuple #[z, .int .i64 (Tri.putC S k v)]) ∧ (Tri.putC S k v = 0 → ∃ g', z = ptr g' ∧ TrAt w' g' (Tri.put S k v)) ∧ (Tri.putC S k v ≠ 0 → z = nilp) ∧ Below w.heap.size w w'
theorem TPutPost.bad {S : St} {k v : T} {w w' : World} {c : Nat} (h : Tri.putC S k v = c) (hc : c ≠ 0) (hb : Below w.heap.size w w') : TPutPost S k v w (.returned (.tuple #[.pointer none, .int .i64 c])) w' := by
  subst h
  exact ⟨_, rfl, fun e => absurd e hc, fun _ => rfl, hb⟩
theorem TPutPost.good {S : St} {k v : T} {w w' : World} {g' : Nat} (h : Tri.putC S k v = 0) (ht : TrAt w' g' (Tri.put S k v)) (hb : Below w.heap.size w w') : TPutPost S k v w (.returned (.tuple #[.pointer (some ⟨g', 0, none⟩), .int .i64 0])) w' :=
  ⟨_, by rw [h]; rfl, fun _ => ⟨g', rfl, ht⟩, fun e => absurd h e, hb⟩
set_option maxRecDepth 100000 in
set_option maxHeartbeats 1000000 in
theorem tput_any {g : Nat} {S : St} (k v : T) (w : World) (h : TrAt w g S) (hT : Tab w) :
    Calls Tryz.prog 34 #[ptr g, .string ⟨k.toArray⟩, .string ⟨v.toArray⟩] w (TPutPost S k v w) := by
  have HW := Lib.hid (twith_any k v w (Fm.from w.heap.size) (fun g hg _ => hg) (h.open w.heap.size))
  have HT := Lib.hid hT
  unfold TWithPost ptr at HW
  unfold ptr
  obtain ⟨c, hc⟩ : ∃ c, Tri.putC S k v = c := ⟨_, rfl⟩
  rw [hc] at HW
  have HCC := Lib.hid hc
  clear h hT hc
  go_enter Tryz.func34, Tryz.ntmps34
  go_wp2_with fail
  refine HW.out.mono ?_
  rintro e w1 ⟨z, rfl, hz1, hz0, hb1⟩
  have HB1 := Lib.hid hb1
  by_cases hc0 : c = 0
  · obtain ⟨g', rfl, hg', top, t, hr, hp, hs⟩ := hz1 hc0
    subst hc0
    have HSE := Lib.hid (seal_to t top w1 w.heap.size HT.out.pos hb1.size (HT.out.below hb1) hs.ok hp)
    have HR := Lib.hid hr
    have HS := Lib.hid hs
    have m0 := hr.top
    clear hz1 hz0 hb1 hr hp hs hg'
    go_wp2_with fail
    refine HSE.out.mono ?_
    rintro e w2 ⟨rfl, hp2, hk2, hb2⟩
    have HP2 := Lib.hid hp2
    have HR2 : Hid (TRow w2 g' top (Tri.put S k v).length) := Lib.hid (hk2.2.2 _ _ _ _ (by decide) HR.out)
    have HB2 := Lib.hid (HB1.out.trans hb2)
    clear hp2 hk2 hb2
    go_wp2
    go_ret2
    exact TPutPost.good HCC.out ⟨top, t, HR2.out, HP2.out.sealed (fun _ _ e => by cases e) true, HS.out⟩ HB2.out
  · have e0 : ((c : Int) == 0) = false := by rw [beq_eq_false_iff_ne]; omega
    have e1 : z = .pointer none := hz0 hc0
    subst e1
    have HC := Lib.hid hc0
    clear hz1 hz0 hb1 hc0
    go_wp2
    go_ret2
    exact TPutPost.bad HCC.out HC.out HB1.out
end Go.Proofs.YtaficmboooaknaaGreatDoor
namespace Go.Proofs.YtaficmboooaknaaGreatDoor
open Go.RowKit
open Sto (T St)
open Tri (Tr Ok upd ix hb lay splitT Trim rank)
open Go.Proofs.YtaficmboooaknaaGreatDoor.Nd (N)

def TDelPost (S : St) (k : T) (w : World) (e : Ending) (w' : World) : Prop :=
  ∃ z, e = .returned (.tuple #[z, .int .i64 (Tri.getC S k).2]) ∧ ((Tri.getC S k).2 = 0 → ∃ g', z = ptr g' ∧ TrAt w' g' (Tri.del S k)) ∧ ((Tri.getC S k).2 ≠ 0 → z = nilp) ∧ Below w.heap.size w w'
theorem TDelPost.bad {S : St} {k : T} {w w' : World} (hc : (Tri.getC S k).2 ≠ 0) (hb : Below w.heap.size w w') : TDelPost S k w (.returned (.tuple #[.pointer none, .int .i64 (Tri.getC S k).2])) w' := ⟨_, rfl, fun e => absurd e hc, fun _ => rfl, hb⟩
theorem TDelPost.good {S : St} {k : T} {w w' : World} {g' : Nat} (h : (Tri.getC S k).2 = 0) (ht : TrAt w' g' (Tri.del S k)) (hb : Below w.heap.size w w') : TDelPost S k w (.returned (.tuple #[.pointer (some ⟨g', 0, none⟩), .int .i64 0])) w' :=
  ⟨_, by rw [h]; rfl, fun _ => ⟨g', rfl, ht⟩, fun e => absurd h e, hb⟩
set_option maxRecDepth 100000 in
theorem troot_any {g n : Nat} {top : Value} {t : Tr} (w : World) (hr : TRow w g top n) (hp : PAt w (Fm.from 0) true t top) (ho : Ok t) :
    Calls Tryz.prog 23 #[ptr g] w fun e w' => e = .returned (.string ⟨(t.sum Nd.sumS).toArray⟩) ∧ Below w.heap.size w w' := by
  have m0 := hr.top
  by_cases hn : t.isNil
  · rw [Tri.isNil_eq hn] at hp ⊢
    have e : top = .pointer none := hp
    subst e
    unfold ptr
    clear hr hp
    go_enter Tryz.func23, Tryz.ntmps23
    go_wp2
    go_ret
    exact ⟨rfl, Below.refl _ _⟩
  · obtain ⟨g2, s', K, rfl, hs, -, h2, -⟩ := hp.row hn
    obtain rfl := hs rfl
    have m1 := h2.sum
    have HCL := Lib.hid (fun w => dclone_any (t.sum Nd.sumS) w (by rw [ho.sum_len hn]; omega))
    obtain ⟨X, hX⟩ : ∃ X, t.sum Nd.sumS = X := ⟨_, rfl⟩
    rw [if_pos rfl, hX] at m1
    rw [hX] at HCL ⊢
    unfold ptr at *
    clear hr h2 hX hn ho
    go_enter Tryz.func23, Tryz.ntmps23
    go_wp2_with fail
    refine (HCL.out _).mono ?_
    rintro e w1 ⟨rfl, hb⟩
    go_wp2
    go_ret
    exact ⟨rfl, hb⟩
end Go.Proofs.YtaficmboooaknaaGreatDoor
namespace Go.Proofs.YtaficmboooaknaaGreatDoor
open Go.RowKit
open Go.Proofs.YtaficmboooaknaaGreatDoor.Sto (St)

def Tri.ofR : St → St → St × Nat
  | S, [] => (S, 0)
  | S, a :: r => if Tri.putC S a.1 a.2 = 0 then Tri.ofR (Tri.put S a.1 a.2) r else ([], Tri.putC S a.1 a.2)
theorem Tri.ofR_step {S L : St} {k : Nat} (hk : k < L.length) (h : Tri.putC S L[k].1 L[k].2 = 0) : Tri.ofR S (L.drop k) = Tri.ofR (Tri.put S L[k].1 L[k].2) (L.drop (k + 1)) := by
  rw [List.drop_eq_getElem_cons hk, Tri.ofR, if_pos h]
theorem Tri.ofR_bad {S L : St} {k : Nat} (hk : k < L.length) (h : Tri.putC S L[k].1 L[k].2 ≠ 0) : Tri.ofR S (L.drop k) = ([], Tri.putC S L[k].1 L[k].2) := by
  rw [List.drop_eq_getElem_cons hk, Tri.ofR, if_neg h]
def RtOfPost (L : St) (w : World) (e : Ending) (w' : World) : Prop :=
  ∃ v', e = .returned (.tuple #[v', .int .i64 (Tri.ofR [] L).2]) ∧ ItAt w' v' (Tri.ofR [] L).1 ∧ Below w.heap.size w w'
theorem RtOfPost.of {L S : St} {c : Nat} {w w' : World} {v' : Value} (h : Tri.ofR [] L = (S, c)) (hv : ItAt w' v' S) (hb : Below w.heap.size w w') : RtOfPost L w (.returned (.tuple #[v', .int .i64 c])) w' :=
  ⟨v', by rw [h], by rw [h]; exact hv, hb⟩
end Go.Proofs.YtaficmboooaknaaGreatDoor
namespace Go.Proofs.YtaficmboooaknaaGreatDoor
open Go.RowKit
open Sto (T St)
open Tri (Tr Ok upd ix hb lay splitT Trim rank)
open Go.Proofs.YtaficmboooaknaaGreatDoor.Nd (N)

def TOfPost (L : St) (w : World) (e : Ending) (w' : World) : Prop :=
  ∃ z, e = .returned (.tuple #[z, .int .i64 (Tri.ofR [] L).2]) ∧ ((Tri.ofR [] L).2 = 0 → ∃ g', z = ptr g' ∧ TrAt w' g' (Tri.ofR [] L).1) ∧ ((Tri.ofR [] L).2 ≠ 0 → z = nilp) ∧ Below w.heap.size w w'
theorem TOfPost.bad {L S : St} {c : Nat} {w w' : World} (h : Tri.ofR [] L = (S, c)) (hc : c ≠ 0) (hb : Below w.heap.size w w') : TOfPost L w (.returned (.tuple #[.pointer none, .int .i64 c])) w' := ⟨nilp, by rw [h]; rfl, by rw [h]; exact fun e => absurd e hc, fun _ => rfl, hb⟩
theorem TOfPost.good {L S : St} {g' : Nat} {w w' : World} (h : Tri.ofR [] L = (S, 0)) (hT : TrAt w' g' S) (hb : Below w.heap.size w w') : TOfPost L w (.returned (.tuple #[.pointer (some ⟨g', 0, none⟩), .int .i64 0])) w' := ⟨_, by rw [h]; rfl, by rw [h]; exact fun _ => ⟨g', rfl, hT⟩, by rw [h]; exact fun e => absurd rfl e, hb⟩
set_option maxRecDepth 100000 in
set_option maxHeartbeats 2000000 in
theorem tof_wide (L : St) (v : Value) (w : World) (hv : ItIn w v L) (hl : L.length ≤ 5000000000000) (hT : Tab w) :
    Calls Tryz.prog 31 #[v] w (TOfPost L w) := by
  have HV := Lib.hid hv
  have HT := Lib.hid hT
  have HL := Lib.hid hl
  have HNW := Lib.hid (tnew_any w)
  unfold ptr at HNW
  obtain ⟨A, cap, rfl, -, -⟩ := hv.form
  clear hv hT
  go_enter Tryz.func31, Tryz.ntmps31
  go_wp2_with fail
  refine HNW.out.mono ?_
  rintro e w1 ⟨g0, rfl, ht0, -, hb1⟩
  have HB1 := Lib.hid hb1
  have H0 := Lib.hid (ht0.open w.heap.size)
  clear ht0 hb1
  go_wp2
  go_loopw [4, 12] (fun av iv wr => ∃ (k : Nat) (gk : Nat) (S : St), av = .pointer (some ⟨gk, 0, none⟩) ∧ k ≤ L.length ∧ iv = .int .i64 k ∧ OpenAt wr (Fm.from w.heap.size) gk S ∧ Tri.ofR [] L = Tri.ofR S (L.drop k) ∧ Below w.heap.size w wr) (fun _ i _ => L.length - (intOf i).toNat)
  case atStart => exact ⟨0, g0, [], rfl, Nat.zero_le _, rfl, H0.out, rfl, HB1.out⟩
  case round =>
    obtain ⟨k, gk, S, rfl, hk, rfl, hop, hof, hb⟩ := hrel
    have HB := Lib.hid hb
    have HOF := Lib.hid hof
    by_cases hlt : k < L.length
    · have h1 : (k : Int) < (L.length : Int) := by omega
      have h0 : (0 : Int) ≤ (k : Int) := by omega
      have hnb : (k : Int) ≤ 5000000000000 := by omega
      have HVW := Lib.hid (RowsIn.below HV.out hb)
      obtain ⟨b, o, rfl, n0, n1⟩ := ItIn.at HVW.out k hlt
      have HST := Lib.hid (Tri.ofR_step (S := S) hlt)
      have HSB := Lib.hid (Tri.ofR_bad (S := S) hlt)
      obtain ⟨x, hx⟩ : ∃ x, L[k].1 = x := ⟨_, rfl⟩
      obtain ⟨y, hy⟩ : ∃ y, L[k].2 = y := ⟨_, rfl⟩
      rw [hx, hy] at HST HSB
      rw [hx] at n0
      rw [hy] at n1
      have hba : Below wr.heap.size wr (wr.alloc (.cells #[.string ⟨x.toArray⟩, .string ⟨y.toArray⟩] 60)) := (Below.refl _ wr).alloc (Nat.le_refl _) _
      have HWI := Lib.hid (twith_any x y (wr.alloc (.cells #[.string ⟨x.toArray⟩, .string ⟨y.toArray⟩] 60)) (Fm.from w.heap.size) (fun g hg _ => Nat.le_trans hb.size (Nat.le_trans hba.size hg)) (hop.below hba))
      have HBA : Hid (∀ w', Below (wr.alloc (.cells #[.string ⟨x.toArray⟩, .string ⟨y.toArray⟩] 60)).heap.size (wr.alloc (.cells #[.string ⟨x.toArray⟩, .string ⟨y.toArray⟩] 60)) w' → Below w.heap.size w w') := Lib.hid (fun w' h => HB.out.trans ((bchain hba h).mono HB.out.size))
      unfold TWithPost ptr at HWI
      obtain ⟨c, hc⟩ : ∃ c, Tri.putC S x y = c := ⟨_, rfl⟩
      rw [hc] at HWI HST HSB
      clear hop hof hb hx hy hba hc
      go_wp2_with fail
      refine HWI.out.mono ?_
      rintro e w2 ⟨z, rfl, hz1, hz0, hb2⟩
      have HB2 := Lib.hid (HBA.out _ hb2)
      by_cases hc0 : c = 0
      · obtain ⟨g', rfl, -, hop2⟩ := hz1 hc0
        subst hc0
        replace HST := Lib.hid (HST.out rfl)
        have HOP := Lib.hid hop2
        clear hz1 hz0 hb2 hop2
        go_wp2
        exact ⟨⟨k + 1, g', Tri.put S x y, rfl, by omega, by go_num, HOP.out, by rw [HOF.out]; exact HST.out, HB2.out⟩, by simp [intOf]; omega⟩
      · have hc1 : ((c : Int) == 0) = false := by rw [beq_eq_false_iff_ne]; omega
        have e1 : z = .pointer none := hz0 hc0
        subst e1
        have HC := Lib.hid hc0
        clear hz1 hz0 hb2 hc0
        go_wp2
        go_ret2
        exact TOfPost.bad (HOF.out.trans (HSB.out HC.out)) HC.out HB2.out
    · obtain rfl : k = L.length := by omega
      have h1 : ¬ ((L.length : Int) < (L.length : Int)) := by omega
      have HEND : Hid (Tri.ofR [] L = (S, 0)) := Lib.hid (by rw [HOF.out, List.drop_length]; rfl)
      obtain ⟨top, t, hr, hp, hs⟩ := hop
      have HSE := Lib.hid (seal_to t top wr w.heap.size HT.out.pos hb.size (HT.out.mid hb HT.out.pos) hs.ok hp)
      have HR := Lib.hid hr
      have HS := Lib.hid hs
      have m0 := hr.top
      clear hof hb hr hp hs
      go_wp2_with fail
      refine HSE.out.mono ?_
      rintro e w2 ⟨rfl, hp2, hk2, hb2⟩
      have HTR : Hid (TrAt w2 gk S) := Lib.hid ⟨top, t, hk2.2.2 _ _ _ _ (by decide) HR.out, hp2.sealed (fun _ _ e => by cases e) true, HS.out⟩
      have HB2 := Lib.hid (HB.out.trans hb2)
      clear hp2 hk2 hb2
      go_wp2
      go_ret2
      exact TOfPost.good HEND.out HTR.out HB2.out
theorem tof_in (L : St) (v : Value) (w : World) (hv : ItIn w v L) (hl : L.length ≤ 10000) (hT : Tab w) :
    Calls Tryz.prog 31 #[v] w (TOfPost L w) := tof_wide L v w hv (by omega) hT
theorem tof_any (L : St) (v : Value) (w : World) (hv : ItAt w v L) (hl : L.length ≤ 10000) (hT : Tab w) :
    Calls Tryz.prog 31 #[v] w (TOfPost L w) := tof_in L v w hv.inn hl hT
end Go.Proofs.YtaficmboooaknaaGreatDoor
namespace Go.Proofs.YtaficmboooaknaaGreatDoor
open Go.RowKit
open Sto (T)
open Tri (Tr Ok upd ix hb lay splitT Trim rank)
open Go.Proofs.YtaficmboooaknaaGreatDoor.Nd (N)

set_option maxRecDepth 100000 in
theorem nodes_wants (w : World) : Wants w 52 #[] (fun _ => true) where
  call := fun _ _ => rfl
  step := fun w' p _ _ _ => by
    show Calls Tryz.prog 52 #[.string ⟨p.toArray⟩] w' _
    go_enter Tryz.func52, Tryz.ntmps52
    go_wp2
    go_ret
    exact ⟨rfl, Below.refl _ _⟩
set_option maxRecDepth 100000 in
theorem nodes_any {g : Nat} {t : Tr} {top n : Value} (w : World) (hg : w.heap[g]? = some (.cells #[top, n] 84 (0, 0))) (hs : Sealed w t top) :
    Calls Tryz.prog 26 #[ptr g] w (TextsPost w (wantedT (fun _ => true) t)) := by
  have HT := Lib.hid (texts_any w hg hs (nodes_wants w) down_all)
  unfold TextsPost ptr at HT
  unfold TextsPost ptr
  clear hg hs
  go_enter Tryz.func26, Tryz.ntmps26
  go_wp2_with fail
  refine HT.out.mono ?_
  rintro e w1 ⟨z, rfl, ho, hb⟩
  go_wp2
  go_ret
  exact ⟨z, rfl, ho, hb⟩
set_option maxRecDepth 100000 in
set_option maxHeartbeats 1000000 in
theorem cover_wants {cf ce cl : Nat} {f e : T} (w : World) (hf : w.heap[cf]? = some (.cells #[.string ⟨(Nib.ofL f).toArray⟩] 9 (0, 0))) (he : w.heap[ce]? = some (.cells #[.string ⟨e.toArray⟩] 9 (0, 0))) (hl : w.heap[cl]? = some (.cells #[.string ⟨(Nib.ofL e).toArray⟩] 9 (0, 0))) :
    Wants w 66 #[.pointer (some ⟨cf, 0, none⟩), .pointer (some ⟨ce, 0, none⟩), .pointer (some ⟨cl, 0, none⟩)] (fun p => Tri.inL p f e) where
  call := fun _ _ => rfl
  step := fun w' p hb _ _ => by
    show Calls Tryz.prog 66 #[.string ⟨p.toArray⟩, .pointer (some ⟨cf, 0, none⟩), .pointer (some ⟨ce, 0, none⟩), .pointer (some ⟨cl, 0, none⟩)] w' _
    have c0 := cell_of_one ((hb.block cf (lt_of_heap hf)).trans hf)
    have c1 := cell_of_one ((hb.block ce (lt_of_heap he)).trans he)
    have c2 := cell_of_one ((hb.block cl (lt_of_heap hl)).trans hl)
    have H1 := Lib.hid (fun w => side_any p (Nib.ofL f) w)
    have H2 := Lib.hid (fun w => side_any p (Nib.ofL e) w)
    rw [in_sides]
    obtain ⟨a, ha⟩ : ∃ a, Nib.sideL p (Nib.ofL f) = a := ⟨_, rfl⟩
    obtain ⟨b, hb2⟩ : ∃ b, Nib.sideL p (Nib.ofL e) = b := ⟨_, rfl⟩
    rw [ha] at H1 ⊢
    rw [hb2] at H2 ⊢
    obtain ⟨x, hx⟩ : ∃ x, (a != -1) = x := ⟨_, rfl⟩
    obtain ⟨y, hy⟩ : ∃ y, (e == []) = y := ⟨_, rfl⟩
    obtain ⟨z, hz⟩ : ∃ z, (b != 1) = z := ⟨_, rfl⟩
    rw [hx, hy, hz]
    have hx2 : (!(a == -1)) = x := hx
    have hz2 : (!(b == 1)) = z := hz
    clear hb hf he hl ha hb2
    cases x with
    | false =>
      go_enter Tryz.func66, Tryz.ntmps66
      go_wp2_with fail
      refine (H1.out _).mono ?_
      rintro e w1 ⟨rfl, rfl⟩
      go_wp2
      go_ret
      exact ⟨rfl, Below.refl _ _⟩
    | true =>
      cases y with
      | true =>
        go_enter Tryz.func66, Tryz.ntmps66
        go_wp2_with fail
        refine (H1.out _).mono ?_
        rintro e w1 ⟨rfl, rfl⟩
        go_wp2
        go_ret
        exact ⟨rfl, Below.refl _ _⟩
      | false =>
        go_enter Tryz.func66, Tryz.ntmps66
        go_wp2_with fail
        refine (H1.out _).mono ?_
        rintro e w1 ⟨rfl, rfl⟩
        go_wp2_with fail
        refine (H2.out _).mono ?_
        rintro e w1 ⟨rfl, rfl⟩
        go_wp2
        go_ret
        exact ⟨rfl, Below.refl _ _⟩
end Go.Proofs.YtaficmboooaknaaGreatDoor
namespace Go.Proofs.YtaficmboooaknaaGreatDoor
open Go.RowKit
open Sto (T St)
open Tri (Tr Ok upd ix hb lay splitT Trim rank)
open Go.Proofs.YtaficmboooaknaaGreatDoor.Nd (N)

namespace Tri
def wL : St := [([97, 98], [50]), ([97], [49])]
def wS : St := [([97], [49]), ([97, 98], [50])]
theorem wL_of : ofR [] wL = (wS, 0) := by decide +kernel
end Tri
theorem wanted_all (t : Tr) : wantedT (fun _ => true) t = (t.spots Nd.sumS []).map fun x => Nd.written x.2 := by
  unfold wantedT
  rw [List.filter_eq_self.2 (fun _ _ => rfl)]
/-- What a trie's nodes are. -/
theorem TrAt.tree {w : World} {g : Nat} {S : St} (h : TrAt w g S) : ∃ top t, TRow w g top S.length ∧ PAt w (Fm.from 0) true t top ∧ TrS S t := h
end Go.Proofs.YtaficmboooaknaaGreatDoor
namespace Go.Proofs.YtaficmboooaknaaGreatDoor
open Go.RowKit Go.ChangeShapes Go.WideShapes

/-- An act. -/
structure ActT where
  kind : Int
  key : List UInt8
  val : List UInt8
instance : Inhabited ActT := ⟨⟨0, [], []⟩⟩
def TActs (w : World) (v : Value) (L : List ActT) : Prop :=
  ∃ (A : Option Addr) (cap : Nat), v = .slice A L.length cap ∧ (0 < L.length → ∃ b o, A = some ⟨b, o, none⟩ ∧ b < w.heap.size ∧ ∀ i (h : i < L.length),
    w.cell? ⟨b, o + i * 3, none⟩ = some (.int .i64 L[i].kind) ∧ w.cell? ⟨b, o + i * 3 + 1, none⟩ = some (.string ⟨L[i].key.toArray⟩) ∧ w.cell? ⟨b, o + i * 3 + 2, none⟩ = some (.string ⟨L[i].val.toArray⟩))
theorem TActs.below {w w' : World} {v : Value} {L : List ActT} (h : TActs w v L) (hb : Below w.heap.size w w') : TActs w' v L := by
  obtain ⟨A, cap, rfl, hc⟩ := h
  refine ⟨A, cap, rfl, fun h0 => ?_⟩
  obtain ⟨b, o, rfl, hlt, hcell⟩ := hc h0
  refine ⟨b, o, rfl, Nat.lt_of_lt_of_le hlt hb.size, fun i hi => ?_⟩
  obtain ⟨h1, h2, h3⟩ := hcell i hi
  exact ⟨(hb.cell hlt).trans h1, (hb.cell hlt).trans h2, (hb.cell hlt).trans h3⟩
theorem TActs.form {w : World} {v : Value} {L : List ActT} (h : TActs w v L) : ∃ A cap, v = .slice A L.length cap := by
  obtain ⟨A, cap, rfl, _⟩ := h
  exact ⟨A, cap, rfl⟩
theorem TActs.at {w w' : World} {A : Option Addr} {n cap : Nat} {L : List ActT} (h : TActs w (.slice A n cap) L) (hb : Below w.heap.size w w') (k : Nat) (hk : k < L.length) :
    ∃ b o, A = some ⟨b, o, none⟩ ∧ b < w.heap.size ∧ w'.cell? ⟨b, o + k * 3, none⟩ = some (.int .i64 L[k].kind) ∧ w'.cell? ⟨b, o + k * 3 + 1, none⟩ = some (.string ⟨L[k].key.toArray⟩) ∧ w'.cell? ⟨b, o + k * 3 + 2, none⟩ = some (.string ⟨L[k].val.toArray⟩) := by
  obtain ⟨A0, cap0, hv0, hc0⟩ := h
  obtain ⟨rfl, rfl, rfl⟩ : A = A0 ∧ n = L.length ∧ cap = cap0 := by simpa using hv0
  obtain ⟨b, o, rfl, hlt, hcell⟩ := hc0 (by omega)
  obtain ⟨h1, h2, h3⟩ := hcell k hk
  exact ⟨b, o, rfl, hlt, (hb.cell hlt).trans h1, (hb.cell hlt).trans h2, (hb.cell hlt).trans h3⟩

end Go.Proofs.YtaficmboooaknaaGreatDoor
namespace Go.Proofs.YtaficmboooaknaaGreatDoor
open Go.RowKit
open Sto (T St)
open Tri (Tr)

/-- One act on items. -/
def actS (S : St) (a : ActT) : St := if 1 < a.kind then (if (Tri.getC S a.key).2 = 0 then Tri.del S a.key else S) else (if Tri.putC S a.key a.val = 0 then Tri.put S a.key a.val else S)
end Go.Proofs.YtaficmboooaknaaGreatDoor
namespace Go.Proofs.YtaficmboooaknaaGreatDoor
open Go.RowKit
open Sto (T St)
open Tri (Tr)

end Go.Proofs.YtaficmboooaknaaGreatDoor
