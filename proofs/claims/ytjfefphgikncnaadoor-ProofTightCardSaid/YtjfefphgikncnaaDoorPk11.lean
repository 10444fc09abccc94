/- TriSplit, TriNarrow, TriNode, TriSeal, TriWalk, NibSide -/
import Derived.Test.YtjfefphgikncnaaDoorPk09
import Derived.Test.YtjfefphgikncnaaDoorPk06
import Derived.Test.YtjfefphgikncnaaDoorPk02
import Derived.Test.YtjfefphgikncnaaDoorPk01
import Derived.WalkSpells
import Derived.WalkLawsBesides
import Derived.Lib.Hide
import Derived.Lib.Strings
namespace Go.Proofs.YtjfefphgikncnaaDoor
open Go.RowKit
open Sto (T)
open Tri (Tr Ok upd ix hb lay splitT)

theorem pcl_val (k : Nat) (p x x' : T) (K : Ks) (s : T) : (pcl k p x K s).toArray.setIfInBounds 2 (.string ⟨x'.toArray⟩) = (pcl k p x' K s).toArray := by
  rw [List.setIfInBounds_toArray]; rfl
theorem RowP.setVal {w : World} {g k : Nat} {p x s : T} {K : Ks} (h : RowP w g k p x K s) (x' : T) : RowP (w.setCell ⟨g, 2, none⟩ (.string ⟨x'.toArray⟩)) g k p x' K s := by
  have := heap_setCell_same _ _ 2 _ _ (.string ⟨x'.toArray⟩) h
  rw [pcl_val] at this
  exact this
/-- One of sixteen set. -/
def updK (K : Ks) (i : Fin 16) (v : Value) : Ks := fun j => if j = i then v else K j
theorem ofFn_set (K : Ks) (i : Fin 16) (v : Value) : (List.ofFn K).set i.val v = List.ofFn (updK K i v) := by
  refine List.ext_getElem (by simp) fun n h1 h2 => ?_
  rw [List.getElem_set, List.getElem_ofFn, List.getElem_ofFn]
  unfold updK
  by_cases e : i.val = n
  · rw [if_pos e, if_pos (Fin.ext e.symm)]
  · rw [if_neg e, if_neg (fun h => e (by rw [← h]))]
theorem pcl_kid (k : Nat) (p x : T) (K : Ks) (s : T) (i : Fin 16) (v : Value) : (pcl k p x K s).toArray.setIfInBounds (3 + i.val) v = (pcl k p x (updK K i v) s).toArray := by
  have hi := i.isLt
  rw [List.setIfInBounds_toArray]
  congr 1
  unfold pcl
  rw [Nat.add_comm 3 i.val]
  simp only [List.set_cons_succ]
  rw [List.set_append_left _ _ (by simp), ofFn_set]
theorem RowP.setKid {w : World} {g k : Nat} {p x s : T} {K : Ks} (h : RowP w g k p x K s) (i : Fin 16) (v : Value) : RowP (w.setCell ⟨g, 3 + i.val, none⟩ v) g k p x (updK K i v) s := by
  have := heap_setCell_same _ _ (3 + i.val) _ _ v h
  rw [pcl_kid] at this
  exact this
theorem ix_val {a : UInt8} (h : a.toNat ≤ 15) : (ix a).val = a.toNat := by simp only [ix]; omega
theorem byte_drop {p r : T} {n : Nat} {a : UInt8} (h : p.drop n = a :: r) : ∀ hh, (⟨p.toArray⟩ : ByteArray)[n]'hh = a := by
  intro hh
  have hl : n < p.length := by
    have := congrArg List.length h
    simp at this; omega
  show p.toArray[n]'_ = a
  rw [List.getElem_toArray]
  have := List.drop_eq_getElem_cons hl
  rw [h] at this
  exact (List.cons.inj this).1.symm
theorem tail_drop {p r : T} {n : Nat} {a : UInt8} (h : p.drop n = a :: r) : (⟨p.toArray⟩ : ByteArray).extract (n + 1) p.length = ⟨r.toArray⟩ := by
  rw [ext_drop]
  have : p.drop (n + 1) = r := by
    rw [← List.drop_drop, h]; rfl
  rw [this]

set_option maxRecDepth 100000 in
set_option maxHeartbeats 2000000 in
theorem split_any {t : Tr} {g : Nat} (n : Nat) (w : World) (F : Fm) (hB : F.fresh w) (h : PAt w F false t (ptr g)) (hk : t.kind = 1 ∨ t.kind = 2) (hf : t.firm) (hfit : t.fits) (hpl : t.pth.length ≤ 1000) (hn : n ≤ t.pth.length) (hne : t.kind = 2 → n < t.pth.length) :
    Calls Tryd.prog 48 #[ptr g, .int .i64 n] w (MadeT w F (splitT n t)) := by
  unfold MadeT
  have hnn : ¬ t.isNil := fun e => by rw [← Tri.kind_nil] at e; omega
  obtain ⟨g', s', K, e, -, -, hr, hkk⟩ := h.row hnn
  obtain rfl := ptr_inj e
  have hb0 : Below w.heap.size w (w.alloc (.cells (pcl 3 [] [] noK []).toArray 57)) := (Below.refl _ w).alloc (Nat.le_refl _) _
  have r1 : RowP (w.alloc (.cells (pcl 3 [] [] noK []).toArray 57)) w.heap.size 3 [] [] noK [] := RowP.new rfl
  have hr1 := hr.below hb0
  have n0 := hr1.kind
  have n1 := hr1.path
  have n2 := hr1.val
  have m2 := r1.val
  have f2 := r1.free 2
  have HP := Lib.hid h
  have HKK := Lib.hid hkk
  have HR := Lib.hid hr
  have HR1 := Lib.hid r1
  have HB0 := Lib.hid hb0
  obtain ⟨C, hC⟩ : ∃ C, (pcl 3 [] [] noK []).toArray = C := ⟨_, rfl⟩
  have HBL : Hid (Tryd.prog.built 57 [(0, .int .i64 3)] = some C) := Lib.hid (by rw [← hC]; kernel_rfl)
  rw [hC] at n0 n1 n2 m2 f2 HB0 HR1
  obtain ⟨p, hp⟩ : ∃ p, t.pth = p := ⟨_, rfl⟩
  obtain ⟨x, hx⟩ : ∃ x, t.vl = x := ⟨_, rfl⟩
  rw [hp] at n1 hpl hn hne
  rw [hx] at n2
  have HPP := Lib.hid hp
  have HX := Lib.hid hx
  by_cases hlt : n < p.length
  · obtain ⟨a, r, hd⟩ : ∃ a r, p.drop n = a :: r := ⟨_, _, List.drop_eq_getElem_cons hlt⟩
    have hfp : Nib.fitL p = true := by
      rcases hk with h1 | h1
      · cases t with
        | leaf q y => obtain rfl : q = p := hp; exact hfit
        | _ => cases h1
      · cases t with
        | ext q y => obtain rfl : q = p := hp; exact hfit.1
        | _ => cases h1
    have ha := (Tri.fit_cons.1 (hd ▸ Tri.fit_drop n hfp)).1
    have hbyte := byte_drop hd
    have htail := tail_drop hd
    have e2 : ((n : Int) == (p.length : Int)) = false := by rw [beq_eq_false_iff_ne]; omega
    have z1 : (0 : Int) ≤ (n : Int) := by omega
    have z2 : (n : Int) < (p.length : Int) := by omega
    have z3 : (0 : Int) ≤ (n : Int) + 1 := by omega
    have z4 : (n : Int) + 1 ≤ (p.length : Int) := by omega
    have z5 : ((n : Int) + 1).toNat = n + 1 := by omega
    have z8 : IntKind.i64.wrap ((n : Int) + 1) = (n : Int) + 1 := IntWalk.i64_in _ (by omega)
    have z6 : (0 : Int) ≤ (a.toNat : Int) := by omega
    have z7 : (a.toNat : Int) < 16 := by omega
    have HIX := Lib.hid (ix_val ha)
    have hrl : r.length ≤ 1000 := by have := congrArg List.length hd; simp at this; omega
    rcases hk with h1 | h1
    · rw [h1] at n0
      have HS : Hid (splitT n t = .br [] (upd Tri.bare (ix a) (.leaf r x))) := Lib.hid (by
        cases t with
        | leaf q y =>
          obtain rfl : q = p := hp
          obtain rfl : y = x := hx
          exact Tri.split_leaf1 hd
        | _ => cases h1)
      have HLF : Hid (∀ w', Below w.heap.size w w' → w.heap.size < w'.heap.size → Calls Tryd.prog 45 #[.string ⟨r.toArray⟩, .string ⟨x.toArray⟩] w' fun e w'' => ∃ v, e = .returned v ∧ PAt w'' (F.off w.heap.size) false (.leaf r x) v ∧ Below w'.heap.size w' w'') := Lib.hid (fun w' hb hs => (leaf_any r x w' _ ((hB.size hb.size).off hs)))
      unfold ptr
      clear h hr hkk hf hfit hp hx hne hn hlt hr1 r1 hb0 h1 hC hpl hfp ha hd m2 f2
      go_enter Tryd.func48, Tryd.ntmps48
      go_wp2_with (refine wpList_build_some (by rfl) _ _ (by rfl) [(0, .int .i64 3)] (by first | rfl | (simp [Act.eval]; done) | kernel_rfl) C HBL.out ?_)
      obtain ⟨q, hq⟩ : ∃ q, w.heap.size = q := ⟨_, rfl⟩
      have HQ := Lib.hid hq
      obtain ⟨w0, hw0⟩ : ∃ w0, w.alloc (.cells C 57) = w0 := ⟨_, rfl⟩
      rw [hw0] at HR1 HB0 n0 n1 n2 ⊢
      rw [hq] at HR1 ⊢
      have HSZ : Hid (w.heap.size < w0.heap.size) := Lib.hid (by rw [← hw0]; simp)
      have HN1 : Hid (∀ w', Below w0.heap.size w0 w' → w'.cell? ⟨g, 1, none⟩ = some (.string ⟨p.toArray⟩) ∧ w'.cell? ⟨g, 2, none⟩ = some (.string ⟨x.toArray⟩) ∧ w'.cell? ⟨q, 3 + a.toNat, none⟩ = some (.pointer none) ∧ w'.frozen? ⟨q, 3 + a.toNat, none⟩ = false) := Lib.hid (fun w' hb => by
        have k1 := (HR.out.below HB0.out).below hb
        have k2 := HR1.out.below hb
        refine ⟨by rw [k1.path, HPP.out], by rw [k1.val, HX.out], ?_, k2.free _⟩
        have := k2.kid (ix a)
        rw [HIX.out] at this
        exact this)
      have HGQ : Hid (g < q) := Lib.hid (by rw [← hq]; exact lt_of_heap HR.out)
      have HK1 : Hid (∀ w' v, Below w0.heap.size w0 w' → (w'.setCell ⟨q, 3 + a.toNat, none⟩ v).cell? ⟨g, 1, none⟩ = some (.string ⟨p.toArray⟩) ∧ (w'.setCell ⟨q, 3 + a.toNat, none⟩ v).cell? ⟨g, 2, none⟩ = some (.string ⟨x.toArray⟩)) := Lib.hid (fun w' v hb => ⟨keep_cell (HN1.out w' hb).1 (Nat.ne_of_lt HGQ.out), keep_cell (HN1.out w' hb).2.1 (Nat.ne_of_lt HGQ.out)⟩)
      have BD : Below w0.heap.size w0 w0.drew := (Below.refl _ _).drew
      have HLF2 : Hid (∀ w', Below w0.heap.size w0 w' → Calls Tryd.prog 45 #[.string ⟨r.toArray⟩, .string ⟨x.toArray⟩] w' fun e w'' => ∃ g6, e = .returned (.pointer (some ⟨g6, 0, none⟩)) ∧ PAt w'' (F.off q) false (.leaf r x) (ptr g6) ∧ Below w0.heap.size w0 w'') := Lib.hid (fun w' hb => (HLF.out w' (HB0.out.trans (hb.mono (Nat.le_of_lt HSZ.out))) (Nat.lt_of_lt_of_le HSZ.out hb.size)).mono fun e w'' ⟨v, e1, hp, hb2⟩ => by
        obtain ⟨g6, _, _, rfl, _⟩ := hp.row id
        exact ⟨g6, e1, by rw [← hq]; exact hp, hb.trans (hb2.mono hb.size)⟩)
      obtain ⟨c1, c2, c3, c4⟩ := HN1.out _ BD
      clear hq hw0 n0 n1 n2 HLF
      go_region_held3 (fun w' => w'.cell? ⟨g, 1, none⟩ = some (.string ⟨p.toArray⟩) ∧ w'.cell? ⟨g, 2, none⟩ = some (.string ⟨x.toArray⟩))
        ((first | (with_reducible exact ⟨c1, c2⟩) | (with_reducible exact ⟨d1, d2⟩) | (refine HK1.out _ _ ?_; with_reducible assumption)))
        ((go_at_call 45; refine (HLF2.out _ ?_).mono ?_; (with_reducible assumption); rintro e w6 ⟨g6, rfl, hp6, hb6⟩; obtain ⟨d1, d2, d3, d4⟩ := HN1.out _ hb6))
      all_goals
        go_wp2
        go_ret
        rw [HS.out]
        have hbq : Below w.heap.size w w6 := HB0.out.trans (hb6.mono (Nat.le_of_lt HSZ.out))
        refine ⟨_, rfl, PAt.new (K := updK noK (ix a) (ptr g6)) id (hB _ (Nat.le_of_eq HQ.out)) ?_ (fun i => ?_), hbq.setCell (p := ⟨q, _, none⟩) (Nat.le_of_eq HQ.out) _⟩
        · have := (HR1.out.below hb6).setKid (ix a) (ptr g6)
          rw [HIX.out] at this
          exact this
        · simp only [Tri.Tr.kid, updK, Tri.upd]
          split
          · exact hp6.off _ _
          · rfl
    · rw [h1] at n0
      obtain ⟨u, hu⟩ : ∃ u, t.kid 0 = u := ⟨_, rfl⟩
      have hub : u.isBr := by
        rw [← hu]
        cases t with
        | ext q y => exact hf.2.1
        | _ => cases h1
      have hun : ¬ u.isNil := by cases u <;> simp_all [Tri.Tr.isBr, Tri.Tr.isNil]
      have hup : u.pth.length ≤ 1000 := by cases u <;> simp_all [Tri.Tr.isBr, Tri.Tr.pth]
      have HUN := Lib.hid (Tri.lay_nn (p := r) hun)
      have HS : Hid (splitT n t = .br [] (upd Tri.bare (ix a) (lay r u))) := Lib.hid (by
        cases t with
        | ext q y =>
          obtain rfl : q = p := hp
          obtain rfl : y = u := hu
          exact Tri.split_ext1 hd
        | _ => cases h1)
      obtain ⟨vk, hvk⟩ : ∃ v, K 0 = v := ⟨_, rfl⟩
      have hku : PAt w (F.off w.heap.size) false u vk := by
        rw [← hu, ← hvk]
        exact (hkk 0).weak.new_off (Nat.le_refl _)
      have HVK := Lib.hid hvk
      have HLF : Hid (∀ w', Below w.heap.size w w' → w.heap.size < w'.heap.size → Calls Tryd.prog 49 #[vk, .string ⟨r.toArray⟩] w' fun e w'' => ∃ v, e = .returned v ∧ PAt w'' (F.off w.heap.size) false (lay r u) v ∧ Below w'.heap.size w' w'') := Lib.hid (fun w' hb hs => (behind_any r w' _ ((hB.size hb.size).off hs) (hku.below hb) (Or.inr hun) hrl hup))
      unfold ptr
      clear hu hub hun hup hvk hku h hr hkk hf hfit hp hx hne hn hlt hr1 r1 hb0 h1 hC hpl hfp ha hd m2 f2
      go_enter Tryd.func48, Tryd.ntmps48
      go_wp2_with (refine wpList_build_some (by rfl) _ _ (by rfl) [(0, .int .i64 3)] (by first | rfl | (simp [Act.eval]; done) | kernel_rfl) C HBL.out ?_)
      obtain ⟨q, hq⟩ : ∃ q, w.heap.size = q := ⟨_, rfl⟩
      have HQ := Lib.hid hq
      obtain ⟨w0, hw0⟩ : ∃ w0, w.alloc (.cells C 57) = w0 := ⟨_, rfl⟩
      rw [hw0] at HR1 HB0 n0 n1 n2 ⊢
      rw [hq] at HR1 ⊢
      have HSZ : Hid (w.heap.size < w0.heap.size) := Lib.hid (by rw [← hw0]; simp)
      have HN1 : Hid (∀ w', Below w0.heap.size w0 w' → w'.cell? ⟨g, 1, none⟩ = some (.string ⟨p.toArray⟩) ∧ w'.cell? ⟨g, 3, none⟩ = some vk ∧ w'.cell? ⟨q, 3 + a.toNat, none⟩ = some (.pointer none) ∧ w'.frozen? ⟨q, 3 + a.toNat, none⟩ = false) := Lib.hid (fun w' hb => by
        have k1 := (HR.out.below HB0.out).below hb
        have k2 := HR1.out.below hb
        refine ⟨by rw [k1.path, HPP.out], by rw [← HVK.out]; exact k1.kid 0, ?_, k2.free _⟩
        have := k2.kid (ix a)
        rw [HIX.out] at this
        exact this)
      have HGQ : Hid (g < q) := Lib.hid (by rw [← hq]; exact lt_of_heap HR.out)
      have HK1 : Hid (∀ w' v, Below w0.heap.size w0 w' → (w'.setCell ⟨q, 3 + a.toNat, none⟩ v).cell? ⟨g, 1, none⟩ = some (.string ⟨p.toArray⟩) ∧ (w'.setCell ⟨q, 3 + a.toNat, none⟩ v).cell? ⟨g, 3, none⟩ = some vk) := Lib.hid (fun w' v hb => ⟨keep_cell (HN1.out w' hb).1 (Nat.ne_of_lt HGQ.out), keep_cell (HN1.out w' hb).2.1 (Nat.ne_of_lt HGQ.out)⟩)
      have BD : Below w0.heap.size w0 w0.drew := (Below.refl _ _).drew
      have HLF2 : Hid (∀ w', Below w0.heap.size w0 w' → Calls Tryd.prog 49 #[vk, .string ⟨r.toArray⟩] w' fun e w'' => ∃ g6, e = .returned (.pointer (some ⟨g6, 0, none⟩)) ∧ PAt w'' (F.off q) false (lay r u) (ptr g6) ∧ Below w0.heap.size w0 w'') := Lib.hid (fun w' hb => (HLF.out w' (HB0.out.trans (hb.mono (Nat.le_of_lt HSZ.out))) (Nat.lt_of_lt_of_le HSZ.out hb.size)).mono fun e w'' ⟨v, e1, hp, hb2⟩ => by
        obtain ⟨g6, _, _, rfl, _⟩ := hp.row HUN.out
        exact ⟨g6, e1, by rw [← hq]; exact hp, hb.trans (hb2.mono hb.size)⟩)
      obtain ⟨c1, c2, c3, c4⟩ := HN1.out _ BD
      clear hq hw0 n0 n1 n2 HLF
      go_region_held3 (fun w' => w'.cell? ⟨g, 1, none⟩ = some (.string ⟨p.toArray⟩) ∧ w'.cell? ⟨g, 3, none⟩ = some vk)
        ((first | (with_reducible exact ⟨c1, c2⟩) | (with_reducible exact ⟨d1, d2⟩) | (refine HK1.out _ _ ?_; with_reducible assumption)))
        ((go_at_call 49; refine (HLF2.out _ ?_).mono ?_; (with_reducible assumption); rintro e w6 ⟨g6, rfl, hp6, hb6⟩; obtain ⟨d1, d2, d3, d4⟩ := HN1.out _ hb6))
      all_goals
        go_wp2
        go_ret
        rw [HS.out]
        have hbq : Below w.heap.size w w6 := HB0.out.trans (hb6.mono (Nat.le_of_lt HSZ.out))
        refine ⟨_, rfl, PAt.new (K := updK noK (ix a) (ptr g6)) id (hB _ (Nat.le_of_eq HQ.out)) ?_ (fun i => ?_), hbq.setCell (p := ⟨q, _, none⟩) (Nat.le_of_eq HQ.out) _⟩
        · have := (HR1.out.below hb6).setKid (ix a) (ptr g6)
          rw [HIX.out] at this
          exact this
        · simp only [Tri.Tr.kid, updK, Tri.upd]
          split
          · exact hp6.off _ _
          · rfl
  · obtain rfl : n = p.length := by omega
    have h1 : t.kind = 1 := by rcases hk with h | h; exact h; exact absurd (hne h) hlt
    have e2 : ((p.length : Int) == (p.length : Int)) = true := beq_self_eq_true _
    have HS : Hid (splitT p.length t = .br x Tri.bare) := Lib.hid (by
      cases t with
      | leaf q y =>
        obtain rfl : q = p := hp
        obtain rfl : y = x := hx
        exact Tri.split_leaf0 (by simp)
      | _ => cases h1)
    have HSV : Hid (C.setIfInBounds 2 (.string ⟨x.toArray⟩) = (pcl 3 [] x noK []).toArray) := Lib.hid (by rw [← hC]; exact pcl_val ..)
    unfold ptr
    clear h hr hkk hk hf hfit hp hx hne hn hlt hr1 r1 hb0 h1 n0 hC
    go_enter Tryd.func48, Tryd.ntmps48
    go_wp2_with (refine wpList_build_some (by rfl) _ _ (by rfl) [(0, .int .i64 3)] (by first | rfl | (simp [Act.eval]; done) | kernel_rfl) C HBL.out ?_)
    go_ret
    rw [HS.out, HSV.out]
    exact ⟨_, rfl, PAt.new (K := noK) id (hB _ (Nat.le_refl _)) (RowP.new rfl) (fun i => rfl), (Below.refl _ w).alloc (Nat.le_refl _) _⟩
end Go.Proofs.YtjfefphgikncnaaDoor
namespace Go.Proofs.YtjfefphgikncnaaDoor
open Go.RowKit
open Sto (T)
open Tri (Tr Ok upd ix hb lay splitT Trim rank)

def kcl (K : Ks) : List Value := List.ofFn K
theorem kcl_length (K : Ks) : (kcl K).length = 16 := by simp [kcl]
theorem RowP.range {w : World} {g k : Nat} {p x s : T} {K : Ks} (h : RowP w g k p x K s) : w.rangeAt g 3 (kcl K) := by
  intro j v hv
  have hj : j < 16 := by
    rcases Nat.lt_or_ge j 16 with h2 | h2
    · exact h2
    · rw [List.getElem?_eq_none (by rw [kcl_length]; exact h2)] at hv; cases hv
  have := h.kid ⟨j, hj⟩
  rw [this]
  unfold kcl at hv
  rw [List.getElem?_ofFn, dif_pos hj] at hv
  exact hv
set_option maxRecDepth 100000 in
theorem kcl_info (K : Ks) : (Tryd.prog.info? 55).map (·.size) = some (kcl K).length := by rw [kcl_length]; kernel_rfl
set_option maxRecDepth 100000 in
theorem index_kids (K : Ks) (i : Fin 16) (w : World) : (Instr.index 55 (.agg (kcl K).toArray) (.int .i64 i.val)).run Tryd.prog w = .ok (K i) w := by
  have hi := i.isLt
  have hu := Tryd.underlying55
  have hk0 : (0 : Int) ≤ (i.val : Int) := by omega
  have hk8 : (i.val : Int) < 16 := by omega
  have hat : (kcl K)[i.val]? = some (K i) := by
    unfold kcl
    rw [List.getElem?_ofFn, dif_pos hi]
  have hs := Tryd.sizeOf52
  have ha := Tryd.isAgg52
  unfold Instr.index
  go_simp
theorem PAt.ptr {w : World} {F : Fm} {s : Bool} {t : Tr} {v : Value} (h : PAt w F s t v) (hn : ¬ t.isNil) : ∃ g, v = .pointer (some ⟨g, 0, none⟩) := by
  obtain ⟨g, _, _, e, _⟩ := h.row hn; exact ⟨g, e⟩
end Go.Proofs.YtjfefphgikncnaaDoor
namespace Go.Proofs.YtjfefphgikncnaaDoor
open Go.RowKit
open Sto (T)
open Tri (Tr Ok upd ix hb lay splitT Trim rank)
open Go.Proofs.YtjfefphgikncnaaDoor.Nd (N)

def st19 (a v : Value) : Sem Unit := Instr.storeAt 64 a v
theorem storeAt19 (a v : Value) : Instr.storeAt 64 a v = st19 a v := rfl
attribute [local go_sem ↓] storeAt19
def zero19 : Array Value := #[.int .i64 0, .string ⟨#[]⟩, .string ⟨#[]⟩, .string ⟨#[]⟩, .string ⟨#[]⟩, .string ⟨#[]⟩, .string ⟨#[]⟩, .string ⟨#[]⟩, .string ⟨#[]⟩, .string ⟨#[]⟩, .string ⟨#[]⟩, .string ⟨#[]⟩, .string ⟨#[]⟩, .string ⟨#[]⟩, .string ⟨#[]⟩, .string ⟨#[]⟩, .string ⟨#[]⟩, .string ⟨#[]⟩, .string ⟨#[]⟩]
def lit19 (kd : Nat) (p x : T) : Array Value := #[.int .i64 kd, .string ⟨p.toArray⟩, .string ⟨x.toArray⟩, .string ⟨#[]⟩, .string ⟨#[]⟩, .string ⟨#[]⟩, .string ⟨#[]⟩, .string ⟨#[]⟩, .string ⟨#[]⟩, .string ⟨#[]⟩, .string ⟨#[]⟩, .string ⟨#[]⟩, .string ⟨#[]⟩, .string ⟨#[]⟩, .string ⟨#[]⟩, .string ⟨#[]⟩, .string ⟨#[]⟩, .string ⟨#[]⟩, .string ⟨#[]⟩]
theorem run_st19 {w : World} {C old : Array Value} (hi : (Tryd.prog.info? 64).map (·.size) = some C.size) (ho : old.size = C.size) (h1 : C.all (·.oneCell') = true) :
    (st19 (.pointer (some ⟨w.heap.size, 0, none⟩)) (.agg C)).run Tryd.prog (w.alloc (.cells old 64)) = .ok () (w.alloc (.cells C 64)) := by
  unfold st19
  simp only [Instr.storeAt, Instr.sureAddr, Sem.run_bind, Sem.run_pure, Result.andThen_ok, run_storeVar_row (w.alloc (.cells old 64)) w.heap.size 64 64 old C (heap_alloc_new w _) hi ho h1]
  rw [World.setRow_alloc_new]
theorem ncl_set (kd : Int) (p x : T) (L : List T) (k : Nat) (y : T) : (ncl ⟨kd, p, x, L⟩).toArray.setIfInBounds (3 + k) (.string ⟨y.toArray⟩) = (ncl ⟨kd, p, x, L.set k y⟩).toArray := by
  rw [List.setIfInBounds_toArray]
  congr 1
  unfold ncl
  rw [Nat.add_comm 3 k]
  simp only [List.set_cons_succ]
  rw [scells_set]
theorem ncl_ones (n : N) : (ncl n).toArray.all (·.oneCell') = true := by
  rw [← Array.all_toList, List.all_eq_true]
  intro v hv
  simp only [ncl, scells, List.mem_cons, List.mem_map] at hv
  rcases hv with rfl | rfl | rfl | ⟨y, _, rfl⟩ <;> rfl
set_option maxRecDepth 100000 in
set_option maxHeartbeats 2000000 in
theorem pnode_any {t : Tr} {g : Nat} {s : T} {K : Ks} {F : Fm} (w : World) (hr : RowP w g t.kind t.pth t.vl K s) (hk : ∀ i, PAt w F true (t.kid i) (K i)) (hn : ¬ t.isNil) :
    Calls Tryd.prog 37 #[ptr g] w fun e w' => e = .returned (ndval (t.node Nd.sumS)) ∧ Below w.heap.size w w' := by
  rw [Tri.node_kid _ hn]
  have HK := Lib.hid hk
  have HR := Lib.hid hr
  unfold ptr
  obtain ⟨kd, hkd⟩ : ∃ kd, t.kind = kd := ⟨_, rfl⟩
  obtain ⟨p, hp⟩ : ∃ p, t.pth = p := ⟨_, rfl⟩
  obtain ⟨x, hx⟩ : ∃ x, t.vl = x := ⟨_, rfl⟩
  rw [hkd, hp, hx] at HR ⊢
  obtain ⟨SL, hSL⟩ : ∃ SL, (List.ofFn fun i => (t.kid i).sum Nd.sumS) = SL := ⟨_, rfl⟩
  have HSL : Hid (SL.length = 16 ∧ ∀ i : Fin 16, SL[i.val]? = some ((t.kid i).sum Nd.sumS)) := Lib.hid (by
    rw [← hSL]
    exact ⟨by simp, fun i => by rw [List.getElem?_ofFn, dif_pos i.isLt]⟩)
  rw [hSL]
  unfold ndval
  obtain ⟨A, hA⟩ : ∃ A, (ncl ⟨(kd : Int), p, x, SL⟩).toArray = A := ⟨_, rfl⟩
  rw [hA]
  have HA := Lib.hid hA
  clear hr hk hkd hp hx hSL hA
  go_enter Tryd.func37, Tryd.ntmps37
  go_upto_region 1 with fail
  obtain ⟨q, hq⟩ : ∃ q, w.heap.size = q := ⟨_, rfl⟩
  obtain ⟨w0, hw0⟩ : ∃ w0, w.alloc (.cells zero19 64) = w0 := ⟨_, rfl⟩
  have HQB : Hid (w0.heap[q]? = some (.cells zero19 64 (0, 0))) := Lib.hid (by rw [← hw0, ← hq]; exact heap_alloc_new w _)
  have HB0 : Hid (Below w.heap.size w w0) := Lib.hid (by rw [← hw0]; exact (Below.refl _ w).alloc (Nat.le_refl _) _)
  have HQ0 : Hid (q < w0.heap.size) := Lib.hid (lt_of_heap HQB.out)
  unfold zero19 at hw0
  rw [hw0, hq]
  have HQ := Lib.hid hq
  have HG : Hid (∀ w', Below w0.heap.size w0 w' → w'.cell? ⟨g, 0, none⟩ = some (.int .i64 kd) ∧ w'.cell? ⟨g, 1, none⟩ = some (.string ⟨p.toArray⟩) ∧ w'.cell? ⟨g, 2, none⟩ = some (.string ⟨x.toArray⟩)) := Lib.hid (fun w' hb => by
    have k1 := (HR.out.below HB0.out).below hb
    exact ⟨k1.kind, k1.path, k1.val⟩)
  have hst : (st19 (.pointer (some ⟨w0.heap.size, 0, none⟩)) (.agg (lit19 kd p x))).run Tryd.prog ((w0.alloc (.cells zero19 64)).drew) = .ok () ((w0.alloc (.cells (lit19 kd p x) 64)).drew) := run_st19 (w := w0.drew) (by kernel_rfl) rfl (by simp [lit19, Value.oneCell'])
  unfold lit19 zero19 at hst
  have B1 : Below w0.heap.size w0 w0.drew := (Below.refl _ _).drew
  have B2 := ((Below.refl w0.heap.size w0).alloc (Nat.le_refl _) (.cells zero19 64)).drew
  have B3 := ((Below.refl w0.heap.size w0).alloc (Nat.le_refl _) (.cells (lit19 kd p x) 64)).drew
  unfold zero19 at B2
  unfold lit19 at B3
  obtain ⟨c0, c1, c2⟩ := HG.out _ B1
  clear hw0 hq
  go_region_held3 (fun w' => w'.cell? ⟨g, 0, none⟩ = some (.int .i64 kd) ∧ w'.cell? ⟨g, 1, none⟩ = some (.string ⟨p.toArray⟩) ∧ w'.cell? ⟨g, 2, none⟩ = some (.string ⟨x.toArray⟩))
    ((first | (with_reducible exact ⟨c0, c1, c2⟩) | (refine HG.out _ ?_; with_reducible assumption)))
    (fail)
  obtain ⟨q2, hq2⟩ : ∃ q2, w0.heap.size = q2 := ⟨_, rfl⟩
  obtain ⟨w1, hw1⟩ : ∃ w1, (w0.alloc (.cells (lit19 kd p x) 64)).drew = w1 := ⟨_, rfl⟩
  have HN0 : Hid (NodeAt w1 q2 ⟨kd, p, x, Nd.part []⟩) := Lib.hid (by
    rw [← hw1, ← hq2]
    exact heap_alloc_new w0 _)
  have HB1 : Hid (Below w.heap.size w w1 ∧ w1.heap[q]? = some (.cells zero19 64 (0, 0)) ∧ w.heap.size ≤ q2 ∧ q ≠ q2) := Lib.hid (by
    have h1 : Below w0.heap.size w0 w1 := by rw [← hw1]; exact ((Below.refl w0.heap.size w0).alloc (Nat.le_refl _) _).drew
    have := HQ0.out
    have := HB0.out.size
    exact ⟨bchain HB0.out h1, (h1.block q HQ0.out).trans HQB.out, by omega, by omega⟩)
  unfold lit19 at hw1
  rw [hw1, hq2]
  have HRR := Lib.hid ((HR.out.below HB1.out.1).range)
  have HI := Lib.hid (kcl_info K)
  have HKE := Lib.hid (fun (i : Fin 16) w => index_kids K i w)
  clear c0 c1 c2 hst B1 B2 B3 hw1 hq2 HG
  go_wp2_with (refine wpList_load_mid (by rfl) _ _ (by rfl) g 3 (by rfl) (kcl K) _ HRR.out Tryd.underlying55 (by rfl) HI.out ?_)
  obtain ⟨KC, hKC⟩ : ∃ KC, kcl K = KC := ⟨_, rfl⟩
  rw [hKC] at HKE HI HRR ⊢
  clear hKC
  go_loopw [23] (fun i wr => ∃ k : Nat, k ≤ 16 ∧ i = .int .i64 k ∧ NodeAt wr q2 ⟨kd, p, x, Nd.part (SL.take k)⟩ ∧ Out (fun j => j = q2) w1 wr) (fun i _ => 16 - (intOf i).toNat)
  case atStart => exact ⟨0, Nat.zero_le _, rfl, HN0.out, Out.refl _ _⟩
  case round =>
    obtain ⟨k, hk, rfl, hna, hou⟩ := hrel
    have HNA := Lib.hid hna
    have HOU := Lib.hid hou
    have HGQ : Hid (g ≠ q2) := Lib.hid (fun e => by have := lt_of_heap HR.out; have := HB1.out.2.2.1; omega)
    by_cases hlt : k < 16
    · obtain ⟨i, hi⟩ : ∃ i : Fin 16, i.val = k := ⟨⟨k, hlt⟩, rfl⟩
      have h1 : (k : Int) < 16 := by omega
      have h0 : (0 : Int) ≤ (k : Int) := by omega
      have n0 := HKE.out i
      rw [hi] at n0
      have hti : SL.take (k + 1) = SL.take k ++ [(t.kid i).sum Nd.sumS] := by
        have h2 := HSL.out.2 i
        rw [hi] at h2
        rw [List.take_add_one, h2]; rfl
      have htl : (SL.take k).length = k := by rw [List.length_take, HSL.out.1]; omega
      have hki := HK.out i
      by_cases hnl : (t.kid i).isNil
      · have e : K i = .pointer none := by rw [Tri.isNil_eq hnl] at hki; exact hki
        rw [e] at n0
        have HST : Hid (Nd.part (SL.take (k + 1)) = Nd.part (SL.take k)) := Lib.hid (by
          rw [hti, Tri.isNil_eq hnl]
          exact (Nd.part_nil _ (by rw [htl]; exact hlt)).symm)
        clear hki hnl e hna hou hti htl
        go_wp2
        exact ⟨⟨k + 1, by omega, by go_num, by rw [HST.out]; exact HNA.out, HOU.out⟩, by simp [intOf]; omega⟩
      · obtain ⟨g6, s6, K6, e, hs6, -, hr6, -⟩ := hki.row hnl
        have e' : K i = .pointer (some ⟨g6, 0, none⟩) := e
        rw [hs6 rfl, if_pos rfl] at hr6
        rw [e'] at n0
        have hg6 : g6 ≠ q2 := fun e => by have := lt_of_heap hr6; have := HB1.out.2.2.1; omega
        have n19 : wr.cell? ⟨g6, 19, none⟩ = some (.string ⟨((t.kid i).sum Nd.sumS).toArray⟩) := hou.cell (hr6.below HB1.out.1).sum hg6
        have hpl : (Nd.part (SL.take k)).length = 16 := Nd.part_len _ (by rw [htl]; omega)
        have m3 := hna.kid k (by rw [hpl]; exact hlt)
        have f3 : wr.frozen? ⟨q2, 3 + k, none⟩ = false := frozen_of_row _ _ _ _ _ hna
        obtain ⟨y, hy⟩ : ∃ y, (t.kid i).sum Nd.sumS = y := ⟨_, rfl⟩
        rw [hy] at n19 hti
        obtain ⟨y2, hy2⟩ : ∃ y2, (Nd.part (SL.take k))[k]'(by rw [hpl]; exact hlt) = y2 := ⟨_, rfl⟩
        have m3' : wr.cell? ⟨q2, 3 + k, none⟩ = some (.string ⟨y2.toArray⟩) := by rw [m3, hy2]
        have HST : Hid (NodeAt (wr.setCell ⟨q2, 3 + k, none⟩ (.string ⟨y.toArray⟩)) q2 ⟨kd, p, x, Nd.part (SL.take (k + 1))⟩) := Lib.hid (by
          have h2 := heap_setCell_same _ _ (3 + k) _ _ (.string ⟨y.toArray⟩) hna
          rw [ncl_set] at h2
          have h3 := Nd.part_set (SL.take k) y (by rw [htl]; exact hlt)
          rw [htl] at h3
          rw [h3] at h2
          rw [hti]
          exact h2)
        have HOS := Lib.hid (hou.setCell (p := ⟨q2, 3 + k, none⟩) rfl (.string ⟨y.toArray⟩))
        clear hki hnl e e' hna hou hti htl m3 hy2 hr6 hy hpl hg6
        go_wp2
        exact ⟨⟨k + 1, by omega, by go_num, HST.out, HOS.out⟩, by simp [intOf]; omega⟩
    · have h1 : ¬ ((k : Int) < 16) := by omega
      obtain rfl : k = 16 := by omega
      rw [List.take_of_length_le (by rw [HSL.out.1]; omega), Nd.part_all _ HSL.out.1] at HNA
      have hcs : (ncl ⟨kd, p, x, SL⟩).toArray.size = 19 := by rw [List.size_toArray, ncl_length _ HSL.out.1]
      have HIN : Hid ((Tryd.prog.info? 64).map (·.size) = some (ncl ⟨kd, p, x, SL⟩).toArray.size) := Lib.hid (by rw [hcs]; kernel_rfl)
      have HON := Lib.hid (ncl_ones ⟨kd, p, x, SL⟩)
      have HQR : Hid (wr.heap[q]? = some (.cells zero19 64 (0, 0))) := Lib.hid ((HOU.out.block q (lt_of_heap HB1.out.2.1) HB1.out.2.2.2).trans HB1.out.2.1)
      have HOL : Hid (zero19.size = (ncl ⟨kd, p, x, SL⟩).toArray.size) := Lib.hid (by rw [hcs]; rfl)
      have HRW : Hid (wr.heap[q2]? = some (.cells (ncl ⟨kd, p, x, SL⟩).toArray 64 (0, 0))) := Lib.hid HNA.out
      have HBW : Hid (∀ A, Below w.heap.size w (wr.setRow q A)) := Lib.hid (fun A => by
        have h2 := (HOU.out.mono (G := fun j => j = q2 ∨ j = q) (fun j _ e => Or.inl e)).setRow (q := q) (Or.inr rfl) A
        refine HB1.out.1.trans (h2.below (fun j hj => ?_) HB1.out.1.size)
        rcases hj with rfl | rfl
        · exact HB1.out.2.2.1
        · exact Nat.le_of_eq HQ.out)
      rw [HA.out] at HIN HON HOL HRW
      clear hcs hna hou HNA
      go_wp2_with (first | (refine wpList_load_row (by rfl) _ _ (by rfl) q2 (by rfl) _ A _ _ HRW.out Tryd.underlying64 (by rfl) HIN.out ?_) | (refine wpList_store_row (by rfl) _ _ _ (by rfl) q A (by rfl) (by rfl) _ _ HQR.out HIN.out HOL.out HON.out ?_))
      exact bodyPost_ret (v := .agg A) (results_cell_row rfl _ _ q _ _ _ _ rfl (setRow_at HQR.out) Tryd.underlying64 rfl HIN.out) rfl ⟨rfl, HBW.out A⟩
end Go.Proofs.YtjfefphgikncnaaDoor
namespace Go.Proofs.YtjfefphgikncnaaDoor
open Go.RowKit
open Sto (T)
open Tri (Tr Ok upd ix hb lay splitT Trim rank)
open Go.Proofs.YtjfefphgikncnaaDoor.Nd (N)

theorem Tab.mid {w w' : World} {B : Nat} (h : Tab w) (hb : Below B w w') (hB : 0 < B) : Tab w' := fun i hi => (hb.cell (p := ⟨0, i, none⟩) hB).trans (h i hi)
theorem from_mono (B : Nat) : ∀ s g, Fm.from B s g → Fm.from B true g := fun _ _ _ e => by cases e
/-- What sealing keeps: every tree is what it was; only sums are written. -/
def Keeps (B : Nat) (w w' : World) : Prop := (∀ s u z, PAt w (Fm.from B) s u z → PAt w' (Fm.from B) s u z) ∧ (∀ g k p x K s, RowP w g k p x K s → ∃ s', RowP w' g k p x K s') ∧ (∀ (g : Nat) (cs : Array Value) (ty : TypeId) (fl : Nat × Nat), ty ≠ 57 → w.heap[g]? = some (Obj.cells cs ty fl) → w'.heap[g]? = some (Obj.cells cs ty fl))
theorem Keeps.refl (B : Nat) (w : World) : Keeps B w w := ⟨fun _ _ _ h => h, fun _ _ _ _ _ s h => ⟨s, h⟩, fun _ _ _ _ _ h => h⟩
theorem Keeps.trans {B : Nat} {a b c : World} (h : Keeps B a b) (k : Keeps B b c) : Keeps B a c := ⟨fun s u z q => k.1 s u z (h.1 s u z q), fun g kk p x K s q => by
  obtain ⟨s', q'⟩ := h.2.1 g kk p x K s q
  exact k.2.1 g kk p x K s' q', fun g cs ty fl ht q => k.2.2 g cs ty fl ht (h.2.2 g cs ty fl ht q)⟩
theorem Keeps.below {B : Nat} {w w' : World} (h : Below w.heap.size w w') : Keeps B w w' := ⟨fun _ _ _ q => q.below h, fun _ _ _ _ _ s q => ⟨s, q.below h⟩, fun g _ _ _ _ q => (h.block g (lt_of_heap q)).trans q⟩
def SealTo (t : Tr) : Prop := ∀ (v : Value) (w : World) (B : Nat), 0 < B → B ≤ w.heap.size → Tab w → Ok t → PAt w (Fm.from B) false t v →
  Calls Tryd.prog 25 #[v] w fun e w' => e = .returned (.tuple #[]) ∧ PAt w' (Fm.from B) true t v ∧ Keeps B w w' ∧ Below B w w'
set_option maxRecDepth 100000 in
theorem seal_nil (w : World) (B : Nat) :
    Calls Tryd.prog 25 #[.pointer none] w fun e w' => e = .returned (.tuple #[]) ∧ PAt w' (Fm.from B) true .nil (.pointer none) ∧ Keeps B w w' ∧ Below B w w' := by
  go_enter Tryd.func25, Tryd.ntmps25
  go_wp2
  exact bodyPost_ret (results_none rfl _ _ _) rfl ⟨rfl, rfl, Keeps.refl _ _, Below.refl _ _⟩
set_option maxRecDepth 100000 in
theorem seal_done {t : Tr} {g : Nat} {K : Ks} (w : World) (B : Nat) (hn : ¬ t.isNil) (ho : Ok t) (hr : RowP w g t.kind t.pth t.vl K (t.sum Nd.sumS)) (hk : ∀ i, PAt w (Fm.from B) true (t.kid i) (K i)) :
    Calls Tryd.prog 25 #[ptr g] w fun e w' => e = .returned (.tuple #[]) ∧ PAt w' (Fm.from B) true t (ptr g) ∧ Keeps B w w' ∧ Below B w w' := by
  have n19 := hr.sum
  have hne : (t.sum Nd.sumS == []) = false := by rw [beq_eq_false_iff_ne]; exact ho.sum_ne hn
  have HP : Hid (PAt w (Fm.from B) true t (ptr g)) := Lib.hid ((PAt.iff hn).2 ⟨g, true, K, rfl, fun _ => rfl, (fun h => by cases h), hr, hk⟩)
  obtain ⟨S, hS⟩ : ∃ S, t.sum Nd.sumS = S := ⟨_, rfl⟩
  rw [hS] at n19 hne
  unfold ptr at HP ⊢
  clear hr hk hS
  go_enter Tryd.func25, Tryd.ntmps25
  go_wp2
  exact bodyPost_ret (results_none rfl _ _ _) rfl ⟨rfl, HP.out, Keeps.refl _ _, Below.refl _ _⟩
set_option maxRecDepth 100000 in
set_option maxHeartbeats 2000000 in
theorem seal_open {t : Tr} (IH : ∀ i, SealTo (t.kid i)) {g : Nat} {K : Ks} (w : World) (B : Nat) (hB : 0 < B) (hBw : B ≤ w.heap.size) (hT : Tab w) (hn : ¬ t.isNil) (ho : Ok t) (hr : RowP w g t.kind t.pth t.vl K []) (hg : B ≤ g) (hk : ∀ i, PAt w (Fm.from B) false (t.kid i) (K i)) :
    Calls Tryd.prog 25 #[ptr g] w fun e w' => e = .returned (.tuple #[]) ∧ PAt w' (Fm.from B) true t (ptr g) ∧ Keeps B w w' ∧ Below B w w' := by
  have n19 := hr.sum
  have HR := Lib.hid hr
  have HRG := Lib.hid hr.range
  have HI := Lib.hid (kcl_info K)
  have HKE := Lib.hid (fun (i : Fin 16) w => index_kids K i w)
  have HK := Lib.hid hk
  have HIH := Lib.hid (fun (i : Fin 16) (w' : World) (hb : Below B w w') (hp : PAt w' (Fm.from B) false (t.kid i) (K i)) => IH i (K i) w' B hB (Nat.le_trans hBw hb.size) (hT.mid hb hB) (ho.kid i) hp)
  have HTB := Lib.hid (fun (w' : World) (hb : Below B w w') => hT.mid hb hB)
  have HN := Lib.hid (fun (w' : World) (sx : T) (hr : RowP w' g t.kind t.pth t.vl K sx) (hk : ∀ i, PAt w' (Fm.from B) true (t.kid i) (K i)) => pnode_any w' hr hk hn)
  have HSL : Hid (∀ (w' : World) (sx : T), RowP w' g t.kind t.pth t.vl K sx → (∀ i, PAt w' (Fm.from B) true (t.kid i) (K i)) → PAt (w'.setCell ⟨g, 19, none⟩ (.string ⟨(t.sum Nd.sumS).toArray⟩)) (Fm.from B) true t (ptr g) ∧ Keeps B w' (w'.setCell ⟨g, 19, none⟩ (.string ⟨(t.sum Nd.sumS).toArray⟩))) := Lib.hid (fun w' sx hr hk => by
    refine ⟨PAt.seal (from_mono B) (fun e => by cases e) hn hr hk, fun s u z h => PAt.seals (from_mono B) hr hk h, fun g' kk p x K' s h => ?_, fun g' cs ty fl ht h => ?_⟩
    by_cases e : g' = g
    · subst e; exact ⟨_, h.seal _⟩
    · exact ⟨s, (Below.heap_setCell _ ⟨g, 19, none⟩ _ g' e).trans h⟩
    · have e : g' ≠ g := fun e => by
        subst e
        unfold RowP at hr
        rw [hr] at h
        injection h with h; injection h with _ h _
        exact ht h.symm
      exact (Below.heap_setCell _ ⟨g, 19, none⟩ _ g' e).trans h)
  have HDG : Hid (∀ w', Tab w' → Calls Tryd.prog 36 #[ndval (t.node Nd.sumS)] w' fun e w'' => e = .returned (.string ⟨(t.sum Nd.sumS).toArray⟩) ∧ Below w'.heap.size w' w'') := Lib.hid (fun w' h => by
    rw [Tri.sum_node _ hn]
    exact ndigest_any _ w' (Tri.node_kids _ _) h)
  obtain ⟨S, hS⟩ : ∃ S, t.sum Nd.sumS = S := ⟨_, rfl⟩
  obtain ⟨ND, hND⟩ : ∃ ND, ndval (t.node Nd.sumS) = ND := ⟨_, rfl⟩
  rw [hS] at HSL HDG
  rw [hND] at HDG HN
  unfold ptr at HSL HN ⊢
  clear hr hk hT IH hS hND hn ho
  go_enter Tryd.func25, Tryd.ntmps25
  go_wp2_with (refine wpList_load_mid (by rfl) _ _ (by rfl) g 3 (by rfl) (kcl K) _ HRG.out Tryd.underlying55 (by rfl) HI.out ?_)
  obtain ⟨KC, hKC⟩ : ∃ KC, kcl K = KC := ⟨_, rfl⟩
  rw [hKC] at HKE HI HRG ⊢
  clear hKC
  go_loopw [17] (fun i wr => ∃ k : Nat, k ≤ 16 ∧ i = .int .i64 k ∧ (∀ j : Fin 16, j.val < k → PAt wr (Fm.from B) true (t.kid j) (K j)) ∧ Keeps B w wr ∧ Below B w wr) (fun i _ => 16 - (intOf i).toNat)
  case atStart => exact ⟨0, Nat.zero_le _, rfl, fun j hj => absurd hj (Nat.not_lt_zero _), Keeps.refl _ _, Below.refl _ _⟩
  case round =>
    obtain ⟨k, hk, rfl, hks, hkp, hbw⟩ := hrel
    have HKS := Lib.hid hks
    have HKP := Lib.hid hkp
    have HBW := Lib.hid hbw
    by_cases hlt : k < 16
    · obtain ⟨i, hi⟩ : ∃ i : Fin 16, i.val = k := ⟨⟨k, hlt⟩, rfl⟩
      have h1 : (k : Int) < 16 := by omega
      have h0 : (0 : Int) ≤ (k : Int) := by omega
      have n0 := HKE.out i
      rw [hi] at n0
      have HC := Lib.hid (HIH.out i wr hbw (hkp.1 _ _ _ (HK.out i)))
      have HII := Lib.hid hi
      obtain ⟨vk, hvk⟩ : ∃ vk, K i = vk := ⟨_, rfl⟩
      rw [hvk] at n0 HC
      have HVK := Lib.hid hvk
      clear hks hkp hbw hi hvk
      go_wp2_with fail
      refine HC.out.mono ?_
      rintro e w2 ⟨rfl, hp2, hk2, hb2⟩
      have HP2 := Lib.hid hp2
      have HK2 := Lib.hid hk2
      have HB2 := Lib.hid hb2
      clear hp2 hk2 hb2
      go_wp2
      refine ⟨⟨k + 1, by omega, by go_num, fun j hj => ?_, HKP.out.trans HK2.out, HBW.out.trans HB2.out⟩, by simp [intOf]; omega⟩
      by_cases e : j.val < k
      · exact HK2.out.1 _ _ _ (HKS.out j e)
      · obtain rfl : j = i := Fin.ext (by have := HII.out; omega)
        rw [HVK.out]
        exact HP2.out
    · have h1 : ¬ ((k : Int) < 16) := by omega
      obtain rfl : k = 16 := by omega
      obtain ⟨sx, hrx⟩ := hkp.2.1 _ _ _ _ _ _ HR.out
      have hall : ∀ i, PAt wr (Fm.from B) true (t.kid i) (K i) := fun i => hks i i.isLt
      have HC := Lib.hid (HN.out wr sx hrx hall)
      have HRX := Lib.hid hrx
      have HAL := Lib.hid hall
      clear hks hkp hbw hrx hall
      go_wp2_with fail
      refine HC.out.mono ?_
      rintro e w2 ⟨rfl, hb2⟩
      have HB2 := Lib.hid hb2
      have HBB : Hid (Below B w w2) := Lib.hid (HBW.out.trans (hb2.mono (Nat.le_trans hBw HBW.out.size)))
      clear hb2
      go_wp2_with fail
      refine (HDG.out _ (HTB.out _ HBB.out)).mono ?_
      rintro e w3 ⟨rfl, hb3⟩
      have hr3 := (HRX.out.below HB2.out).below hb3
      have hk3 : ∀ i, PAt w3 (Fm.from B) true (t.kid i) (K i) := fun i => ((HAL.out i).below HB2.out).below hb3
      obtain ⟨p3, q3⟩ := HSL.out w3 sx hr3 hk3
      have HP3 := Lib.hid p3
      have HQ3 : Hid (Keeps B w (w3.setCell ⟨g, 19, none⟩ (.string ⟨S.toArray⟩))) := Lib.hid (HKP.out.trans ((Keeps.below HB2.out).trans ((Keeps.below hb3).trans q3)))
      have HB3 : Hid (Below B w (w3.setCell ⟨g, 19, none⟩ (.string ⟨S.toArray⟩))) := Lib.hid ((HBB.out.trans (hb3.mono (Nat.le_trans hBw HBB.out.size))).setCell (p := ⟨g, 19, none⟩) hg _)
      have m19 := hr3.sum
      have f19 := hr3.free 19
      clear hr3 hk3 p3 q3 hb3
      go_wp2
      go_end0
      exact ⟨rfl, HP3.out, HQ3.out, HB3.out⟩
/-- seal, of any tree. -/
theorem seal_to (t : Tr) : SealTo t := by
  induction t using Tri.kid_ind with
  | h0 =>
    intro v w B _ _ _ _ h
    have e : v = .pointer none := h
    subst e
    exact seal_nil w B
  | h t hn IH =>
    intro v w B hB hBw hT ho h
    obtain ⟨g, s', K, rfl, -, h2, hr, hk⟩ := h.row hn
    cases s' with
    | true => exact seal_done w B hn ho hr hk
    | false => exact seal_open IH w B hB hBw hT hn ho hr (h2 rfl) hk
set_option maxRecDepth 100000 in
set_option maxHeartbeats 1000000 in
theorem ptext_any {t : Tr} {g : Nat} {s : T} {K : Ks} {F : Fm} (w : World) (hr : RowP w g t.kind t.pth t.vl K s) (hk : ∀ i, PAt w F true (t.kid i) (K i)) (hn : ¬ t.isNil) (ho : Ok t) :
    Calls Tryd.prog 40 #[ptr g] w fun e w' => e = .returned (.string ⟨(Nd.written (t.node Nd.sumS)).toArray⟩) ∧ Below w.heap.size w w' := by
  have HN := Lib.hid (pnode_any w hr hk hn)
  have HE := Lib.hid (fun w => nencode_any (t.node Nd.sumS) w (Tri.node_kids _ _))
  unfold Nd.encS Nd.encC at HE
  rw [ho.fine hn, if_pos rfl, if_pos rfl] at HE
  obtain ⟨S, hS⟩ : ∃ S, Nd.written (t.node Nd.sumS) = S := ⟨_, rfl⟩
  obtain ⟨ND, hND⟩ : ∃ ND, ndval (t.node Nd.sumS) = ND := ⟨_, rfl⟩
  rw [hS] at HE ⊢
  rw [hND] at HE HN
  unfold ptr at HN ⊢
  clear hr hk hn ho hS hND
  go_enter Tryd.func40, Tryd.ntmps40
  go_wp2_with fail
  refine HN.out.mono ?_
  rintro e w1 ⟨rfl, hb1⟩
  have HB := Lib.hid hb1
  clear hb1
  go_wp2_with fail
  refine (HE.out _).mono ?_
  rintro e w2 ⟨rfl, hb2⟩
  go_wp2
  go_ret
  exact ⟨rfl, bchain HB.out hb2⟩
end Go.Proofs.YtjfefphgikncnaaDoor
namespace Go.Proofs.YtjfefphgikncnaaDoor
open Go.RowKit
open Sto (T)
open Tri (Tr Ok upd ix hb lay splitT Trim rank)
open Go.Proofs.YtjfefphgikncnaaDoor.Nd (N)
namespace Tri
/-- The nodes that are come to, each with its place. -/
def Tr.visits (want : T → Bool) : T → Tr → List (T × Tr)
  | _, .nil => []
  | p, .leaf q v => [(p, .leaf q v)]
  | p, .ext q t => (p, .ext q t) :: if want p then t.visits want (p ++ q) else []
  | p, .br v k => (p, .br v k) :: if want p then (List.finRange 16).flatMap fun i => (k i).visits want (p ++ [hb i]) else []
end Tri
theorem flat_one {α : Type} (f : Fin 16 → List α) (h : ∀ i, i ≠ 0 → f i = []) : (List.finRange 16).flatMap f = f 0 := by
  rw [show List.finRange 16 = 0 :: (List.finRange 16).tail from rfl, List.flatMap_cons]
  have : (List.finRange 16).tail.flatMap f = [] := by
    rw [List.flatMap_eq_nil_iff]
    intro i hi
    refine h i ?_
    rintro rfl
    revert hi
    decide
  rw [this, List.append_nil]
theorem flat_take {α : Type} (f : Fin 16 → List α) (k : Nat) (i : Fin 16) (hi : i.val = k) : (((List.finRange 16).take k).flatMap f).length + (f i).length ≤ ((List.finRange 16).flatMap f).length := by
  have h1 : (List.finRange 16).take (k + 1) = (List.finRange 16).take k ++ [i] := by
    have hl : k < (List.finRange 16).length := by have := i.isLt; simp; omega
    rw [List.take_succ_eq_append_getElem hl]
    congr 2
    exact Fin.ext (by simp [hi])
  have h2 := congrArg (fun l => (l.flatMap f).length) (List.take_append_drop (k + 1) (List.finRange 16))
  simp only [List.flatMap_append, List.length_append, h1, List.flatMap_singleton] at h2
  omega
theorem visits_kid (want : T → Bool) (p : T) {t : Tr} (h : ¬ t.isNil) : t.visits want p = (p, t) :: if want p then (List.finRange 16).flatMap fun i => (t.kid i).visits want (placeT t.kind (p ++ t.pth) i) else [] := by
  cases t with
  | nil => exact absurd trivial h
  | leaf q v =>
    rw [Tri.Tr.visits]
    have : ((List.finRange 16).flatMap fun i => ((Tr.leaf q v).kid i).visits want (placeT (Tr.leaf q v).kind (p ++ (Tr.leaf q v).pth) i)) = [] := by
      rw [List.flatMap_eq_nil_iff]; intro i _; rfl
    rw [this]
    cases want p <;> rfl
  | ext q u =>
    rw [Tri.Tr.visits, flat_one _ (fun i hi => by simp only [Tri.Tr.kid, if_neg hi]; rfl)]
    rfl
  | br v k =>
    rw [Tri.Tr.visits]
    simp [Tri.Tr.kid, placeT, Tri.Tr.kind, Tri.Tr.pth]
/-- What a closure that is handed to walk does. -/
structure Visits (w0 : World) (F : Fm) (id : Nat) (caps : Array Value) (want : T → Bool) (I : World → List (T × Tr) → Prop) : Prop where
  call : ∀ args w, (callFunc id args).run Tryd.prog w = .ok (.enter id args) w
  keep : ∀ w' w'' L, I w' L → Below w'.heap.size w' w'' → I w'' L
  step : ∀ (w' : World) (L : List (T × Tr)) (p : T) (t : Tr) (v : Value), L.length < 100000 → Below w0.heap.size w0 w' → I w' L → PAt w0 F true t v → ¬ t.isNil → Ok t → Nib.fitL p = true → (∀ x ∈ t.items, p.length + x.1.length ≤ 16) →
    Calls Tryd.prog id (#[v, .string ⟨p.toArray⟩] ++ caps) w' fun e w'' => e = .returned (.bool (want p)) ∧ I w'' (L ++ [(p, t)]) ∧ Below w0.heap.size w0 w''
def WalkTo (w0 : World) (F : Fm) (id : Nat) (caps : Array Value) (want : T → Bool) (I : World → List (T × Tr) → Prop) (t : Tr) : Prop :=
  ∀ (w' : World) (L : List (T × Tr)) (p : T) (v : Value), L.length + (t.visits want p).length ≤ 100000 → Below w0.heap.size w0 w' → I w' L → PAt w0 F true t v → Ok t → Nib.fitL p = true → (∀ x ∈ t.items, p.length + x.1.length ≤ 16) →
    Calls Tryd.prog 38 #[v, .string ⟨p.toArray⟩, .func (.func id) #[] caps] w' fun e w'' => e = .returned (.tuple #[]) ∧ I w'' (L ++ t.visits want p) ∧ Below w0.heap.size w0 w''
theorem items_kid {t : Tr} (p : T) (h : ∀ x ∈ t.items, p.length + x.1.length ≤ 16) (i : Fin 16) : ∀ x ∈ (t.kid i).items, (placeT t.kind (p ++ t.pth) i).length + x.1.length ≤ 16 := by
  intro x hx
  cases t with
  | nil => cases hx
  | leaf q v => cases hx
  | ext q u =>
    simp only [Tri.Tr.kid] at hx
    split at hx
    · have := h (q ++ x.1, x.2) (Tri.mem_behind.2 ⟨x.1, hx, rfl⟩)
      simp [placeT, Tri.Tr.kind, Tri.Tr.pth] at this ⊢
      omega
    · cases hx
  | br v k =>
    have := h (hb i :: x.1, x.2) (Tri.mem_br.2 (Or.inr ⟨i, x.1, rfl, hx⟩))
    simp [placeT, Tri.Tr.kind, Tri.Tr.pth] at this ⊢
    omega
theorem pth_len {t : Tr} {p : T} (ho : Ok t) (hn : ¬ t.isNil) (h : ∀ x ∈ t.items, p.length + x.1.length ≤ 16) : p.length + t.pth.length ≤ 16 := by
  have hne : t.items ≠ [] := fun e => hn ((Tri.items_nil ho.canon).1 e)
  obtain ⟨a, l, e⟩ := List.exists_cons_of_ne_nil hne
  have ha : a ∈ t.items := by rw [e]; exact List.mem_cons_self ..
  have h1 := h a ha
  cases t with
  | nil => exact absurd trivial hn
  | leaf q v =>
    obtain rfl := List.mem_singleton.1 ha
    exact h1
  | ext q u =>
    obtain ⟨r, _, e2⟩ := Tri.mem_behind.1 ha
    rw [e2] at h1
    simp [Tri.Tr.pth] at h1 ⊢
    omega
  | br v k =>
    simp only [Tri.Tr.pth, List.length_nil]
    omega
theorem hb_fit (i : Fin 16) : Nib.fitL [hb i] = true := Tri.fit_cons.2 ⟨by rw [Tri.hb_toNat]; have := i.isLt; omega, rfl⟩
theorem place_fit {t : Tr} {p : T} (hf : t.fits) (hp : Nib.fitL p = true) (i : Fin 16) : Nib.fitL (placeT t.kind (p ++ t.pth) i) = true := by
  have h1 : Nib.fitL t.pth = true := by
    cases t with
    | nil => rfl
    | leaf q v => exact hf
    | ext q u => exact hf.1
    | br v k => rfl
  have h2 := Tri.fit_append.2 ⟨hp, h1⟩
  unfold placeT
  split
  · exact Tri.fit_append.2 ⟨h2, hb_fit i⟩
  · exact h2
set_option maxRecDepth 100000 in
theorem walk_nil {w0 : World} {F : Fm} {id : Nat} {caps : Array Value} {want : T → Bool} {I : World → List (T × Tr) → Prop} : WalkTo w0 F id caps want I .nil := by
  intro w' L p v _ hb hI h _ _ _
  have e : v = .pointer none := h
  subst e
  have HI := Lib.hid hI
  have HB := Lib.hid hb
  clear hI hb h
  go_enter Tryd.func38, Tryd.ntmps38
  go_wp2
  refine bodyPost_ret (results_none rfl _ _ _) rfl ⟨rfl, ?_, HB.out⟩
  rw [Tri.Tr.visits, List.append_nil]
  exact HI.out
set_option maxRecDepth 100000 in
set_option maxHeartbeats 2000000 in
theorem walk_some {w0 : World} {F : Fm} {id : Nat} {caps : Array Value} {want : T → Bool} {I : World → List (T × Tr) → Prop} (hV : Visits w0 F id caps want I) {t : Tr} (hn : ¬ t.isNil) (IH : ∀ i, WalkTo w0 F id caps want I (t.kid i)) : WalkTo w0 F id caps want I t := by
  intro w L p v hlen hb hI h ho hf hl
  have HV := Lib.hid (hV.step w L p t v (by rw [visits_kid want p hn, List.length_cons] at hlen; omega) hb hI h hn ho hf hl)
  obtain ⟨g, s', K, rfl, hs, -, hr, hk⟩ := h.row hn
  obtain rfl := hs rfl
  unfold ptr at HV ⊢
  obtain ⟨b, hbw⟩ : ∃ b, want p = b := ⟨_, rfl⟩
  rw [hbw] at HV
  have hcall := hV.call
  have HKEEP := Lib.hid hV.keep
  have HVK := Lib.hid (visits_kid want p hn)
  have HPW : Hid (want p = b) := Lib.hid hbw
  have HB := Lib.hid hb
  have HR := Lib.hid hr
  have HRG : Hid (∀ w', Below w0.heap.size w0 w' → RowP w' g t.kind t.pth t.vl K (if True then t.sum Nd.sumS else [])) := Lib.hid (fun w' hb' => by
    have := hr.below hb'
    simpa using this)
  have HI := Lib.hid (kcl_info K)
  have HKE := Lib.hid (fun (i : Fin 16) w => index_kids K i w)
  have HK := Lib.hid hk
  have hpl := pth_len ho hn hl
  have HPL : Hid (∀ (k : Nat), k ≤ 3 → ∀ (i : Fin 16) w, Calls Tryd.prog 51 #[.int .i64 k, .string ⟨(p ++ t.pth).toArray⟩, .int .i64 i.val] w fun r w' => r = .returned (.string ⟨(placeT k (p ++ t.pth) i).toArray⟩) ∧ Below w.heap.size w w') := Lib.hid (fun k hk i w => place_any k _ i w (by simp; omega) hk)
  have HIH : Hid (∀ (i : Fin 16) (w' : World) (L' : List (T × Tr)), L'.length + ((t.kid i).visits want (placeT t.kind (p ++ t.pth) i)).length ≤ 100000 → Below w0.heap.size w0 w' → I w' L' → Calls Tryd.prog 38 #[K i, .string ⟨(placeT t.kind (p ++ t.pth) i).toArray⟩, .func (.func id) #[] caps] w' fun e w'' => e = .returned (.tuple #[]) ∧ I w'' (L' ++ (t.kid i).visits want (placeT t.kind (p ++ t.pth) i)) ∧ Below w0.heap.size w0 w'') := Lib.hid (fun i w' L' hle hb' hI' =>
    IH i w' L' _ _ hle hb' hI' (hk i) (ho.kid i) (place_fit ho.fits hf i) (items_kid p hl i))
  have hkd : t.kind ≤ 3 := by cases t <;> simp [Tri.Tr.kind]
  obtain ⟨kd, hkd2⟩ : ∃ kd, t.kind = kd := ⟨_, rfl⟩
  obtain ⟨pp, hpp⟩ : ∃ pp, t.pth = pp := ⟨_, rfl⟩
  rw [hkd2, hpp] at HVK HRG HIH
  rw [hpp] at HPL hpl
  rw [hkd2] at hkd
  have HCM := Lib.hid (HPL.out kd hkd)
  have HLEN : Hid (b = true → ∀ k (i : Fin 16), i.val = k → (L ++ [(p, t)] ++ ((List.finRange 16).take k).flatMap fun j => (t.kid j).visits want (placeT kd (p ++ pp) j)).length + ((t.kid i).visits want (placeT kd (p ++ pp) i)).length ≤ 100000) := Lib.hid (fun hb2 k i hi => by
    have h2 := hlen
    rw [HVK.out, hbw, if_pos hb2, List.length_cons] at h2
    have h3 := flat_take (fun j => (t.kid j).visits want (placeT kd (p ++ pp) j)) k i hi
    simp only [List.length_append, List.length_singleton]
    omega)
  obtain ⟨VT, hVT⟩ : ∃ VT, t.visits want p = VT := ⟨_, rfl⟩
  rw [hVT] at HVK ⊢
  have cL : p.length ≤ 1000 := by omega
  have cL2 : pp.length ≤ 1000 := by omega
  have hcm := cat_mk p pp
  clear hlen hV h ho hf hl hr hk hb hI IH hkd2 hpp HPL hVT hbw hpl hn
  cases b with
  | false =>
    go_enter Tryd.func38, Tryd.ntmps38
    go_wp2_with fail
    refine HV.out.mono ?_
    rintro e w1 ⟨rfl, hI1, hb1⟩
    go_wp2
    refine bodyPost_ret (results_none rfl _ _ _) rfl ⟨rfl, ?_, hb1⟩
    rw [HVK.out, HPW.out]
    exact hI1
  | true =>
    replace HLEN := Lib.hid (HLEN.out rfl)
    go_enter Tryd.func38, Tryd.ntmps38
    go_wp2_with fail
    refine HV.out.mono ?_
    rintro e w1 ⟨rfl, hI1, hb1⟩
    have HI1 := Lib.hid hI1
    have HB1 := Lib.hid hb1
    have HRA := Lib.hid (HRG.out w1 hb1).range
    clear hI1 hb1
    go_wp2_with (refine wpList_load_mid (by rfl) _ _ (by rfl) g 3 (by rfl) (kcl K) _ HRA.out Tryd.underlying55 (by rfl) HI.out ?_)
    obtain ⟨KC, hKC⟩ : ∃ KC, kcl K = KC := ⟨_, rfl⟩
    rw [hKC] at HKE HI HRA ⊢
    clear hKC
    go_loopw [21] (fun i wr => ∃ k : Nat, k ≤ 16 ∧ i = .int .i64 k ∧ I wr (L ++ [(p, t)] ++ ((List.finRange 16).take k).flatMap fun j => (t.kid j).visits want (placeT kd (p ++ pp) j)) ∧ Below w0.heap.size w0 wr) (fun i _ => 16 - (intOf i).toNat)
    case atStart => exact ⟨0, Nat.zero_le _, rfl, by rw [List.take_zero, List.flatMap_nil, List.append_nil]; exact HI1.out, HB1.out⟩
    case round =>
      obtain ⟨k, hk, rfl, hIr, hbr⟩ := hrel
      have HIR := Lib.hid hIr
      have HBR := Lib.hid hbr
      by_cases hlt : k < 16
      · obtain ⟨i, hi⟩ : ∃ i : Fin 16, i.val = k := ⟨⟨k, hlt⟩, rfl⟩
        have h1 : (k : Int) < 16 := by omega
        have h0 : (0 : Int) ≤ (k : Int) := by omega
        have n0 := HKE.out i
        rw [hi] at n0
        have HTK : Hid ((List.finRange 16).take (k + 1) = (List.finRange 16).take k ++ [i]) := Lib.hid (by
          have hl : k < (List.finRange 16).length := by simpa using hlt
          rw [List.take_succ_eq_append_getElem hl]
          congr 2
          exact Fin.ext (by simp [hi]))
        have hki := HK.out i
        by_cases hnl : (t.kid i).isNil
        · have e : K i = .pointer none := by rw [Tri.isNil_eq hnl] at hki; exact hki
          rw [e] at n0
          have HZ : Hid ((t.kid i).visits want (placeT kd (p ++ pp) i) = []) := Lib.hid (by rw [Tri.isNil_eq hnl]; rfl)
          clear hki hnl e hIr hbr
          go_wp2
          exact ⟨⟨k + 1, by omega, by go_num, by rw [HTK.out, List.flatMap_append, List.flatMap_singleton, HZ.out, List.append_nil]; exact HIR.out, HBR.out⟩, by simp [intOf]; omega⟩
        · obtain ⟨g6, e⟩ := hki.ptr hnl
          rw [e] at n0
          have HC := Lib.hid (fun (w' : World) hb' hI' => HIH.out i w' _ (HLEN.out k i hi) hb' hI')
          rw [e] at HC
          have HPP := Lib.hid (fun w => HCM.out i w)
          rw [hi] at HPP
          have hrr := HRG.out wr hbr
          have m0 : wr.cell? ⟨g, 0, none⟩ = some (.int .i64 kd) := hrr.kind
          have HG : Hid (∀ w', Below wr.heap.size wr w' → w'.cell? ⟨g, 0, none⟩ = some (.int .i64 kd) ∧ w'.cell? ⟨g, 1, none⟩ = some (.string ⟨pp.toArray⟩)) := Lib.hid (fun w' hb' => by
            have k1 := hrr.below hb'
            exact ⟨k1.kind, k1.path⟩)
          have HGB : Hid (∀ w', Below w0.heap.size w0 w' → w'.cell? ⟨g, 0, none⟩ = some (.int .i64 kd) ∧ w'.cell? ⟨g, 1, none⟩ = some (.string ⟨pp.toArray⟩)) := Lib.hid (fun w' hb' => by
            have k1 := HRG.out w' hb'
            exact ⟨k1.kind, k1.path⟩)
          obtain ⟨PL, hPL⟩ : ∃ PL, placeT kd (p ++ pp) i = PL := ⟨_, rfl⟩
          rw [hPL] at HC HPP
          have HPLE := Lib.hid hPL
          clear hki hnl e hIr hbr hrr m0 hPL hi
          go_upto_region 5 with fail
          have BD : Below w0.heap.size w0 wr.drew := HBR.out.drew
          have hID : I wr.drew (L ++ [(p, t)] ++ ((List.finRange 16).take k).flatMap fun j => (t.kid j).visits want (placeT kd (p ++ pp) j)) := HKEEP.out _ _ _ HIR.out (Below.refl _ _).drew
          have HID := Lib.hid hID
          obtain ⟨c0, c1⟩ := HGB.out _ BD
          clear hID
          go_region_with (first | (go_at_call 51; refine (HPP.out _).mono ?_; rintro e w6 ⟨rfl, hb6⟩; have hI6 := Lib.hid (HKEEP.out _ _ _ HID.out hb6); have hb6' := BD.trans (hb6.mono BD.size)) | (go_at_call 38; refine (HC.out _ ?_ hI6.out).mono ?_; (with_reducible exact hb6'); rintro e w7 ⟨rfl, hI7, hb7⟩; have hI7' := Lib.hid hI7))
          all_goals
            go_wp2
            refine ⟨⟨k + 1, by omega, by go_num, ?_, hb7⟩, by simp [intOf]; omega⟩
            rw [HTK.out, List.flatMap_append, List.flatMap_singleton, HPLE.out, ← List.append_assoc]
            exact hI7'.out
      · have h1 : ¬ ((k : Int) < 16) := by omega
        obtain rfl : k = 16 := by omega
        clear hIr hbr
        go_wp2
        go_end0
        refine ⟨rfl, ?_, HBR.out⟩
        have h2 := HIR.out
        rw [List.take_of_length_le (by simp)] at h2
        rw [HVK.out, HPW.out, if_pos rfl]
        simpa using h2
/-- walk, of any tree. -/
theorem walk_to {w0 : World} {F : Fm} {id : Nat} {caps : Array Value} {want : T → Bool} {I : World → List (T × Tr) → Prop} (hV : Visits w0 F id caps want I) (t : Tr) : WalkTo w0 F id caps want I t := by
  induction t using Tri.kid_ind with
  | h0 => exact walk_nil
  | h t hn IH => exact walk_some hV hn IH
end Go.Proofs.YtjfefphgikncnaaDoor
namespace Go.Proofs.YtjfefphgikncnaaDoor
open Go.RowKit

theorem short_no {p m : List UInt8} (h : ¬ p.length ≤ m.length) : ¬ m.take p.length = p := by
  intro e; have := congrArg List.length e; simp at this; omega

end Go.Proofs.YtjfefphgikncnaaDoor
