/- NodeEncode, NodeRdr, NodeDec, NodeLaw, NibRef, NibRefPack, NibRefUnpack, NibRefU, CodeRef, NodeRefWritten, StrClone, NodeRefBranch, NodeRefFine, DigMath, ShaSumMath, ShaRot, ShaBase, ShaHash, ShaTurn, ShaWiden -/
import Derived.Test.YtkdecmijnojhoaaDoorPk04
import Derived.Deep.RegionWith
import Derived.Test.YtkdecmijnojhoaaDoorPk03
import Derived.Laws.IdiomStrings
import Derived.Deep.MidRow
import Derived.Laws.CopyOwn
import Derived.Test.YtkdecmijnojhoaaDoorPk01
import Derived.WalkSpells
import Derived.WalkLawsBesides
import Derived.Lib.Hide
import Derived.Deep.RegionLaw
import Derived.Deep.QuietTactic
import Derived.BigQuiet
import Derived.Deep.DrawnRows
import Derived.WalkKit
import Derived.Test.YtkdecmijnojhoaaDoorProg
import Derived.Deep.WholeRow
import Derived.Deep.RegionHeld3
import Derived.Deep.Cut
import Derived.Deep.CutRange
namespace Go.Proofs.YtkdecmijnojhoaaDoor
open Go.RowKit
open Go.Proofs.YtkdecmijnojhoaaDoor.Nd (N)
attribute [local go_sem ↓] Go.wp_at_zero Go.wp_at_succ

def load16 (v : Value) : Sem Value := Instr.loadAt 70 v
theorem wp_load16 {P : Program} {dst : Option Tmp} {x : Operand} {ty : TypeId} {pos : String} {after : Array Edge} {guard : Option (Nat × Bool)} {a : Act} {w : World} {K : Act → World → Prop} {Q : Exit → Act → World → Prop} :
    Oper.wp P { dst := dst, op := .load 70 x, type := ty, pos := pos, after := after, guard := guard } a w K Q = Oper.upon P { dst := dst, op := .load 70 x, type := ty, pos := pos, after := after, guard := guard } a K Q (((load16 (a.eval x)).run P w).andThen fun v w' => .ok (.value v) w') := by
  unfold Oper.wp execOp load16
  simp only [Sem.run_bind, Sem.run_pure]
attribute [local go_sem ↓] wp_load16
theorem run_l16 {w : World} {g o : Nat} {L : List (List UInt8)} (hc : w.rangeAt g o (scells L)) (hi : (Tryd.prog.info? 70).map (·.size) = some (scells L).length) : (load16 (.pointer (some ⟨g, o, none⟩))).run Tryd.prog w = .ok (aval L) w :=
  run_loadAt_mid (P := Tryd.prog) w g o 70 (scells L) _ hc Tryd.underlying70 rfl hi
def Nd.encS (n : N) : List UInt8 := if Nd.fine n then Nd.written n else []
def Nd.encC (n : N) : Int := if Nd.fine n then 0 else 80
set_option maxRecDepth 100000 in
set_option maxHeartbeats 2000000 in
theorem nencode_any (n : N) (w : World) (hn : n.kids.length = 16) :
    Calls Tryd.prog 50 #[ndval n] w fun e w' => e = .returned (.tuple #[.string ⟨(Nd.encS n).toArray⟩, .int .i64 (Nd.encC n)]) ∧ Below w.heap.size w w' := by
  obtain ⟨C, hC, HB0, HCE, HI, HI2⟩ := nbox n w hn
  have HCK := Lib.hid (fun w => ncheck_any n w hn)
  unfold Nd.encS Nd.encC
  unfold ndval at HCK ⊢
  rw [hC] at HCK ⊢
  clear hC
  obtain ⟨-, -, -, -, -, cR⟩ := HCE.out _ (Below.refl _ _)
  have HRO := Lib.hid cR
  clear cR
  cases hf : Nd.fine n with
  | false =>
    rw [hf] at HCK
    rw [if_neg (by decide), if_neg (by decide)]
    rw [if_neg (by decide)] at HCK
    clear hf
    go_enter Tryd.func50, Tryd.ntmps50
    go_wp2_with (refine wpList_load_row (by rfl) _ _ (by rfl) w.heap.size (by rfl) _ C _ _ HRO.out Tryd.underlying72 (by rfl) HI.out ?_)
    refine (HCK.out _).mono ?_
    rintro e w1 ⟨rfl, hb1⟩
    go_wp2
    go_ret2
    exact ⟨rfl, bchain HB0.out hb1⟩
  | true =>
    rw [hf] at HCK
    rw [if_pos rfl, if_pos rfl]
    rw [if_pos rfl] at HCK
    obtain ⟨hall, hfit, hp16, hv32, hkd⟩ := Nd.fine_parts hf
    have HTX := Lib.hid (fun w => text_any n.val w (by omega))
    have HPL := Lib.hid (fun w => npacked_any n.path true w hp16 hfit)
    have HPE := Lib.hid (fun w => npacked_any n.path false w hp16 hfit)
    have HTK := Lib.hid (fun w => ntaken_any n.kids w hn)
    have hfl := Nd.all32_flat n.kids hall
    have HJN := Lib.hid (fun g w hg hr => njoin_any n.kids g w hn hg hr (by omega))
    have ht1 := Code.textL_le' (Nib.packL n.path true) 9 (by rw [Nib.packL_length]; omega) (by omega)
    have ht2 := Code.textL_le' (Nib.packL n.path false) 9 (by rw [Nib.packL_length]; omega) (by omega)
    have ht3 := Code.textL_le' n.val 32 hv32 (by omega)
    have hw : Nd.written n = if n.kind = 3 then [3] ++ (([Nd.byteN (Nd.bits8 (n.kids.take 8)), Nd.byteN (Nd.bits8 (n.kids.drop 8))] ++ n.kids.flatten) ++ Code.textL n.val) else if n.kind = 1 then [1] ++ (Code.textL (Nib.packL n.path true) ++ Code.textL n.val) else [2] ++ (Code.textL (Nib.packL n.path false) ++ n.kids.getD 0 []) := by
      unfold Nd.written Nd.branchL
      rcases hkd with k | k | k <;> rw [k] <;> simp
    rw [hw]
    have hz32 : (n.kids.getD 0 []).length ≤ 32 := by
      have := List.all_eq_true.1 hall (n.kids[0]'(by omega)) (List.getElem_mem _)
      rw [List.getD_eq_getElem?_getD, List.getElem?_eq_getElem (by omega)]
      simp only [Bool.or_eq_true, decide_eq_true_eq] at this
      show (n.kids[0]'(by omega)).length ≤ 32
      rcases this with q | q
      · rw [q]; simp
      · omega
    clear hw hall hfit hp16 hv32 hf
    rcases hkd with hk | hk | hk
    · rw [if_neg (by rw [hk]; decide), if_pos hk]
      have HCF : Hid (∀ w', Below (w.alloc (.cells C 72)).heap.size (w.alloc (.cells C 72)) w' → w'.cell? ⟨w.heap.size, 0, none⟩ = some (.int .i64 1) ∧ w'.cell? ⟨w.heap.size, 1, none⟩ = some (.string ⟨n.path.toArray⟩) ∧ w'.cell? ⟨w.heap.size, 2, none⟩ = some (.string ⟨n.val.toArray⟩)) := Lib.hid (fun w' h => by obtain ⟨a, b, c, -⟩ := HCE.out w' h; rw [hk] at a; exact ⟨a, b, c⟩)
      obtain ⟨T1, hT1⟩ : ∃ T, Code.textL (Nib.packL n.path true) = T := ⟨_, rfl⟩
      obtain ⟨T2, hT2⟩ : ∃ T, Code.textL n.val = T := ⟨_, rfl⟩
      rw [hT1] at HPL ht1 ⊢
      rw [hT2] at HTX ht3 ⊢
      have h1 := cat_mk T1 T2
      have h2 := cat_mk [1] (T1 ++ T2)
      have hX1 : (T1 ++ T2).length ≤ 59 := by rw [List.length_append]; omega
      have hY1 : ([1] ++ (T1 ++ T2) : List UInt8).length ≤ 60 := by rw [List.length_append]; simp only [List.length_singleton]; omega
      obtain ⟨X, hX⟩ : ∃ X, T1 ++ T2 = X := ⟨_, rfl⟩
      rw [hX] at h1 h2 hX1 hY1 ⊢
      obtain ⟨Y, hY⟩ : ∃ Y, ([1] ++ X : List UInt8) = Y := ⟨_, rfl⟩
      rw [hY] at h2 hY1 ⊢
      clear hT1 hT2 hX hY HPE HTK HJN hz32 ht2 hfl
      go_enter Tryd.func50, Tryd.ntmps50
      go_wp2_with (refine wpList_load_row (by rfl) _ _ (by rfl) w.heap.size (by rfl) _ C _ _ HRO.out Tryd.underlying72 (by rfl) HI.out ?_)
      refine (HCK.out _).mono ?_
      rintro e w1 ⟨rfl, hb1⟩
      generalize (w.alloc (.cells C 72)) = w0 at *
      have hb2 : Below w0.heap.size w0 (w1.alloc (.cells #[.int .u8 1] 5)) := hb1.alloc hb1.size _
      obtain ⟨c0, c1, c2⟩ := HCF.out _ hb1
      obtain ⟨d0, d1, d2⟩ := HCF.out _ hb2
      have HB1 := Lib.hid hb1
      have HFI : Hid (∀ w', Below w0.heap.size w0 w' → Below w.heap.size w w') := Lib.hid (fun w' h => bchain HB0.out h)
      have HBD := Lib.hid hb2.drew
      have HPL' : Hid (∀ w', Below w0.heap.size w0 w' → Calls Tryd.prog 55 #[.string ⟨n.path.toArray⟩, .bool true] w' fun e w'' => e = .returned (.string ⟨T1.toArray⟩) ∧ Below w0.heap.size w0 w'') := Lib.hid (fun w' h => (HPL.out w').mono fun e w'' q => ⟨q.1, h.trans (q.2.mono h.size)⟩)
      have HTX' : Hid (∀ w', Below w0.heap.size w0 w' → Calls Tryd.prog 56 #[.string ⟨n.val.toArray⟩] w' fun e w'' => e = .returned (.string ⟨T2.toArray⟩) ∧ Below w0.heap.size w0 w'') := Lib.hid (fun w' h => (HTX.out w').mono fun e w'' q => ⟨q.1, h.trans (q.2.mono h.size)⟩)
      have kc := conv_one' w1 1 1 rfl w1.heap.size rfl
      clear hb1 hb2
      go_wp2
      have BD := HBD.out
      go_region_with (first | (go_at_call 55; refine (HPL'.out _ (by with_reducible assumption)).mono ?_; rintro e w2 ⟨rfl, hb2⟩; have e1 := (HCF.out _ hb2).2.1; have e2 := (HCF.out _ hb2).2.2) | (go_at_call 56; refine (HTX'.out _ (by with_reducible assumption)).mono ?_; rintro e w3 ⟨rfl, hb3⟩; have f1 := (HCF.out _ hb3).2.1; have f2 := (HCF.out _ hb3).2.2))
      all_goals
        go_wp2
        go_ret2
        first | exact ⟨rfl, HFI.out _ hb3⟩ | exact ⟨rfl, HFI.out _ hb2⟩
    · rw [if_neg (by rw [hk]; decide), if_neg (by rw [hk]; decide)]
      have HCF : Hid (∀ w', Below (w.alloc (.cells C 72)).heap.size (w.alloc (.cells C 72)) w' → w'.cell? ⟨w.heap.size, 0, none⟩ = some (.int .i64 2) ∧ w'.cell? ⟨w.heap.size, 1, none⟩ = some (.string ⟨n.path.toArray⟩) ∧ w'.cell? ⟨w.heap.size, 3, none⟩ = some (.string ⟨(n.kids.getD 0 []).toArray⟩)) := Lib.hid (fun w' h => by obtain ⟨a, b, -, c, -⟩ := HCE.out w' h; rw [hk] at a; exact ⟨a, b, c⟩)
      obtain ⟨T1, hT1⟩ : ∃ T, Code.textL (Nib.packL n.path false) = T := ⟨_, rfl⟩
      obtain ⟨T2, hT2⟩ : ∃ T, n.kids.getD 0 [] = T := ⟨_, rfl⟩
      rw [hT1] at HPE ht2 ⊢
      rw [hT2] at HCF hz32 ⊢
      have h1 := cat_mk T1 T2
      have h2 := cat_mk [2] (T1 ++ T2)
      have hX1 : (T1 ++ T2).length ≤ 59 := by rw [List.length_append]; omega
      have hY1 : ([2] ++ (T1 ++ T2) : List UInt8).length ≤ 60 := by rw [List.length_append]; simp only [List.length_singleton]; omega
      obtain ⟨X, hX⟩ : ∃ X, T1 ++ T2 = X := ⟨_, rfl⟩
      rw [hX] at h1 h2 hX1 hY1 ⊢
      obtain ⟨Y, hY⟩ : ∃ Y, ([2] ++ X : List UInt8) = Y := ⟨_, rfl⟩
      rw [hY] at h2 hY1 ⊢
      clear hT1 hT2 hX hY HPL HTK HJN HTX ht1 ht3 hfl
      go_enter Tryd.func50, Tryd.ntmps50
      go_wp2_with (refine wpList_load_row (by rfl) _ _ (by rfl) w.heap.size (by rfl) _ C _ _ HRO.out Tryd.underlying72 (by rfl) HI.out ?_)
      refine (HCK.out _).mono ?_
      rintro e w1 ⟨rfl, hb1⟩
      generalize (w.alloc (.cells C 72)) = w0 at *
      have hb2 : Below w0.heap.size w0 (w1.alloc (.cells #[.int .u8 2] 5)) := hb1.alloc hb1.size _
      obtain ⟨c0, c1, c2⟩ := HCF.out _ hb1
      obtain ⟨d0, d1, d2⟩ := HCF.out _ hb2
      have HFI : Hid (∀ w', Below w0.heap.size w0 w' → Below w.heap.size w w') := Lib.hid (fun w' h => bchain HB0.out h)
      have HBD := Lib.hid hb2.drew
      have HPL' : Hid (∀ w', Below w0.heap.size w0 w' → Calls Tryd.prog 55 #[.string ⟨n.path.toArray⟩, .bool false] w' fun e w'' => e = .returned (.string ⟨T1.toArray⟩) ∧ Below w0.heap.size w0 w'') := Lib.hid (fun w' h => (HPE.out w').mono fun e w'' q => ⟨q.1, h.trans (q.2.mono h.size)⟩)
      have kc := conv_one' w1 2 2 rfl w1.heap.size rfl
      clear hb1 hb2
      go_wp2
      have BD := HBD.out
      go_region_with (go_at_call 55; refine (HPL'.out _ (by with_reducible assumption)).mono ?_; rintro e w2 ⟨rfl, hb2⟩; have e1 := (HCF.out _ hb2).2.1; have e2 := (HCF.out _ hb2).2.2)
      all_goals
        go_wp2
        go_ret2
        exact ⟨rfl, HFI.out _ hb2⟩
    · rw [if_pos hk]
      have HCF : Hid (∀ w', Below (w.alloc (.cells C 72)).heap.size (w.alloc (.cells C 72)) w' → w'.cell? ⟨w.heap.size, 0, none⟩ = some (.int .i64 3) ∧ w'.cell? ⟨w.heap.size, 2, none⟩ = some (.string ⟨n.val.toArray⟩) ∧ (load16 (.pointer (some ⟨w.heap.size, 3, none⟩))).run Tryd.prog w' = .ok (aval n.kids) w') := Lib.hid (fun w' h => by obtain ⟨a, -, b, -, c, -⟩ := HCE.out w' h; rw [hk] at a; exact ⟨a, b, run_l16 c HI2.out⟩)
      obtain ⟨AV, hAV⟩ : ∃ v, aval n.kids = v := ⟨_, rfl⟩
      rw [hAV] at HCF HTK
      obtain ⟨T1, hT1⟩ : ∃ T, [Nd.byteN (Nd.bits8 (n.kids.take 8)), Nd.byteN (Nd.bits8 (n.kids.drop 8))] = T := ⟨_, rfl⟩
      obtain ⟨J, hJ⟩ : ∃ T, n.kids.flatten = T := ⟨_, rfl⟩
      obtain ⟨T2, hT2⟩ : ∃ T, Code.textL n.val = T := ⟨_, rfl⟩
      have hT1l : T1.length = 2 := by rw [← hT1]; rfl
      rw [hT1] at HTK ⊢
      rw [hJ] at HJN hfl ⊢
      rw [hT2] at HTX ht3 ⊢
      rw [hn] at hfl
      have h0 := cat_mk T1 J
      have h1 := cat_mk (T1 ++ J) T2
      have h2 := cat_mk [3] (T1 ++ J ++ T2)
      have hZ1 : (T1 ++ J).length ≤ 514 := by rw [List.length_append]; omega
      have hX1 : (T1 ++ J ++ T2).length ≤ 600 := by rw [List.length_append]; omega
      have hY1 : ([3] ++ (T1 ++ J ++ T2) : List UInt8).length ≤ 601 := by rw [List.length_append]; simp only [List.length_singleton]; omega
      obtain ⟨Z, hZ⟩ : ∃ Z, T1 ++ J = Z := ⟨_, rfl⟩
      rw [hZ] at h0 h1 h2 hZ1 hX1 hY1 ⊢
      obtain ⟨X, hX⟩ : ∃ X, Z ++ T2 = X := ⟨_, rfl⟩
      rw [hX] at h1 h2 hX1 hY1 ⊢
      obtain ⟨Y, hY⟩ : ∃ Y, ([3] ++ X : List UInt8) = Y := ⟨_, rfl⟩
      rw [hY] at h2 hY1 ⊢
      have hsz : w.heap.size < (w.alloc (.cells C 72)).heap.size := by simp
      clear hT1 hT2 hJ hZ hX hY HPL HPE ht1 ht2 hz32 hAV
      go_enter Tryd.func50, Tryd.ntmps50
      go_wp2_with (refine wpList_load_row (by rfl) _ _ (by rfl) w.heap.size (by rfl) _ C _ _ HRO.out Tryd.underlying72 (by rfl) HI.out ?_)
      refine (HCK.out _).mono ?_
      rintro e w1 ⟨rfl, hb1⟩
      generalize (w.alloc (.cells C 72)) = w0 at *
      have hb2 : Below w0.heap.size w0 (w1.alloc (.cells #[.int .u8 3] 5)) := hb1.alloc hb1.size _
      obtain ⟨c0, c1, c2⟩ := HCF.out _ hb1
      obtain ⟨d0, d1, d2⟩ := HCF.out _ hb2
      have HFI : Hid (∀ w', Below w0.heap.size w0 w' → Below w.heap.size w w') := Lib.hid (fun w' h => bchain HB0.out h)
      have HBD := Lib.hid hb2.drew
      have HTK' : Hid (∀ w', Below w0.heap.size w0 w' → Calls Tryd.prog 57 #[AV] w' fun e w'' => e = .returned (.string ⟨T1.toArray⟩) ∧ Below w0.heap.size w0 w'') := Lib.hid (fun w' h => (HTK.out w').mono fun e w'' q => ⟨q.1, h.trans (q.2.mono h.size)⟩)
      have HTX' : Hid (∀ w', Below w0.heap.size w0 w' → Calls Tryd.prog 56 #[.string ⟨n.val.toArray⟩] w' fun e w'' => e = .returned (.string ⟨T2.toArray⟩) ∧ Below w0.heap.size w0 w'') := Lib.hid (fun w' h => (HTX.out w').mono fun e w'' q => ⟨q.1, h.trans (q.2.mono h.size)⟩)
      have HJN' : Hid (∀ w', Below w0.heap.size w0 w' → Calls Tryd.prog 58 #[.slice (some ⟨w.heap.size, 3, none⟩) 16 16, .string ⟨#[]⟩] w' fun e w'' => e = .returned (.string ⟨J.toArray⟩) ∧ Below w0.heap.size w0 w'') := Lib.hid (fun w' h => (HJN.out w.heap.size w' (Nat.lt_of_lt_of_le hsz h.size) (HCE.out w' h).2.2.2.2.1).mono fun e w'' q => ⟨q.1, h.trans (q.2.mono h.size)⟩)
      have kc := conv_one' w1 3 3 rfl w1.heap.size rfl
      have e2 : (load16 (.pointer (some ⟨w.heap.size, 3, none⟩))).run Tryd.prog (w1.alloc (.cells #[.int .u8 3] 5)).drew = .ok AV (w1.alloc (.cells #[.int .u8 3] 5)).drew := (HCF.out _ HBD.out).2.2
      clear hb1 hb2 hsz hn
      go_wp2
      have BD := HBD.out
      go_region_with (first | (go_at_call 57; refine (HTK'.out _ (by with_reducible assumption)).mono ?_; rintro e w2 ⟨rfl, hb2⟩; have e1 := (HCF.out _ hb2).2.1; have e2 := (HCF.out _ hb2).2.2) | (go_at_call 58; refine (HJN'.out _ (by with_reducible assumption)).mono ?_; rintro e w3 ⟨rfl, hb3⟩; have f1 := (HCF.out _ hb3).2.1; have f2 := (HCF.out _ hb3).2.2) | (go_at_call 56; refine (HTX'.out _ (by with_reducible assumption)).mono ?_; rintro e w4 ⟨rfl, hb4⟩; have q1 := (HCF.out _ hb4).2.1; have q2 := (HCF.out _ hb4).2.2))
      all_goals
        go_wp2
        go_ret2
        first | exact ⟨rfl, HFI.out _ hb4⟩ | exact ⟨rfl, HFI.out _ hb3⟩ | exact ⟨rfl, HFI.out _ hb2⟩
end Go.Proofs.YtkdecmijnojhoaaDoor
namespace Go.Proofs.YtkdecmijnojhoaaDoor
open Go.RowKit
open Go.Proofs.YtkdecmijnojhoaaDoor.Nd (N)

/-- The sixteen read so far, the others empty. -/
def Nd.part (L : List (List UInt8)) : List (List UInt8) := L ++ List.replicate (16 - L.length) []
theorem Nd.part_len (L : List (List UInt8)) (h : L.length ≤ 16) : (Nd.part L).length = 16 := by
  unfold Nd.part
  rw [List.length_append, List.length_replicate]
  omega
theorem Nd.part_set (L : List (List UInt8)) (x : List UInt8) (h : L.length < 16) : (Nd.part L).set L.length x = Nd.part (L ++ [x]) := by
  unfold Nd.part
  rw [List.set_append_right _ _ (Nat.le_refl _), Nat.sub_self, List.length_append, List.append_assoc, List.length_singleton]
  obtain ⟨j, hj⟩ : ∃ j, 16 - L.length = j + 1 := ⟨16 - L.length - 1, by omega⟩
  rw [hj, show 16 - (L.length + 1) = j by omega, List.replicate_succ]
  rfl
theorem Nd.part_nil (L : List (List UInt8)) (h : L.length < 16) : Nd.part L = Nd.part (L ++ [[]]) := by
  unfold Nd.part
  rw [List.length_append, List.append_assoc, List.length_singleton]
  obtain ⟨j, hj⟩ : ∃ j, 16 - L.length = j + 1 := ⟨16 - L.length - 1, by omega⟩
  rw [hj, show 16 - (L.length + 1) = j by omega, List.replicate_succ]
  rfl
theorem Nd.part_all (L : List (List UInt8)) (h : L.length = 16) : Nd.part L = L := by
  unfold Nd.part
  rw [h]
  simp
theorem Out.setRow {F : Nat → Prop} {a w : World} (h : Out F a w) {q : Nat} (hq : F q) (cs : Array Value) : Out F a (w.setRow q cs) :=
  ⟨h.os, h.tape, h.output, by rw [size_setRow]; exact h.size, fun i hi hf => by
    have hne : q ≠ i := fun e => hf (e ▸ hq)
    refine Eq.trans ?_ (h.block i hi hf)
    simp only [World.setRow, Array.getElem?_modify, if_neg hne]⟩
theorem setRow_at {w : World} {q : Nat} {old cs : Array Value} {t : TypeId} {fr : Nat × Nat} (h : w.heap[q]? = some (.cells old t fr)) : (w.setRow q cs).heap[q]? = some (.cells cs t fr) := by
  simp [World.setRow, Array.getElem?_modify, h]
end Go.Proofs.YtkdecmijnojhoaaDoor
namespace Go.Proofs.YtkdecmijnojhoaaDoor
open Go.RowKit
open Go.Proofs.YtkdecmijnojhoaaDoor.Nd (N)

theorem wpList_build_some {P : Program} {ops : Array Oper} {rest : List Oper} {o : Oper} {a : Act} {w : World} {Q : Exit → Act → World → Prop} (hg : o.guard = none) (t : TypeId) (parts : Array (Nat × Operand)) (ho : o.op = .build t parts)
    (L : List (Nat × Value)) (hL : (parts.map fun (i, x) => (i, a.eval x)).toList = L) (C : Array Value) (hC : P.built t L = some C)
    (h : wpList P ops Q rest (a.put o.dst (.agg C)) w) : wpList P ops Q (o :: rest) a w :=
  wpList_build hg t parts ho (by rw [hL, hC]; rfl) (by rw [hL, hC]; exact h)
theorem Only.two {g q : Nat} {a b : World} (h : Only g a b) : Out (fun j => j = g ∨ j = q) a b := h.out.mono (fun _ _ e => Or.inl e)
theorem NodeAt.setPath {w : World} {g : Nat} {n : N} (h : NodeAt w g n) (p : List UInt8) : NodeAt (w.setCell ⟨g, 1, none⟩ (.string ⟨p.toArray⟩)) g { n with path := p } := by
  have := heap_setCell_same w g 1 _ _ (.string ⟨p.toArray⟩) h
  unfold NodeAt
  rw [this]
  simp [ncl]
theorem NodeAt.setVal {w : World} {g : Nat} {n : N} (h : NodeAt w g n) (v : List UInt8) : NodeAt (w.setCell ⟨g, 2, none⟩ (.string ⟨v.toArray⟩)) g { n with val := v } := by
  have := heap_setCell_same w g 2 _ _ (.string ⟨v.toArray⟩) h
  unfold NodeAt
  rw [this]
  simp [ncl]
theorem NodeAt.setKid {w : World} {g : Nat} {n : N} (h : NodeAt w g n) (i : Nat) (x : List UInt8) : NodeAt (w.setCell ⟨g, 3 + i, none⟩ (.string ⟨x.toArray⟩)) g { n with kids := n.kids.set i x } := by
  have := heap_setCell_same w g (3 + i) _ _ (.string ⟨x.toArray⟩) h
  unfold NodeAt
  rw [this, Nat.add_comm 3 i]
  simp [ncl, scells_set]
theorem NodeAt.free {w : World} {g : Nat} {n : N} (h : NodeAt w g n) (i : Nat) : w.frozen? ⟨g, i, none⟩ = false := frozen_of_row _ _ _ _ _ h
theorem NodeAt.there {w : World} {g : Nat} {n : N} (h : NodeAt w g n) (hn : n.kids.length = 16) : w.there g 3 16 := fun j hj => ⟨by rw [h.kid j (by omega)]; rfl, h.free _⟩
end Go.Proofs.YtkdecmijnojhoaaDoor
namespace Go.Proofs.YtkdecmijnojhoaaDoor
open Go.RowKit
open Go.Proofs.YtkdecmijnojhoaaDoor.Nd (N)

def Nd.bigB (n : N) : Bool := n.kids.any (fun k => decide (100 < k.length)) || (decide (100 < n.path.length) || decide (100 < n.val.length))
theorem Nd.small {n : N} (h : Nd.bigB n = false) : (∀ x ∈ n.kids, x.length ≤ 100) ∧ n.path.length ≤ 100 ∧ n.val.length ≤ 100 := by
  simp only [Nd.bigB, Bool.or_eq_false_iff, decide_eq_false_iff_not, List.any_eq_false, decide_eq_true_eq] at h
  exact ⟨fun x hx => by have := h.1 x hx; omega, by omega, by omega⟩

theorem Nd.written_most (m : N) (hm : m.kids.length = 16) (hf : Nd.fine m = true) : (Nd.written m).length ≤ 700 := by
  obtain ⟨a, b, c, d, e⟩ := Nd.fine_parts hf
  have h1 := Nd.all32_flat m.kids a
  have h2 := Code.textL_le' m.val 32 d (by omega)
  have h3 := Code.textL_le' (Nib.packL m.path (decide (m.kind = 1))) 9 (by rw [Nib.packL_length]; omega) (by omega)
  have hz : (m.kids.getD 0 []).length ≤ 32 := by
    have := List.all_eq_true.1 a (m.kids[0]'(by omega)) (List.getElem_mem _)
    rw [List.getD_eq_getElem?_getD, List.getElem?_eq_getElem (by omega)]
    simp only [Bool.or_eq_true, decide_eq_true_eq] at this
    show (m.kids[0]'(by omega)).length ≤ 32
    rcases this with q | q
    · rw [q]; simp
    · omega
  unfold Nd.written Nd.branchL
  rw [List.length_cons]
  split
  · simp only [List.length_cons, List.length_append]
    omega
  · rw [List.length_append]
    split <;> omega

/-! ### the chapter's examples -/
def Nd.wL : N := ⟨1, [4, 1], [118], Nd.none16⟩
end Go.Proofs.YtkdecmijnojhoaaDoor
namespace Go.Proofs.YtkdecmijnojhoaaDoor
open Go.RowKit

end Go.Proofs.YtkdecmijnojhoaaDoor
namespace Go.Proofs.YtkdecmijnojhoaaDoor
open Go.RowKit

end Go.Proofs.YtkdecmijnojhoaaDoor
namespace Go.Proofs.YtkdecmijnojhoaaDoor
open Go.RowKit

end Go.Proofs.YtkdecmijnojhoaaDoor
namespace Go.Proofs.YtkdecmijnojhoaaDoor
open Go.RowKit

end Go.Proofs.YtkdecmijnojhoaaDoor
namespace Go.Proofs.YtkdecmijnojhoaaDoor
open Go.RowKit

end Go.Proofs.YtkdecmijnojhoaaDoor
namespace Go.Proofs.YtkdecmijnojhoaaDoor
open Go.RowKit
open Go.Proofs.YtkdecmijnojhoaaDoor.Nd (N)

end Go.Proofs.YtkdecmijnojhoaaDoor
namespace Go.Proofs.YtkdecmijnojhoaaDoor
open Go.RowKit

theorem size_list (s : List UInt8) : (⟨s.toArray⟩ : ByteArray).size = s.length := by simp [ByteArray.size]
theorem dclone_any (s : List UInt8) (w : World) (hl : s.length ≤ 140737488351232) :
    Calls Tryd.prog 29 #[.string ⟨s.toArray⟩] w fun e w' => e = .returned (.string ⟨s.toArray⟩) ∧ Below w.heap.size w w' := by
  go_enter Tryd.func29, Tryd.ntmps29
  go_wp2_with fail
  refine (shelf_clone ⟨s.toArray⟩ w (by rw [size_list]; omega)).mono ?_
  rintro e w1 ⟨rfl, hb⟩
  go_wp2
  go_ret
  exact ⟨rfl, hb⟩
end Go.Proofs.YtkdecmijnojhoaaDoor
namespace Go.Proofs.YtkdecmijnojhoaaDoor
open Go.RowKit
open Go.Proofs.YtkdecmijnojhoaaDoor.Nd (N)

theorem Nd.flat_take (l : List (List UInt8)) (k : Nat) (hk : k < l.length) : (l.take (k + 1)).flatten = (l.take k).flatten ++ l[k] := by
  rw [List.take_succ_eq_append_getElem hk, List.flatten_append]
  simp
end Go.Proofs.YtkdecmijnojhoaaDoor
namespace Go.Proofs.YtkdecmijnojhoaaDoor
open Go.RowKit
open Go.Proofs.YtkdecmijnojhoaaDoor.Nd (N)

end Go.Proofs.YtkdecmijnojhoaaDoor
namespace Go.Proofs.YtkdecmijnojhoaaDoor.Dig

/-- A thing that is noted. -/
structure N where
  tag : Int
  text : List UInt8
  dig : List UInt8
theorem N.ext' {a b : N} (h1 : a.tag = b.tag) (h2 : a.text = b.text) (h3 : a.dig = b.dig) : a = b := by
  cases a; cases b; simp_all
instance : DecidableEq N := fun a b =>
  if h : a.tag = b.tag ∧ a.text = b.text ∧ a.dig = b.dig then isTrue (N.ext' h.1 h.2.1 h.2.2) else isFalse (fun e => h (by subst e; exact ⟨rfl, rfl, rfl⟩))
def zero : N := ⟨0, [], []⟩
def isTag (t : Int) : Bool := decide (1 ≤ t) && decide (t ≤ 255)
def putC (L : List N) (n : N) : Int :=
  if isTag n.tag = false then 1 else if n.dig.length ≠ 32 then 3 else if n ∈ L then 0 else if 1024 ≤ L.length then 2 else 0
def taken (L : List N) (n : N) : Prop := isTag n.tag = true ∧ n.dig.length = 32 ∧ n ∉ L ∧ L.length < 1024
instance (L : List N) (n : N) : Decidable (taken L n) := by unfold taken; exact inferInstance
def putL (L : List N) (n : N) : List N := if taken L n then L ++ [n] else L
def find (L : List N) (d : List UInt8) : Option N := L.find? (fun n => decide (n.dig = d))
/-- By a sum the first of the things that has it. -/
structure Firsts (M L : List N) : Prop where
  here : ∀ n ∈ M, find L n.dig = some n
  all : ∀ n ∈ L, ∃ m ∈ M, m.dig = n.dig
theorem find_none {L : List N} {d : List UInt8} : find L d = none ↔ ∀ n ∈ L, n.dig ≠ d := by
  simp [find]
theorem find_snoc (L : List N) (n : N) (d : List UInt8) : find (L ++ [n]) d = (find L d).or (if n.dig = d then some n else none) := by
  simp only [find, List.find?_append, List.find?_cons, List.find?_nil]
  by_cases h : n.dig = d <;> simp [h]
theorem Firsts.nil : Firsts [] [] := ⟨fun _ h => by simp at h, fun _ h => by simp at h⟩
theorem Firsts.lost {M L : List N} (h : Firsts M L) {d : List UInt8} (hn : ∀ m ∈ M, m.dig ≠ d) : find L d = none := by
  rw [find_none]
  intro n hnL e
  obtain ⟨m, hm, hmd⟩ := h.all n hnL
  exact hn m hm (hmd.trans e)
theorem Firsts.new {M L : List N} (h : Firsts M L) {n : N} (hn : ∀ m ∈ M, m.dig ≠ n.dig) : Firsts (M ++ [n]) (L ++ [n]) := by
  have hl := h.lost hn
  constructor
  · intro m hm
    rw [find_snoc]
    rcases List.mem_append.1 hm with hm | hm
    · rw [h.here m hm]; rfl
    · obtain rfl : m = n := by simpa using hm
      rw [hl]; simp
  · intro k hk
    rcases List.mem_append.1 hk with hk | hk
    · obtain ⟨m, hm, e⟩ := h.all k hk
      exact ⟨m, List.mem_append_left _ hm, e⟩
    · exact ⟨n, List.mem_append_right _ (by simp), by obtain rfl : k = n := (by simpa using hk); rfl⟩
theorem Firsts.old {M L : List N} (h : Firsts M L) {n m : N} (hm : m ∈ M) (e : m.dig = n.dig) : Firsts M (L ++ [n]) := by
  constructor
  · intro k hk
    rw [find_snoc, h.here k hk]; rfl
  · intro k hk
    rcases List.mem_append.1 hk with hk | hk
    · exact h.all k hk
    · exact ⟨m, hm, by obtain rfl : k = n := (by simpa using hk); exact e⟩
end Go.Proofs.YtkdecmijnojhoaaDoor.Dig
namespace Go.Proofs.YtkdecmijnojhoaaDoor.Sha
open Go

/-- x turned down by n bits. -/
def rotI (x n : Int) : Int := bits .or .u32 (x * 2 ^ (32 - n).toNat % 4294967296) (x / 2 ^ n.toNat)
/-- The 64 constants. -/
def kTab : List Int := [1116352408, 1899447441, 3049323471, 3921009573, 961987163, 1508970993, 2453635748, 2870763221, 3624381080, 310598401, 607225278, 1426881987, 1925078388, 2162078206, 2614888103, 3248222580, 3835390401, 4022224774, 264347078, 604807628, 770255983, 1249150122, 1555081692, 1996064986, 2554220882, 2821834349, 2952996808, 3210313671, 3336571891, 3584528711, 113926993, 338241895, 666307205, 773529912, 1294757372, 1396182291, 1695183700, 1986661051, 2177026350, 2456956037, 2730485921, 2820302411, 3259730800, 3345764771, 3516065817, 3600352804, 4094571909, 275423344, 430227734, 506948616, 659060556, 883997877, 958139571, 1322822218, 1537002063, 1747873779, 1955562222, 2024104815, 2227730452, 2361852424, 2428436474, 2756734187, 3204031479, 3329325298]
structure St where
  a : Int
  b : Int
  c : Int
  d : Int
  e : Int
  f : Int
  g : Int
  h : Int
def notI (x : Int) : Int := bits .xor .u32 IntKind.u32.max x
def uP (s : St) (k w : Int) : Int :=
  (s.h + bits .xor .u32 (bits .xor .u32 (rotI s.e 6) (rotI s.e 11)) (rotI s.e 25) + bits .xor .u32 (bits .and .u32 s.e s.f) (bits .and .u32 (notI s.e) s.g) + k + w) % 4294967296
def vP (s : St) : Int :=
  (bits .xor .u32 (bits .xor .u32 (rotI s.a 2) (rotI s.a 13)) (rotI s.a 22) + bits .xor .u32 (bits .xor .u32 (bits .and .u32 s.a s.b) (bits .and .u32 s.a s.c)) (bits .and .u32 s.b s.c)) % 4294967296
def step (s : St) (k w : Int) : St := ⟨(uP s k w + vP s) % 4294967296, s.a, s.b, s.c, (s.d + uP s k w) % 4294967296, s.e, s.f, s.g⟩
def rounds (s : St) (W : List Int) : Nat → St
  | 0 => s
  | i + 1 => step (rounds s W i) (kTab.getD i 0) (W.getD i 0)
def St.list (s : St) : List Int := [s.a, s.b, s.c, s.d, s.e, s.f, s.g, s.h]
/-- What the eight words are behind all 64 of W. -/
def turnP (s : St) (W : List Int) : St := rounds s W 64
/-- The word of four bytes, the highest first. -/
def word4 (a b c d : UInt8) : Int := bits .or .u32 (bits .or .u32 (bits .or .u32 ((a.toNat : Int) * 16777216) ((b.toNat : Int) * 65536)) ((c.toNat : Int) * 256)) (d.toNat : Int)
/-- The block's words, 16 of them, as they are laid one by one. -/
def fill (b : List UInt8) : Nat → List Int
  | 0 => List.replicate 64 0
  | k + 1 => (fill b k).set k (word4 (b.getD (4 * k) 0) (b.getD (4 * k + 1) 0) (b.getD (4 * k + 2) 0) (b.getD (4 * k + 3) 0))
def sP (x : Int) : Int := bits .xor .u32 (bits .xor .u32 (rotI x 7) (rotI x 18)) (x / 8)
def tP (y : Int) : Int := bits .xor .u32 (bits .xor .u32 (rotI y 17) (rotI y 19)) (y / 1024)
def more (L : List Int) (n : Nat) : Int := (L.getD (n - 16) 0 + sP (L.getD (n - 15) 0) + L.getD (n - 7) 0 + tP (L.getD (n - 2) 0)) % 4294967296
/-- The further words, up to w(63). -/
def ext (L : List Int) : Nat → List Int
  | 0 => L
  | k + 1 => (ext L k).set (16 + k) (more (ext L k) (16 + k))
def widenP (b : List UInt8) : List Int := ext (fill b 16) 48
def addTo (H T : List Int) : Nat → List Int
  | 0 => H
  | k + 1 => (addTo H T k).set k (((addTo H T k).getD k 0 + T.getD k 0) % 4294967296)
def addP (s t : St) : St := ⟨(s.a + t.a) % 4294967296, (s.b + t.b) % 4294967296, (s.c + t.c) % 4294967296, (s.d + t.d) % 4294967296, (s.e + t.e) % 4294967296, (s.f + t.f) % 4294967296, (s.g + t.g) % 4294967296, (s.h + t.h) % 4294967296⟩
/-- What the words s are behind the block b. -/
def blockP (s : St) (b : List UInt8) : St := addP s (turnP s (widenP b))
theorem addTo_length (H T : List Int) (k : Nat) : (addTo H T k).length = H.length := by
  induction k with
  | zero => rfl
  | succ k ih => simp [addTo, ih]
/-- The first words. -/
def first : St := ⟨1779033703, 3144134277, 1013904242, 2773480762, 1359893119, 2600822924, 528734635, 1541459225⟩
/-- The byte of a number. -/
def byteOf (z : Int) : UInt8 := UInt8.ofNat (z % 256).toNat
theorem byteOf_toNat (z : Int) : ((byteOf z).toNat : Int) = z % 256 := by
  have h0 := Int.emod_nonneg z (show (256 : Int) ≠ 0 by decide)
  have h1 := Int.emod_lt_of_pos z (show (0 : Int) < 256 by decide)
  simp only [byteOf, UInt8.toNat_ofNat']
  omega
/-- The words' bytes, as they are laid four at a time. -/
def joinFill (L : List Int) : Nat → List UInt8
  | 0 => List.replicate 32 0
  | k + 1 => ((((joinFill L k).set (4 * k) (byteOf (L.getD k 0 / 16777216))).set (4 * k + 1) (byteOf (L.getD k 0 / 65536))).set (4 * k + 2) (byteOf (L.getD k 0 / 256))).set (4 * k + 3) (byteOf (L.getD k 0))
theorem joinFill_length (L : List Int) (k : Nat) : (joinFill L k).length = 32 := by
  induction k with
  | zero => simp [joinFill]
  | succ k ih => simp [joinFill, ih]
def joinP (s : St) : List UInt8 := joinFill s.list 8
/-- How many bytes stand before the length in what fills a text of n bytes. -/
def padN (n : Nat) : Nat := 1 + (119 - n % 64) % 64
def tailFill (n : Nat) : Nat → List UInt8
  | 0 => (List.replicate 72 0).set 0 128
  | k + 1 => (tailFill n k).set (padN n + k) (byteOf ((n : Int) * 8 / 2 ^ (8 * (7 - k))))
theorem tailFill_length (n k : Nat) : (tailFill n k).length = 72 := by
  induction k with
  | zero => simp [tailFill]
  | succ k ih => simp [tailFill, ih]
/-- What fills a text of n bytes up to whole blocks. -/
def tailP (n : Nat) : List UInt8 := (tailFill n 8).take (padN n + 8)
theorem tailP_length (n : Nat) : (tailP n).length = padN n + 8 := by
  simp only [tailP, List.length_take, tailFill_length, padN]
  omega
/-- The words behind the first k blocks of the text t. -/
def absorb (t : List UInt8) : Nat → St
  | 0 => first
  | k + 1 => blockP (absorb t k) ((t.drop (64 * k)).take 64)
theorem absorb_append (t u : List UInt8) (k : Nat) (h : 64 * k ≤ t.length) : absorb (t ++ u) k = absorb t k := by
  induction k with
  | zero => rfl
  | succ k ih =>
    simp only [absorb]
    rw [ih (by omega), List.drop_append_of_le_length (by omega), List.take_append_of_le_length (by rw [List.length_drop]; omega)]
/-- The words behind all whole blocks of the text, and what is no whole block. -/
def wordsP (t : List UInt8) : St := absorb t (t.length / 64)
def restP (t : List UInt8) : List UInt8 := t.drop (64 * (t.length / 64))
theorem words_same (t u : List UInt8) (h : t.length % 64 + u.length < 64) : wordsP (t ++ u) = wordsP t ∧ restP (t ++ u) = restP t ++ u := by
  have e : (t ++ u).length / 64 = t.length / 64 := by rw [List.length_append]; omega
  refine ⟨?_, ?_⟩
  · unfold wordsP
    rw [e, absorb_append t u _ (by omega)]
  · unfold restP
    rw [e, List.drop_append_of_le_length (by omega)]
theorem words_next (t u : List UInt8) (h : t.length % 64 + u.length = 64) : wordsP (t ++ u) = blockP (wordsP t) (restP t ++ u) ∧ restP (t ++ u) = [] := by
  have e : (t ++ u).length / 64 = t.length / 64 + 1 := by rw [List.length_append]; omega
  refine ⟨?_, ?_⟩
  · unfold wordsP restP
    rw [e, absorb, absorb_append t u _ (by omega), List.drop_append_of_le_length (by omega), List.take_of_length_le (by rw [List.length_append, List.length_drop]; omega)]
  · unfold restP
    rw [e]
    exact List.drop_eq_nil_of_le (by rw [List.length_append]; omega)
/-- The text's sum. -/
def sumP (t : List UInt8) : List UInt8 := joinP (wordsP (t ++ tailP t.length))
theorem sumP_length (t : List UInt8) : (sumP t).length = 32 := joinFill_length _ _
end Go.Proofs.YtkdecmijnojhoaaDoor.Sha
namespace Go.Proofs.YtkdecmijnojhoaaDoor.Sha
open Go

end Go.Proofs.YtkdecmijnojhoaaDoor.Sha
namespace Go.Proofs.YtkdecmijnojhoaaDoor.Sha
open Go

theorem set8 (A B : List UInt8) (b0 b1 b2 b3 b4 b5 b6 b7 : UInt8) (n : Nat) (hA : A.length = n) :
    ((((((((A ++ 0 :: 0 :: 0 :: 0 :: 0 :: 0 :: 0 :: 0 :: B).set (n + 0) b0).set (n + 1) b1).set (n + 2) b2).set (n + 3) b3).set (n + 4) b4).set (n + 5) b5).set (n + 6) b6).set (n + 7) b7 = (A ++ [b0, b1, b2, b3, b4, b5, b6, b7]) ++ B := by
  subst hA
  simp
end Go.Proofs.YtkdecmijnojhoaaDoor.Sha
namespace Go.Proofs.YtkdecmijnojhoaaDoor
open Go.RowKit

theorem and31_fin : ∀ n : Fin 32, 0 < n.val → bits .and .u64 (IntKind.u64.wrap (-(n.val : Int))) 31 = 32 - (n.val : Int) := by decide +kernel
theorem and31 (n : Int) (h0 : 1 ≤ n) (h1 : n ≤ 31) : bits .and .u64 (IntKind.u64.wrap (-n)) 31 = 32 - n := by
  have := and31_fin ⟨n.toNat, by omega⟩ (by simp; omega)
  simpa [Int.toNat_of_nonneg (show 0 ≤ n by omega)] using this
set_option maxHeartbeats 400000 in
theorem rotl_any (x n : Int) (w : World) (h0 : 1 ≤ n) (h1 : n ≤ 31) :
    Calls Tryd.prog 86 #[.int .u32 x, .int .i64 (-n)] w fun e w' => e = .returned (.int .u32 (Sha.rotI x n)) ∧ w' = w := by
  have hk := and31 n h0 h1
  have e : (32 - (32 - n)).toNat = n.toNat := by omega
  go_enter Tryd.func86, Tryd.ntmps86
  go_wp2
  go_ret
  refine ⟨?_, rfl⟩
  simp [Sha.rotI]
set_option maxHeartbeats 400000 in
theorem rot_any (x n : Int) (w : World) (h0 : 1 ≤ n) (h1 : n ≤ 31) :
    Calls Tryd.prog 85 #[.int .u32 x, .int .i64 n] w fun e w' => e = .returned (.int .u32 (Sha.rotI x n)) ∧ w' = w := by
  go_enter Tryd.func85, Tryd.ntmps85
  go_wp2_with fail
  refine (rotl_any x n _ h0 h1).mono ?_
  rintro e w1 ⟨rfl, rfl⟩
  go_wp2
  go_ret
  exact ⟨rfl, rfl⟩
end Go.Proofs.YtkdecmijnojhoaaDoor
namespace Go.Proofs.YtkdecmijnojhoaaDoor
open Go.RowKit

/-- The words as cells. -/
def u32s (l : List Int) : Array Value := (l.map fun x => Value.int .u32 x).toArray
theorem u32s_at (l : List Int) (j : Nat) (hj : j < l.length) : (u32s l)[j]? = some (.int .u32 (l.getD j 0)) := by
  simp [u32s, hj]
theorem u32s_size (l : List Int) : (u32s l).size = l.length := by simp [u32s]
theorem u32s_one (l : List Int) : (u32s l).all (·.oneCell') = true := by
  simp only [u32s, List.all_toArray, List.all_map, List.all_eq_true]
  intro x _
  rfl
theorem u32s_set (l : List Int) (j : Nat) (x : Int) : (u32s l).setIfInBounds j (.int .u32 x) = u32s (l.set j x) := by
  simp [u32s, List.map_set]
/-- The bytes as cells. -/
def u8s (l : List UInt8) : Array Value := (cellsL l).toArray
theorem u8s_at (l : List UInt8) (j : Nat) (hj : j < l.length) : (u8s l)[j]? = some (.int .u8 ((l.getD j 0).toNat : Int)) := by
  simp [u8s, cellsL, hj]
theorem u8s_set (l : List UInt8) (j : Nat) (x : UInt8) : (u8s l).setIfInBounds j (.int .u8 (x.toNat : Int)) = u8s (l.set j x) := by
  simp [u8s, cellsL, List.map_set]
/-- The table of constants lies where the program has it. -/
def Tab (w : World) : Prop := ∀ i : Nat, i < 64 → w.cell? ⟨1, i, none⟩ = some (.int .u32 (Sha.kTab.getD i 0))
theorem Tab.below {w w' : World} (h : Tab w) (hb : Below w.heap.size w w') : Tab w' := fun i hi => (hb.cell (block_lt_of_cell (h i hi))).trans (h i hi)
theorem Tab.pos {w : World} (h : Tab w) : 1 < w.heap.size := block_lt_of_cell (h 0 (by omega))
theorem wrap_small (n : Int) (h0 : 0 ≤ n) (h1 : n ≤ 1000000) : IntKind.i64.wrap n = n := by
  unfold IntKind.wrap
  simp [IntKind.signed, IntKind.bits]
  omega

end Go.Proofs.YtkdecmijnojhoaaDoor
namespace Go.Proofs.YtkdecmijnojhoaaDoor
open Go.RowKit

def words8 (s : Sha.St) : List Value := [.int .u32 s.a, .int .u32 s.b, .int .u32 s.c, .int .u32 s.d, .int .u32 s.e, .int .u32 s.f, .int .u32 s.g, .int .u32 s.h]
/-- A hash's cells: the words, the open block, the count. -/
def hashL (s : Sha.St) (o : List UInt8) (n : Nat) : List Value := words8 s ++ (cellsL o ++ [.int .u64 (n : Int)])
theorem hashL_length (s : Sha.St) (o : List UInt8) (n : Nat) (h : o.length = 64) : (hashL s o n).length = 73 := by
  simp [hashL, words8, cellsL_length, h]
theorem hashL_count (s : Sha.St) (o : List UInt8) (n : Nat) (h : o.length = 64) : (hashL s o n).toArray[72]? = some (.int .u64 (n : Int)) := by
  rw [List.getElem?_toArray]
  unfold hashL
  rw [List.getElem?_append_right (by simp [words8]), List.getElem?_append_right (by simp [words8, cellsL_length, h])]
  simp [words8, cellsL_length, h]
theorem hashL_setCount (s : Sha.St) (o : List UInt8) (n m : Nat) (h : o.length = 64) : (hashL s o n).toArray.setIfInBounds 72 (.int .u64 (m : Int)) = (hashL s o m).toArray := by
  rw [List.setIfInBounds_toArray]
  unfold hashL
  rw [List.set_append_right _ _ (by simp [words8]), List.set_append_right _ _ (by simp [words8, cellsL_length, h])]
  simp [words8, cellsL_length, h]
theorem hashL_open (s : Sha.St) (o : List UInt8) (n j : Nat) (hj : j < o.length) : (hashL s o n).toArray[8 + j]? = some (.int .u8 ((o.getD j 0).toNat : Int)) := by
  rw [List.getElem?_toArray]
  unfold hashL
  rw [List.getElem?_append_right (by simp [words8]), List.getElem?_append_left (by simp [words8, cellsL_length, hj])]
  simp [words8, cellsL, hj]
theorem hashL_set8 (s t : Sha.St) (o : List UInt8) (n : Nat) :
    ((((((((hashL s o n).toArray.setIfInBounds 0 (.int .u32 t.a)).setIfInBounds 1 (.int .u32 t.b)).setIfInBounds 2 (.int .u32 t.c)).setIfInBounds 3 (.int .u32 t.d)).setIfInBounds 4 (.int .u32 t.e)).setIfInBounds 5 (.int .u32 t.f)).setIfInBounds 6 (.int .u32 t.g)).setIfInBounds 7 (.int .u32 t.h) = (hashL t o n).toArray := by
  simp [hashL, words8]
/-- Bytes laid over the open block. -/
theorem hashL_copy (s : Sha.St) (o x : List UInt8) (n m : Nat) (ho : o.length = 64) (hm : m + x.length ≤ 64) :
    (hashL s o n).take (8 + m) ++ cellsL x ++ (hashL s o n).drop (8 + m + x.length) = hashL s (o.take m ++ x ++ o.drop (m + x.length)) n := by
  have h8 : (words8 s).length = 8 := rfl
  have hc : (cellsL o).length = 64 := by rw [cellsL_length, ho]
  unfold hashL
  rw [List.take_append, List.drop_append, h8, List.take_of_length_le (by omega), List.drop_eq_nil_of_le (by omega), show 8 + m - 8 = m by omega, show 8 + m + x.length - 8 = m + x.length by omega,
    List.take_append_of_le_length (by omega), List.drop_append_of_le_length (by omega)]
  simp [cellsL]

theorem Only.setRow {g : Nat} {a w : World} (h : Only g a w) (cs : Array Value) : Only g a (w.setRow g cs) :=
  ⟨h.os, h.tape, h.output, by have := h.size; simpa using this, fun i hi hg => (setRow_other w g i cs hg).trans (h.block i hi hg)⟩
theorem Tab.only {w w' : World} {g : Nat} (h : Tab w) (ho : Only g w w') (hg : 1 < g) : Tab w' := fun i hi => ho.cell (h i hi) (by dsimp only; omega)

/-- The hash in block g has the text t. -/
def HashIs (w : World) (g : Nat) (t : List UInt8) : Prop :=
  ∃ o : List UInt8, o.length = 64 ∧ o.take (t.length % 64) = Sha.restP t ∧ w.heap[g]? = some (.cells (hashL (Sha.wordsP t) o t.length).toArray 109 (0, 0))
theorem HashIs.lt {w : World} {g : Nat} {t : List UInt8} (h : HashIs w g t) : g < w.heap.size := by
  obtain ⟨_, _, _, hg⟩ := h
  exact lt_of_heap hg
theorem HashIs.below {w w' : World} {g : Nat} {t : List UInt8} (h : HashIs w g t) (hb : Below w.heap.size w w') : HashIs w' g t := by
  have hlt := h.lt
  obtain ⟨o, h1, h2, hg⟩ := h
  exact ⟨o, h1, h2, (hb.block g hlt).trans hg⟩
theorem HashIs.only {w w' : World} {g g' : Nat} {t : List UInt8} (h : HashIs w g t) (hb : Only g' w w') (hn : g ≠ g') : HashIs w' g t := by
  have hlt := h.lt
  obtain ⟨o, h1, h2, hg⟩ := h
  exact ⟨o, h1, h2, (hb.block g hlt hn).trans hg⟩

/-- copy(dst, s), s a string, dst in row g from place o on: as many bytes as there are, or as fit. -/
theorem run_copy_part {P : Program} (w : World) (dT sT ty elem : TypeId) (g o dLen dCap n : Nat) (l : List UInt8) (cur : Array Value) (t : TypeId)
    (hu : P.underlying dT = some (.slice elem)) (hs : (P.info? elem).map (·.size) = some 1) (hg : w.heap[g]? = some (.cells cur t (0, 0))) (hn : n = Nat.min l.length dLen) (hfit : o + n ≤ cur.size) :
    (Builtin.copy_ #[dT, sT] ty #[.slice (some ⟨g, o, none⟩) dLen dCap, .string ⟨l.toArray⟩]).run P w =
      .ok (goInt n) (w.setRow g (cur.toList.take o ++ cellsL (l.take n) ++ cur.toList.drop (o + n)).toArray) := by
  have hnl : n ≤ l.length := by rw [hn]; exact Nat.min_le_left _ _
  have hlen : (cellsL (l.take n)).length = n := by rw [cellsL_length, List.length_take]; omega
  have hst := run_storeCells_at P g o t (cellsL (l.take n)) 0 cur w hg (by rw [hlen]; simpa using hfit) (by
    intro v hv
    simp only [cellsL, List.mem_map] at hv
    obtain ⟨x, _, rfl⟩ := hv
    rfl)
  rw [hlen] at hst
  simp only [Nat.add_zero] at hst
  have htk : List.take n (List.map (fun b : UInt8 => Value.int IntKind.u8 (b.toNat : Int)) l) = cellsL (l.take n) := by simp [cellsL, List.map_take]
  have hsz : (⟨l.toArray⟩ : ByteArray).size = l.length := by simp [ByteArray.size]
  cases hq : P.info? elem with
  | none => simp [hq] at hs
  | some i =>
    simp [Builtin.copy_, run_underlying hu, Builtin.lenOf, Builtin.firstCells, sizeOf, typeInfo, hq, hsz, ← hn]
    rw [htk, hst]
    simp [Result.andThen]
theorem step_copy_part {P : Program} {ops : Array Oper} {o : Oper} {a : Act} {w : World} {K : Act → World → Prop} {Q : Exit → Act → World → Prop} {E : Prop} (hgd : o.guard = none) (d s : Operand) (dT sT : TypeId)
    (ho : o.op = .call { callee := .builtin .copy, args := #[d, s], argTypes := #[dT, sT] }) (elem : TypeId) (hu : P.underlying dT = some (.slice elem)) (hsz : (P.info? elem).map (·.size) = some 1)
    (g off dLen dCap n : Nat) (l : List UInt8) (hd : a.eval d = .slice (some ⟨g, off, none⟩) dLen dCap) (hs : a.eval s = .string ⟨l.toArray⟩)
    (cur : Array Value) (t : TypeId) (hg : w.heap[g]? = some (.cells cur t (0, 0))) (hn : n = Nat.min l.length dLen) (hfit : off + n ≤ cur.size)
    (h : ∀ w', Hid (w'.heap[g]? = some (.cells (cur.toList.take off ++ cellsL (l.take n) ++ cur.toList.drop (off + n)).toArray t (0, 0))) → Hid (Only g w w') → K (a.put o.dst (goInt n)) w') :
    if Region.wanted o (yielded ops a.tmps) = true then Oper.wp P o a w K Q else E := by
  have hw : Region.wanted o (yielded ops a.tmps) = true := by simp [Region.wanted, hgd]
  rw [if_pos hw]
  have hrun := run_copy_part (P := P) w dT sT o.type elem g off dLen dCap n l cur t hu hsz hg hn hfit
  unfold Oper.wp
  simp [execOp, ho, resolve, invoke, builtin, hd, hs, hrun, Result.andThen]
  exact h _ (Lib.hid (by rw [List.append_assoc]; exact setRow_heap w g _ _ t _ hg)) (Lib.hid ((Only.refl g w).setRow _))
end Go.Proofs.YtkdecmijnojhoaaDoor
namespace Go.Proofs.YtkdecmijnojhoaaDoor
open Go.RowKit

theorem Tryd.info8 : (Tryd.prog.info? 104).map (·.size) = some 8 := by kernel_rfl

set_option maxRecDepth 100000 in
set_option maxHeartbeats 1000000 in
theorem turn_any (s : Sha.St) (W : List Int) (w : World) (hW : W.length = 64) (hK : Tab w) :
    Calls Tryd.prog 83 #[.agg (u32s s.list), .agg (u32s W)] w fun e w' => e = .returned (.agg (u32s (Sha.turnP s W).list)) ∧ Below w.heap.size w w' := by
  obtain ⟨s0, hs0⟩ : ∃ s0, s = s0 := ⟨_, rfl⟩
  obtain ⟨a, b, c, d, e, f, g, h⟩ := s
  obtain ⟨ws, hws⟩ : ∃ ws, u32s W = ws := ⟨_, rfl⟩
  rw [hws, hs0]
  have HS := Lib.hid hs0
  have HWS := Lib.hid hws
  have HK := Lib.hid hK
  have HLW := Lib.hid hW
  rw [← hs0]
  simp only [Sha.St.list, u32s, List.map_cons, List.map_nil]
  clear hws hK hs0 hW
  go_enter Tryd.func83, Tryd.ntmps83
  go_wp2
  go_quiet (fail)
  go_wp2
  go_quiet (fail)
  go_wp2
  go_loopw [5, 6, 7, 8, 9, 10, 11, 12, 32] (fun xa xb xc xd xe xf xg xh i wr => ∃ k : Nat, k ≤ 64 ∧ i = .int .i64 k ∧ xa = .int .u32 (Sha.rounds s0 W k).a ∧ xb = .int .u32 (Sha.rounds s0 W k).b ∧ xc = .int .u32 (Sha.rounds s0 W k).c ∧ xd = .int .u32 (Sha.rounds s0 W k).d ∧ xe = .int .u32 (Sha.rounds s0 W k).e ∧ xf = .int .u32 (Sha.rounds s0 W k).f ∧ xg = .int .u32 (Sha.rounds s0 W k).g ∧ xh = .int .u32 (Sha.rounds s0 W k).h ∧
      Below w.heap.size w wr ∧ wr.heap[w.heap.size + 1]? = some (.cells ws 122 (0, 0)) ∧ wr.heap[w.heap.size + 1 + 1]? = some (.cells (u32s (List.replicate 8 0)) 104 (0, 0))) (fun _ _ _ _ _ _ _ _ i _ => 64 - (intOf i).toNat)
  case atStart =>
    refine ⟨0, by omega, rfl, by rw [← HS.out]; rfl, by rw [← HS.out]; rfl, by rw [← HS.out]; rfl, by rw [← HS.out]; rfl, by rw [← HS.out]; rfl, by rw [← HS.out]; rfl, by rw [← HS.out]; rfl, by rw [← HS.out]; rfl, ?_, ?_, ?_⟩
    · exact bel_drewN (bel_drewN ((((Below.refl _ w).alloc (Nat.le_refl _) _).alloc (by simp) _).alloc (by simp; omega) _) _) _
    · exact heap_old_at _ (heap_new_at _ _ _ (by simp))
    · exact heap_new_at _ _ _ (by simp)
  case round =>
    obtain ⟨k, hk, rfl, rfl, rfl, rfl, rfl, rfl, rfl, rfl, rfl, hb, hg1, hg2⟩ := hrel
    have HG1 := Lib.hid hg1
    have HG2 := Lib.hid hg2
    have HBe := Lib.hid hb
    have hsz : w.heap.size + 1 < wr.heap.size := lt_of_heap hg1
    by_cases hlt : k < 64
    · obtain ⟨S, hS⟩ : ∃ S, Sha.rounds s0 W k = S := ⟨_, rfl⟩
      have hnext : Sha.rounds s0 W (k + 1) = Sha.step S (Sha.kTab.getD k 0) (W.getD k 0) := by rw [← hS]; rfl
      have hcK : wr.cell? ⟨1, k, none⟩ = some (.int .u32 (Sha.kTab.getD k 0)) := (HK.out.below hb) k hlt
      have hcW : wr.cell? ⟨w.heap.size + 1, k, none⟩ = some (.int .u32 (W.getD k 0)) := by
        rw [cell_of_row wr _ k ws _ _ hg1, ← HWS.out]; exact u32s_at W k (by rw [HLW.out]; exact hlt)
      obtain ⟨kk, hkk⟩ : ∃ kk, Sha.kTab.getD k 0 = kk := ⟨_, rfl⟩
      obtain ⟨ww, hww⟩ : ∃ ww, W.getD k 0 = ww := ⟨_, rfl⟩
      rw [hkk, hww] at hnext
      rw [hkk] at hcK
      rw [hww] at hcW
      rw [hS]
      have HN := Lib.hid hnext
      clear hnext hkk hww hS hb hg1 hg2
      obtain ⟨a, b, c, d, e, f, g, h⟩ := S
      have h1 : (k : Int) < 64 := by omega
      dsimp only
      go_wp2
      go_quiet ((go_at_call 85; exact Calls.quiet_of_same (rot_any _ _ _ (by omega) (by omega))))
      go_wp2_with fail
      refine (rot_any a 2 _ (by omega) (by omega)).mono ?_
      rintro _ _ ⟨rfl, rfl⟩
      go_wp2_with fail
      refine (rot_any a 13 _ (by omega) (by omega)).mono ?_
      rintro _ _ ⟨rfl, rfl⟩
      go_wp2_with fail
      refine (rot_any a 22 _ (by omega) (by omega)).mono ?_
      rintro _ _ ⟨rfl, rfl⟩
      go_wp2
      go_roundw
      case rel =>
        refine ⟨k + 1, by omega, by go_num, ?_, ?_, ?_, ?_, ?_, ?_, ?_, ?_, bel_drewN HBe.out _, HG1.out, HG2.out⟩ <;> rw [HN.out] <;> simp only [Sha.step, Sha.uP, Sha.vP]
        all_goals rfl
      case measure => simp [intOf]; omega
    · obtain rfl : k = 64 := by omega
      have hno : ¬ ((64 : Nat) : Int) < 64 := by omega
      obtain ⟨S, hS⟩ : ∃ S, Sha.rounds s0 W 64 = S := ⟨_, rfl⟩
      have HS64 := Lib.hid hS
      rw [hS]
      clear hS hg1 hg2 hb
      obtain ⟨a, b, c, d, e, f, g, h⟩ := S
      dsimp only
      go_wp2_with (refine wpList_store_row (by rfl) _ _ _ (by rfl) (w.heap.size + 1 + 1) (u32s [a, b, c, d, e, f, g, h]) (by rfl) (by rfl) _ _ HG2.out Tryd.info8 (by rfl) (u32s_one _) ?_)
      refine bodyPost_ret (v := .agg (u32s [a, b, c, d, e, f, g, h])) (results_cell_row rfl _ _ (w.heap.size + 1 + 1) _ _ _ _ rfl (setRow_heap _ _ _ _ _ _ HG2.out) Tryd.underlying104 rfl Tryd.info8) rfl ⟨?_, below_setRow HBe.out (by omega) _⟩
      unfold Sha.turnP
      rw [HS.out, HS64.out]
      rfl
end Go.Proofs.YtkdecmijnojhoaaDoor
namespace Go.Proofs.YtkdecmijnojhoaaDoor
open Go.RowKit
attribute [local go_sem ↓] Go.wp_at_zero Go.wp_at_succ

theorem Tryd.info64 : (Tryd.prog.info? 122).map (·.size) = some 64 := by kernel_rfl
theorem Sha.fill_length (b : List UInt8) (k : Nat) : (Sha.fill b k).length = 64 := by
  induction k with
  | zero => simp [Sha.fill]
  | succ k ih => simp [Sha.fill, ih]

theorem Sha.ext_length (L : List Int) (k : Nat) : (Sha.ext L k).length = L.length := by
  induction k with
  | zero => rfl
  | succ k ih => simp [Sha.ext, ih]

set_option maxRecDepth 8000 in
set_option maxHeartbeats 4000000 in
theorem widen_any (b : List UInt8) (w : World) (hb : b.length = 64) :
    Calls Tryd.prog 84 #[.agg (u8s b)] w fun e w' => e = .returned (.agg (u32s (Sha.widenP b))) ∧ Below w.heap.size w w' := by
  obtain ⟨bs, hbs⟩ : ∃ bs, u8s b = bs := ⟨_, rfl⟩
  rw [hbs]
  have HBS := Lib.hid hbs
  have HLB := Lib.hid hb
  clear hbs hb
  go_enter Tryd.func84, Tryd.ntmps84
  go_wp2
  go_loopw [10] (fun i wr => ∃ k : Nat, k ≤ 16 ∧ i = .int .i64 k ∧
      Below w.heap.size w wr ∧ wr.heap[w.heap.size]? = some (.cells bs 106 (0, 0)) ∧ wr.heap[w.heap.size + 1]? = some (.cells (u32s (List.replicate 64 0)) 122 (0, 0)) ∧ wr.heap[w.heap.size + 1 + 1]? = some (.cells (u32s (Sha.fill b k)) 122 (0, 0))) (fun i _ => 16 - (intOf i).toNat)
  case atStart =>
    refine ⟨0, by omega, rfl, ?_, ?_, ?_, ?_⟩
    · exact (((Below.refl _ w).alloc (Nat.le_refl _) _).alloc (by simp) _).alloc (by simp; omega) _
    · exact heap_old_at _ (heap_old_at _ (heap_new_at _ _ _ (by simp)))
    · exact heap_old_at _ (heap_new_at _ _ _ (by simp))
    · exact heap_new_at _ _ _ (by simp)
  case round =>
    obtain ⟨k, hk, rfl, hbe, hg0, hg1, hg2⟩ := hrel
    have HBE := Lib.hid hbe
    have HG0 := Lib.hid hg0
    have HG1 := Lib.hid hg1
    have HG2 := Lib.hid hg2
    have hby : ∀ j, j < 64 → wr.cell? ⟨w.heap.size, j, none⟩ = some (.int .u8 ((b.getD j 0).toNat : Int)) := fun j hj => by
      rw [cell_of_row wr _ j bs _ _ hg0, ← HBS.out]; exact u8s_at b j (by rw [HLB.out]; exact hj)
    clear hbe hg0 hg1
    by_cases hlt : k < 16
    · have c0 := hby (4 * k) (by omega)
      have c1 := hby (4 * k + 1) (by omega)
      have c2 := hby (4 * k + 2) (by omega)
      have c3 := hby (4 * k + 3) (by omega)
      have cw := (cell_of_row wr _ k _ _ _ hg2).trans (u32s_at (Sha.fill b k) k (by rw [Sha.fill_length]; omega))
      have fw := frozen_of_row wr _ k _ _ hg2
      have e0 : (4 * (k : Int)).toNat = 4 * k := by omega
      have e1 : (4 * (k : Int) + 1).toNat = 4 * k + 1 := by omega
      have e2 : (4 * (k : Int) + 2).toNat = 4 * k + 2 := by omega
      have e3 : (4 * (k : Int) + 3).toNat = 4 * k + 3 := by omega
      obtain ⟨x0, h0⟩ : ∃ x, b.getD (4 * k) 0 = x := ⟨_, rfl⟩
      obtain ⟨x1, h1⟩ : ∃ x, b.getD (4 * k + 1) 0 = x := ⟨_, rfl⟩
      obtain ⟨x2, h2⟩ : ∃ x, b.getD (4 * k + 2) 0 = x := ⟨_, rfl⟩
      obtain ⟨x3, h3⟩ : ∃ x, b.getD (4 * k + 3) 0 = x := ⟨_, rfl⟩
      have hn : Sha.fill b (k + 1) = (Sha.fill b k).set k (Sha.word4 x0 x1 x2 x3) := by rw [← h0, ← h1, ← h2, ← h3]; rfl
      have HN := Lib.hid hn
      rw [h0] at c0
      rw [h1] at c1
      rw [h2] at c2
      rw [h3] at c3
      have b0 := byte_lt x0
      have b1 := byte_lt x1
      have b2 := byte_lt x2
      have b3 := byte_lt x3
      obtain ⟨old, ho⟩ : ∃ x, (Sha.fill b k).getD k 0 = x := ⟨_, rfl⟩
      rw [ho] at cw
      clear h0 h1 h2 h3 hn ho hby hg2
      have hki : (k : Int) < 16 := by omega
      have hk64 : (k : Int) < 64 := by omega
      have hk0 : 0 ≤ (k : Int) := by omega
      have l0 : 4 * (k : Int) < 64 := by omega
      have l1 : 4 * (k : Int) + 1 < 64 := by omega
      have l2 : 4 * (k : Int) + 2 < 64 := by omega
      have l3 : 4 * (k : Int) + 3 < 64 := by omega
      have p0 : 0 ≤ 4 * (k : Int) := by omega
      have p1 : 0 ≤ 4 * (k : Int) + 1 := by omega
      have p2 : 0 ≤ 4 * (k : Int) + 2 := by omega
      have p3 : 0 ≤ 4 * (k : Int) + 3 := by omega
      have q0 := wrap_small (4 * (k : Int)) (by omega) (by omega)
      have q1 := wrap_small (4 * (k : Int) + 1) (by omega) (by omega)
      have q2 := wrap_small (4 * (k : Int) + 2) (by omega) (by omega)
      have q3 := wrap_small (4 * (k : Int) + 3) (by omega) (by omega)
      go_wp2
      go_region_held3 (fun w' => w'.cell? ⟨w.heap.size, 4 * k, none⟩ = some (.int .u8 (x0.toNat : Int)) ∧ w'.cell? ⟨w.heap.size, 4 * k + 1, none⟩ = some (.int .u8 (x1.toNat : Int)) ∧ w'.cell? ⟨w.heap.size, 4 * k + 2, none⟩ = some (.int .u8 (x2.toNat : Int)) ∧ w'.cell? ⟨w.heap.size, 4 * k + 3, none⟩ = some (.int .u8 (x3.toNat : Int))) (first | (go_split_ands; refine ⟨?_, ?_, ?_, ?_⟩ <;> first | (refine keep_cell' (by assumption) ?_; dsimp only; omega) | (refine keep_cell (by assumption) ?_; dsimp only; omega)) | go_keep) (fail)
      go_wp2
      go_roundw
      case rel =>
        refine ⟨k + 1, by omega, by go_num, (HBE.out.setCell (by dsimp only; omega) _).drew, ?_, ?_, ?_⟩
        · exact (Below.heap_setCell _ _ _ _ (by dsimp only; omega)).trans HG0.out
        · exact (Below.heap_setCell _ _ _ _ (by dsimp only; omega)).trans HG1.out
        · rw [HN.out, ← u32s_set]
          refine (heap_setCell_same _ _ _ _ _ _ HG2.out).trans ?_
          rfl
      case measure => simp [intOf]; omega
    · obtain rfl : k = 16 := by omega
      have hno : ¬ ((16 : Nat) : Int) < 16 := by omega
      clear hlt hk hby hg2 HG0
      go_wp2
      obtain ⟨L, hL⟩ : ∃ L, Sha.fill b 16 = L := ⟨_, rfl⟩
      have hl : L.length = 64 := by rw [← hL, Sha.fill_length]
      have HL := Lib.hid hL
      have HLL := Lib.hid hl
      rw [hL] at HG2
      clear hL hl hno
      go_loopw [5] (fun i wr => ∃ n : Nat, 16 ≤ n ∧ n ≤ 64 ∧ i = .int .i64 n ∧
        Below w.heap.size w wr ∧ wr.heap[w.heap.size + 1]? = some (.cells (u32s (List.replicate 64 0)) 122 (0, 0)) ∧ wr.heap[w.heap.size + 1 + 1]? = some (.cells (u32s (Sha.ext L (n - 16))) 122 (0, 0))) (fun i _ => 64 - (intOf i).toNat)
      case atStart => exact ⟨16, by omega, by omega, rfl, HBE.out, HG1.out, HG2.out⟩
      case round =>
        clear HBE HG1 HG2
        obtain ⟨n, hn0, hn1, rfl, hbe, hg1, hg2⟩ := hrel
        have HBE := Lib.hid hbe
        have HG1 := Lib.hid hg1
        have HG2 := Lib.hid hg2
        obtain ⟨M, hM⟩ : ∃ M, Sha.ext L (n - 16) = M := ⟨_, rfl⟩
        have hML : M.length = 64 := by rw [← hM, Sha.ext_length]; exact HLL.out
        have HM := Lib.hid hM
        rw [hM] at hg2 HG2
        have hc : ∀ j, j < 64 → wr.cell? ⟨w.heap.size + 1 + 1, j, none⟩ = some (.int .u32 (M.getD j 0)) := fun j hj => (cell_of_row wr _ j _ _ _ hg2).trans (u32s_at M j (by omega))
        have hf : ∀ j, wr.frozen? ⟨w.heap.size + 1 + 1, j, none⟩ = false := fun j => frozen_of_row wr _ j _ _ hg2
        clear hbe hg1 hg2 hM
        by_cases hlt : n < 64
        · have c16 := hc (n - 16) (by omega)
          have c15 := hc (n - 15) (by omega)
          have c7 := hc (n - 7) (by omega)
          have c2 := hc (n - 2) (by omega)
          have cn := hc n hlt
          have fn := hf n
          have hmore : Sha.more M n = (M.getD (n - 16) 0 + Sha.sP (M.getD (n - 15) 0) + M.getD (n - 7) 0 + Sha.tP (M.getD (n - 2) 0)) % 4294967296 := rfl
          obtain ⟨a, ha⟩ : ∃ a, M.getD (n - 16) 0 = a := ⟨_, rfl⟩
          obtain ⟨x, hx⟩ : ∃ a, M.getD (n - 15) 0 = a := ⟨_, rfl⟩
          obtain ⟨c, hcc⟩ : ∃ a, M.getD (n - 7) 0 = a := ⟨_, rfl⟩
          obtain ⟨y, hy⟩ : ∃ a, M.getD (n - 2) 0 = a := ⟨_, rfl⟩
          obtain ⟨old, ho⟩ : ∃ a, M.getD n 0 = a := ⟨_, rfl⟩
          rw [ha] at c16 hmore
          rw [hx] at c15 hmore
          rw [hcc] at c7 hmore
          rw [hy] at c2 hmore
          rw [ho] at cn
          have HMO := Lib.hid hmore
          clear hmore ha hx hcc hy ho hc hf
          obtain ⟨j16, hj16⟩ : ∃ j, j + 16 = n := ⟨n - 16, by omega⟩
          rw [show n - 16 = j16 by omega] at c16
          have r16 : (n : Int) - 16 = (j16 : Int) := by omega
          have q16 := wrap_small (j16 : Int) (by omega) (by omega)
          have p16 : 0 ≤ (j16 : Int) := by omega
          have l16 : (j16 : Int) < 64 := by omega
          obtain ⟨j15, hj15⟩ : ∃ j, j + 15 = n := ⟨n - 15, by omega⟩
          rw [show n - 15 = j15 by omega] at c15
          have r15 : (n : Int) - 15 = (j15 : Int) := by omega
          have q15 := wrap_small (j15 : Int) (by omega) (by omega)
          have p15 : 0 ≤ (j15 : Int) := by omega
          have l15 : (j15 : Int) < 64 := by omega
          obtain ⟨j7, hj7⟩ : ∃ j, j + 7 = n := ⟨n - 7, by omega⟩
          rw [show n - 7 = j7 by omega] at c7
          have r7 : (n : Int) - 7 = (j7 : Int) := by omega
          have q7 := wrap_small (j7 : Int) (by omega) (by omega)
          have p7 : 0 ≤ (j7 : Int) := by omega
          have l7 : (j7 : Int) < 64 := by omega
          obtain ⟨j2, hj2⟩ : ∃ j, j + 2 = n := ⟨n - 2, by omega⟩
          rw [show n - 2 = j2 by omega] at c2
          have r2 : (n : Int) - 2 = (j2 : Int) := by omega
          have q2 := wrap_small (j2 : Int) (by omega) (by omega)
          have p2 : 0 ≤ (j2 : Int) := by omega
          have l2 : (j2 : Int) < 64 := by omega
          have hn64 : (n : Int) < 64 := by omega
          have p0 : 0 ≤ (n : Int) := by omega
          have d16 : j16 ≠ n := by omega
          have d7 : j7 ≠ n := by omega
          clear hj16 hj15 hj7 hj2
          go_wp2
          go_quiet (fail)
          go_wp2_with fail
          refine (rot_any x 7 _ (by omega) (by omega)).mono ?_
          rintro _ _ ⟨rfl, rfl⟩
          go_wp2_with fail
          refine (rot_any x 18 _ (by omega) (by omega)).mono ?_
          rintro _ _ ⟨rfl, rfl⟩
          go_wp2_with fail
          refine (rot_any y 17 _ (by omega) (by omega)).mono ?_
          rintro _ _ ⟨rfl, rfl⟩
          go_wp2_with fail
          refine (rot_any y 19 _ (by omega) (by omega)).mono ?_
          rintro _ _ ⟨rfl, rfl⟩
          go_wp2
          go_region_held3 (fun w' => w'.cell? ⟨w.heap.size + 1 + 1, j16, none⟩ = some (.int .u32 a) ∧ w'.cell? ⟨w.heap.size + 1 + 1, j7, none⟩ = some (.int .u32 c)) (first | (go_split_ands; refine ⟨keep_offN c16 (fun e => d16 (congrArg Addr.off e)), keep_offN c7 (fun e => d7 (congrArg Addr.off e))⟩) | go_keep) (fail)
          go_wp2
          go_roundw
          case rel =>
            refine ⟨n + 1, by omega, by omega, by go_num, (bel_drewN HBE.out _).setCell (show w.heap.size ≤ w.heap.size + 1 + 1 by omega) _, ?_, ?_⟩
            · exact (Below.heap_setCell _ _ _ _ (by dsimp only; omega)).trans HG1.out
            · rw [show n + 1 - 16 = (n - 16) + 1 by omega, Sha.ext, HM.out, show 16 + (n - 16) = n by omega, ← u32s_set, HMO.out]
              refine (heap_setCell_same _ _ _ _ _ _ HG2.out).trans ?_
              simp only [Int.emod_add_emod]
              rfl
          case measure => simp [intOf]; omega
        · obtain rfl : n = 64 := by omega
          have hno : ¬ ((64 : Nat) : Int) < 64 := by omega
          clear hlt hn0 hn1 hc hf
          have hsz : (u32s M).size = 64 := by rw [u32s_size, hML]
          have hi : (Tryd.prog.info? 122).map (·.size) = some (u32s M).size := by rw [hsz]; exact Tryd.info64
          have ho : (u32s (List.replicate 64 0)).size = (u32s M).size := by rw [hsz]; rfl
          have HI := Lib.hid hi
          have HO := Lib.hid ho
          have HR : Hid (u32s M = u32s (Sha.widenP b)) := Lib.hid (by rw [← HM.out]; unfold Sha.widenP; rw [HL.out])
          have HT := Lib.hid (u32s_one M)
          clear hsz hi ho hML
          obtain ⟨R, hR⟩ : ∃ R, u32s M = R := ⟨_, rfl⟩
          rw [hR] at HG2 HI HO HR HT
          clear hR
          go_wp2_with (first | (refine wpList_load_row (by rfl) _ _ (by rfl) (w.heap.size + 1 + 1) (by rfl) _ R _ _ HG2.out Tryd.underlying122 (by rfl) HI.out ?_) | (refine wpList_store_row (by rfl) _ _ _ (by rfl) (w.heap.size + 1) R (by rfl) (by rfl) _ _ HG1.out HI.out HO.out HT.out ?_))
          refine bodyPost_ret (v := .agg R) (results_cell_row rfl _ _ (w.heap.size + 1) _ _ _ _ rfl (setRow_heap _ _ _ _ _ _ HG1.out) Tryd.underlying122 rfl HI.out) rfl ⟨?_, below_setRow HBE.out (by omega) _⟩
          rw [HR.out]
end Go.Proofs.YtkdecmijnojhoaaDoor
