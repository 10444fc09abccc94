/- The law NodeWrites, walked. -/
import Derived.Test.YtjbagjhadmbjnaaDoorPk09
import Derived.Test.YtjbagjhadmbjnaaDoorPk10
import Derived.Deep.RegionHeld3
namespace Go.Proofs.YtjbagjhadmbjnaaDoor
open Go.RowKit
open Go.Proofs.YtjbagjhadmbjnaaDoor.Nd (N)

def load19 (v : Value) : Sem Value := Instr.loadAt 24 v
theorem loadAt19 (v : Value) : Instr.loadAt 24 v = load19 v := rfl
attribute [local go_sem ↓] loadAt19
theorem run_l19 {w : World} {g : Nat} {A : Array Value} (hg : w.heap[g]? = some (.cells A 24 (0, 0))) (hi : (Tryd.prog.info? 24).map (·.size) = some A.size) : (load19 (.pointer (some ⟨g, 0, none⟩))).run Tryd.prog w = .ok (.agg A) w := by
  unfold load19
  simp only [Instr.loadAt, Instr.sureAddr, Sem.run_bind, Sem.run_pure, Result.andThen_ok, run_loadVar_row w g 24 24 A (0, 0) _ hg Tryd.underlying24 (by rfl) hi]
set_option maxRecDepth 100000 in
set_option maxHeartbeats 8000000 in
theorem nodeWrites_walk (n : N) (w : World) (hn : n.kids.length = 16) (hTab : Tab w) :
    Calls Tryd.prog 3 #[nval n] w fun e w' => e = .returned (.bool true) ∧ Below w.heap.size w w' := by
  have HBn := Lib.hid (fun w => nbig_any n w hn)
  have HCn := Lib.hid (fun w => ncheck_any n w hn)
  have HRC := Lib.hid (fun w h => rncheck_any n w hn h)
  have HEn := Lib.hid (fun w => nencode_any n w hn)
  have HRE := Lib.hid (fun w h => rnencode_any n w hn h)
  have HGn := Lib.hid (fun w hT => ndigest_any n w hn hT)
  have HRG := Lib.hid (fun w h => rndigest_any n w hn h)
  have HKn := Lib.hid (fun w h => nkids_any n w hn h)
  have HRK := Lib.hid (fun w => rKids_any n w hn)
  have hat : NodeAt (w.alloc (.cells (ncl n).toArray 24)) w.heap.size n := heap_new_at w _ _ rfl
  have hsn : (ncl n).toArray.size = 19 := by rw [List.size_toArray, ncl_length n hn]
  have HIn : Hid ((Tryd.prog.info? 24).map (·.size) = some (ncl n).toArray.size) := Lib.hid (by rw [hsn]; kernel_rfl)
  have HRn : Hid (∀ w', Below (w.alloc (.cells (ncl n).toArray 24)).heap.size (w.alloc (.cells (ncl n).toArray 24)) w' → w'.heap[w.heap.size]? = some (.cells (ncl n).toArray 24 (0, 0)) ∧ Below w.heap.size w w' ∧ Tab w') := Lib.hid (fun w' h => by
    have h3 : Below w.heap.size w (w.alloc (.cells (ncl n).toArray 24)) := (Below.refl _ w).alloc (Nat.le_refl _) _
    exact ⟨hat.below h, bchain h3 h, hTab.below (bchain h3 h)⟩)
  unfold KidsPost at HKn HRK
  have hKl : (Nd.kidsL n.kids).length ≤ 16 := by
    unfold Nd.kidsL
    exact Nat.le_trans (List.length_filter_le _ _) (by omega)
  unfold nval at HBn HCn HRC HEn HRE HGn HRG HKn HRK ⊢
  obtain ⟨A, hA⟩ : ∃ A, (ncl n).toArray = A := ⟨_, rfl⟩
  rw [hA] at HBn HCn HRC HEn HRE HGn HRG HKn HRK HIn HRn ⊢
  obtain ⟨T, hT⟩ : ∃ T, Nd.encS n = T := ⟨_, rfl⟩
  obtain ⟨c, hc⟩ : ∃ T, Nd.encC n = T := ⟨_, rfl⟩
  obtain ⟨S, hS⟩ : ∃ T, Nd.sumS n = T := ⟨_, rfl⟩
  obtain ⟨k, hk⟩ : ∃ k : Int, (if Nd.fine n then 0 else 80) = k := ⟨_, rfl⟩
  obtain ⟨K, hK⟩ : ∃ K, Nd.kidsL n.kids = K := ⟨_, rfl⟩
  rw [hT, hc] at HEn HRE
  rw [hS] at HGn HRG
  rw [hk] at HCn HRC
  rw [hK] at HKn HRK hKl
  clear hA hat hsn hTab hT hc hS hk hK
  go_enter Tryd.func3, Tryd.ntmps3
  go_wp2_with (refine wpList_load_row (by rfl) _ _ (by rfl) w.heap.size (by rfl) _ A _ _ (HRn.out _ (Below.refl _ _)).1 Tryd.underlying24 (by rfl) HIn.out ?_)
  generalize (w.alloc (.cells A 24)) = w0 at *
  refine (HBn.out _).mono ?_
  rintro e w1 ⟨rfl, hb1⟩
  have HX1 := Lib.hid hb1
  have R1 := HRn.out _ hb1
  clear hb1
  cases hbn : Nd.bigB n with
  | true =>
    clear hbn
    go_wp2_with fail
    refine (nworks_any _).mono ?_
    rintro e w2 ⟨rfl, hb2⟩
    have R2 := HRn.out _ (bchain HX1.out hb2)
    go_wp2
    go_ret
    exact ⟨rfl, R2.2.1⟩
  | false =>
  have hsm := Nd.small hbn
  have HKX : Hid (∀ w, Calls Tryd.prog 10 #[.agg A] w fun e w' => ∃ z, e = .returned z ∧ Own w' w.heap.size z K ∧ Below w.heap.size w w') := Lib.hid (fun w => HKn.out w (fun x hx => by have := hsm.1 x hx; omega))
  have HRC2 := Lib.hid (fun w => HRC.out w (by have := hsm.2.1; omega))
  have HRE2 := Lib.hid (fun w => HRE.out w (by have := hsm.2.1; omega))
  have HRG2 := Lib.hid (fun w => HRG.out w (by have := hsm.2.1; omega))
  clear hbn hsm HKn HRC HRE HRG
  go_wp2_with (refine wpList_load_row (by rfl) _ _ (by rfl) w.heap.size (by rfl) _ A _ _ R1.1 Tryd.underlying24 (by rfl) HIn.out ?_)
  refine (HEn.out _).mono ?_
  rintro e w2 ⟨rfl, hb2⟩
  have HX2 := Lib.hid (bchain HX1.out hb2)
  have R2 := HRn.out _ HX2.out
  clear hb2 R1
  go_wp2_with (refine wpList_load_row (by rfl) _ _ (by rfl) w.heap.size (by rfl) _ A _ _ R2.1 Tryd.underlying24 (by rfl) HIn.out ?_)
  refine (HRE2.out _).mono ?_
  rintro e w3 ⟨rfl, hb3⟩
  have HX3 := Lib.hid (bchain HX2.out hb3)
  have R3 := HRn.out _ HX3.out
  clear hb3 R2
  go_wp2_with (refine wpList_load_row (by rfl) _ _ (by rfl) w.heap.size (by rfl) _ A _ _ R3.1 Tryd.underlying24 (by rfl) HIn.out ?_)
  refine (HKX.out _).mono ?_
  rintro e w4 ⟨z, rfl, hown, hb4⟩
  have HX4 := Lib.hid (bchain HX3.out hb4)
  have HS34 : Hid (w0.heap.size ≤ w3.heap.size) := Lib.hid HX3.out.size
  have HOW := Lib.hid hown
  have R4 := HRn.out _ HX4.out
  have HLD : Hid (∀ w', Below w4.heap.size w4 w' → (load19 (.pointer (some ⟨w.heap.size, 0, none⟩))).run Tryd.prog w' = .ok (.agg A) w') := Lib.hid (fun w' h => run_l19 (HRn.out _ (bchain HX4.out h)).1 HIn.out)
  have HC1 : Hid (∀ w', Below w4.heap.size w4 w' → Calls Tryd.prog 11 #[.agg A] w' fun e w'' => e = .returned (.int .i64 k) ∧ Below w4.heap.size w4 w'') := Lib.hid (fun w' h => (HCn.out w').mono fun e w'' q => ⟨q.1, h.trans (q.2.mono h.size)⟩)
  have HC2 : Hid (∀ w', Below w4.heap.size w4 w' → Calls Tryd.prog 12 #[.agg A] w' fun e w'' => e = .returned (.int .i64 k) ∧ Below w4.heap.size w4 w'') := Lib.hid (fun w' h => (HRC2.out w').mono fun e w'' q => ⟨q.1, h.trans (q.2.mono h.size)⟩)
  have HC3 : Hid (∀ w', Below w4.heap.size w4 w' → Calls Tryd.prog 14 #[.agg A] w' fun e w'' => ∃ z2, e = .returned z2 ∧ Strs w'' z2 K ∧ Below w4.heap.size w4 w'') := Lib.hid (fun w' h => (HRK.out w').mono fun e w'' ⟨z2, q1, q2, q3⟩ => ⟨z2, q1, q2.strs, h.trans (q3.mono h.size)⟩)
  have HC4 : Hid (∀ w' z2, Below w4.heap.size w4 w' → Strs w' z2 K → Calls Tryd.prog 13 #[z, z2] w' fun e w'' => e = .returned (.bool true) ∧ Below w4.heap.size w4 w'') := Lib.hid (fun w' z2 h hs => (same_any K K z z2 w' (HOW.out.below h).strs hs (by omega) (by unfold maxLen; omega)).mono fun e w'' q => ⟨by rw [q.1, decide_eq_true rfl], h.trans (q.2.mono h.size)⟩)
  have BD : Below w4.heap.size w4 w4.drew := (Below.refl _ _).drew
  have lD := HLD.out _ BD
  have hkk : (k != k) = false := by simp
  have hTT : (T != T) = false := by simp
  have hcc : (c != c) = false := by simp
  clear hown hb4 R3 R4
  go_upto_region 6 with fail
  go_cut [44] from 23 to 44 (fun c wx => c = .bool false ∧ Below w4.heap.size w4 wx)
  case first =>
    go_wp2
    go_region_held3 (fun w' => (load19 (.pointer (some ⟨w.heap.size, 0, none⟩))).run Tryd.prog w' = .ok (.agg A) w')
      ((refine HLD.out _ ?_; with_reducible (first | assumption | fail)))
      (first | (go_at_call 11; refine (HC1.out _ ?_).mono ?_; (with_reducible assumption); rintro e wa ⟨rfl, ha⟩) | (go_at_call 12; refine (HC2.out _ ?_).mono ?_; (with_reducible assumption); rintro e wb ⟨rfl, hb⟩) | (go_at_call 14; refine (HC3.out _ ?_).mono ?_; (with_reducible assumption); rintro e wc ⟨z2, rfl, hs2, hc⟩) | (go_at_call 13; refine (HC4.out _ _ ?_ ?_).mono ?_; (with_reducible assumption); (with_reducible assumption); rintro e wd ⟨rfl, hd⟩))
    all_goals
      go_wp2_with fail
      go_meet
      case rel => exact ⟨rfl, by with_reducible assumption⟩
  case rest =>
    obtain ⟨rfl, hbx⟩ := hcut
    have HXX := Lib.hid (bchain HX4.out hbx)
    have HSP := Lib.hid (spoilTexts_any K z w3.heap.size wc (HOW.out.below hbx) (by omega))
    clear hbx lD BD hkk hTT hcc HC1 HC2 HC3 HC4 HLD HOW
    go_wp2_with fail
    refine HSP.out.mono ?_
    rintro e w5 ⟨rfl, hb5⟩
    have HX5 : Hid (Below w0.heap.size w0 w5) := Lib.hid (HXX.out.trans (hb5.mono HS34.out))
    have HLD : Hid (∀ w', Below w5.heap.size w5 w' → (load19 (.pointer (some ⟨w.heap.size, 0, none⟩))).run Tryd.prog w' = .ok (.agg A) w') := Lib.hid (fun w' h => run_l19 (HRn.out _ (bchain HX5.out h)).1 HIn.out)
    have HC1 : Hid (∀ w', Below w5.heap.size w5 w' → Calls Tryd.prog 16 #[.agg A] w' fun e w'' => e = .returned (.string ⟨S.toArray⟩) ∧ Below w5.heap.size w5 w'') := Lib.hid (fun w' h => (HGn.out w' (HRn.out _ (bchain HX5.out h)).2.2).mono fun e w'' q => ⟨q.1, h.trans (q.2.mono h.size)⟩)
    have HC2 : Hid (∀ w', Below w5.heap.size w5 w' → Calls Tryd.prog 17 #[.agg A] w' fun e w'' => e = .returned (.string ⟨S.toArray⟩) ∧ Below w5.heap.size w5 w'') := Lib.hid (fun w' h => (HRG2.out w').mono fun e w'' q => ⟨q.1, h.trans (q.2.mono h.size)⟩)
    have HC3 : Hid (∀ w', Below w5.heap.size w5 w' → Calls Tryd.prog 7 #[] w' fun e w'' => e = .returned (.bool true) ∧ Below w5.heap.size w5 w'') := Lib.hid (fun w' h => (nworks_any w').mono fun e w'' q => ⟨q.1, h.trans (q.2.mono h.size)⟩)
    have HFI : Hid (∀ w', Below w5.heap.size w5 w' → Below w.heap.size w w') := Lib.hid (fun w' h => (HRn.out _ (bchain HX5.out h)).2.1)
    have BD : Below w5.heap.size w5 w5.drew := (Below.refl _ _).drew
    have hSS : (S == S) = true := by simp
    clear hb5
    go_upto_region 9 with fail
    go_region_held3 (fun w' => (load19 (.pointer (some ⟨w.heap.size, 0, none⟩))).run Tryd.prog w' = .ok (.agg A) w')
      ((refine HLD.out _ ?_; with_reducible (first | assumption | fail)))
      (first | (go_at_call 16; refine (HC1.out _ ?_).mono ?_; (with_reducible assumption); rintro e wa ⟨rfl, ha⟩) | (go_at_call 17; refine (HC2.out _ ?_).mono ?_; (with_reducible assumption); rintro e wb ⟨rfl, hb⟩) | (go_at_call 7; refine (HC3.out _ ?_).mono ?_; (with_reducible assumption); rintro e wd ⟨rfl, hd⟩))
    all_goals
      go_wp2
      go_ret
      exact ⟨rfl, HFI.out _ (by with_reducible assumption)⟩
end Go.Proofs.YtjbagjhadmbjnaaDoor
