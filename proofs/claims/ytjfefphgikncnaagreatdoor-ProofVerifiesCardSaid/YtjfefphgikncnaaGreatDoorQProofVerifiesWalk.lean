/- The law ProofVerifies, walked. -/
import Derived.Test.YtjfefphgikncnaaGreatDoorPk23
import Derived.Test.YtjfefphgikncnaaGreatDoorPk18
namespace Go.Proofs.YtjfefphgikncnaaGreatDoor
open Go.RowKit
open Sto (T St)

set_option maxRecDepth 100000 in
set_option maxHeartbeats 4000000 in
theorem proofVerifies_walk (root key : T) (v : Value) (L : List T) (w : World) (hv : StrsC w v L) (hm : L.length ≤ maxLen) (hT : Tab w) :
    Calls Tryz.prog 6 #[.string ⟨root.toArray⟩, .string ⟨key.toArray⟩, v] w fun e w' => e = .returned (.bool true) ∧ Below w.heap.size w w' := by
  have HWK := Lib.hid (fun w' (hb : Below w.heap.size w w') => pworks_any w' (hT.below hb))
  have HFW := Lib.hid (few_any L v 30 700 w hv.strs hm)
  have HV := Lib.hid hv
  have HT := Lib.hid hT
  obtain ⟨A, cap, hve, -⟩ := hv.form
  subst hve
  clear hv hT
  cases hf : Code.few L 30 700 with
  | false =>
    rw [hf] at HFW
    clear hf hm
    go_enter Tryz.func6, Tryz.ntmps6
    go_wp2_with fail
    refine HFW.out.mono ?_
    rintro e w1 ⟨rfl, rfl⟩
    go_wp2_with fail
    refine (HWK.out _ (Below.refl _ _)).mono ?_
    rintro e w1 ⟨rfl, hb1⟩
    go_wp2
    go_ret
    exact ⟨rfl, hb1⟩
  | true =>
  rw [hf] at HFW
  have HFF := Lib.hid ((Code.few_iff L 30 700).1 hf)
  clear hf hm
  by_cases hr100 : 100 < root.length
  · have q1 : (root.length : Int) > 100 := by omega
    have q2 : decide ((100 : Int) < (root.length : Int)) = true := decide_eq_true (by omega)
    have q3 : decide (100 < root.length) = true := decide_eq_true hr100
    clear hr100
    go_enter Tryz.func6, Tryz.ntmps6
    go_wp2_with fail
    refine HFW.out.mono ?_
    rintro e w1 ⟨rfl, rfl⟩
    go_wp2_with fail
    refine (HWK.out _ (Below.refl _ _)).mono ?_
    rintro e w1 ⟨rfl, hb1⟩
    go_wp2
    go_ret
    exact ⟨rfl, hb1⟩
  have q1 : ¬ ((root.length : Int) > 100) := by omega
  have q2 : decide ((100 : Int) < (root.length : Int)) = false := decide_eq_false (by omega)
  have q3 : decide (100 < root.length) = false := decide_eq_false hr100
  clear hr100
  by_cases hk100 : 100 < key.length
  · have k1 : (key.length : Int) > 100 := by omega
    have k2 : decide ((100 : Int) < (key.length : Int)) = true := decide_eq_true (by omega)
    have k3 : decide (100 < key.length) = true := decide_eq_true hk100
    clear hk100
    go_enter Tryz.func6, Tryz.ntmps6
    go_wp2_with fail
    refine HFW.out.mono ?_
    rintro e w1 ⟨rfl, rfl⟩
    go_wp2_with fail
    refine (HWK.out _ (Below.refl _ _)).mono ?_
    rintro e w1 ⟨rfl, hb1⟩
    go_wp2
    go_ret
    exact ⟨rfl, hb1⟩
  have k1 : ¬ ((key.length : Int) > 100) := by omega
  have k2 : decide ((100 : Int) < (key.length : Int)) = false := decide_eq_false (by omega)
  have k3 : decide (100 < key.length) = false := decide_eq_false hk100
  clear hk100
  have HLE := Lib.hid (lend_any L _ w HV.out.strs (by have := HFF.out.1; omega))
  unfold LendPost at HLE
  go_enter Tryz.func6, Tryz.ntmps6
  go_wp2_with fail
  refine HFW.out.mono ?_
  rintro e w1 ⟨rfl, rfl⟩
  go_wp2_with fail
  refine HLE.out.mono ?_
  rintro e w2 ⟨u, rfl, hlent, hb2⟩
  have HB2 := Lib.hid hb2
  have HL2 := Lib.hid hlent
  have HV2 := Lib.hid (HV.out.below hb2)
  clear hlent hb2
  have HP2 := Lib.hid (verify_any root key u L w2 (StrsC.of_lent HL2.out) (HT.out.below HB2.out) (fun x hx => by have := HFF.out.2 x hx; omega))
  have HRR := Lib.hid (fun w3 (hb : Below w2.heap.size w2 w3) => rverify_any root key _ L w3 (HV2.out.below hb) (fun x hx => by have := HFF.out.2 x hx; omega))
  obtain ⟨⟨X, b, c⟩, hX⟩ : ∃ X, Prf.verify root key L = X := ⟨_, rfl⟩
  rw [hX] at HP2 HRR
  dsimp only at HP2 HRR
  clear hX
  obtain ⟨A2, cap2, rfl⟩ : ∃ A2 cap2, u = .slice A2 L.length cap2 := by
    obtain ⟨g, c, h, _⟩ := HL2.out
    exact ⟨_, _, h⟩
  go_wp2_with fail
  refine HP2.out.mono ?_
  rintro e w3 ⟨rfl, hb3⟩
  have HB3 := Lib.hid (bchain HB2.out hb3)
  have HL3 := Lib.hid (HL2.out.below hb3)
  have HV3 := Lib.hid (HV2.out.below hb3)
  have HR3 := Lib.hid (HRR.out _ hb3)
  clear hb3
  go_wp2_with fail
  refine HR3.out.mono ?_
  rintro e w4 ⟨rfl, hb4⟩
  have HB4 := Lib.hid (bchain HB3.out hb4)
  have HL4 := Lib.hid (HL3.out.below hb4)
  have HV4 := Lib.hid (HV3.out.below hb4)
  clear hb4
  have HKE := Lib.hid (kept_any L _ _ _ w4 HL4.out HV4.out.strs (by have := HFF.out.1; omega))
  have y1 : (X == X) = true := beq_self_eq_true _
  have y2 : (b == b) = true := beq_self_eq_true _
  have y3 : ((c : Int) == (c : Int)) = true := beq_self_eq_true _
  go_wp2_with fail
  refine HKE.out.mono ?_
  rintro e w5 ⟨rfl, hb5⟩
  have HB5 := Lib.hid (bchain HB4.out hb5)
  clear hb5
  go_wp2_with fail
  refine (HWK.out _ HB5.out).mono ?_
  rintro e w6 ⟨rfl, hb6⟩
  go_wp2
  go_ret
  exact ⟨rfl, bchain HB5.out hb6⟩
theorem proofVerifies_law (root key : ByteArray) (v : Value) (L : List T) (w : World) (_ : root.size ≤ maxLen) (_ : key.size ≤ maxLen) (hv : StrsC w v L) (hm : L.length ≤ maxLen) (_ : ∀ s ∈ L, s.length ≤ maxLen) (hT : Tab w) :
    Calls Tryz.prog 6 #[.string root, .string key, v] w fun e w' => e = .returned (.bool true) ∧ Below w.heap.size w w' := by
  obtain ⟨r, rfl⟩ := bytes_list root
  obtain ⟨k, rfl⟩ := bytes_list key
  exact proofVerifies_walk r k v L w hv hm hT
end Go.Proofs.YtjfefphgikncnaaGreatDoor
