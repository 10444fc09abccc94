/- The walks of the document's answers: Number, Num, Text, List, Flag. -/
import Derived.Test.YtbjfihbjfoaghaaDoorArgStrs
import Derived.WalkSpells
import Derived.WalkLawsBesides
import Derived.Deep.RegionLaw
import Derived.Deep.QuietTactic
import Derived.BigQuiet
namespace Go.Proofs.YtbjfihbjfoaghaaDoor
open Go.RowKit

set_option maxRecDepth 100000 in
set_option maxHeartbeats 400000 in
theorem rNumber_any (n : Nat) (hn : n < 2 ^ 63) (w : World) :
    Calls Tryd.prog 38 #[.int .i64 n] w fun e w' => e = .returned (.string ⟨(Code.numL n).toArray⟩) ∧ Below w.heap.size w w' := by
  have hn1 : (n : Int) < 9223372036854775808 := by omega
  go_enter Tryd.func38, Tryd.ntmps38
  go_wp2
  go_loopw [0, 3] (fun m s wr => ∃ (a : Nat) (t : List UInt8), a ≤ n ∧ m = .int .i64 a ∧ s = .string ⟨t.toArray⟩ ∧ Code.be (Code.sz a) a ++ t = Code.be (Code.sz n) n ∧ Below w.heap.size w wr) (fun m _ _ => (intOf m).toNat)
  case atStart => exact ⟨n, [], Nat.le_refl _, rfl, rfl, by simp, Below.refl _ _⟩
  case round =>
    obtain ⟨a, t, ha, rfl, rfl, ht, hbel⟩ := hrel
    have HT := Lib.hid ht
    clear ht
    by_cases h0 : a = 0
    · subst h0
      have hz : t = Code.be (Code.sz n) n := by have := HT.out; rw [Code.sz_zero] at this; exact this
      have hl := Code.be_length (Code.sz n) n
      rw [← hz] at hl
      have h8 := Code.sz_le8 n (by omega)
      have hZ := Lib.hid hz
      have hcv := conv_one' wr (UInt8.ofNat (Code.sz n)) (t.length : Int) (by rw [Code.ofNat_toNat _ (by omega)]; omega) _ rfl
      have htl : (t.length : Int) < 256 := by omega
      have hcm : ((⟨[UInt8.ofNat (Code.sz n)].toArray⟩ : ByteArray) ++ (⟨t.toArray⟩ : ByteArray)) = ⟨(Code.numL n).toArray⟩ := by
        rw [cat_mk, Code.numL, hZ.out]; rfl
      have hbel2 := hbel.alloc hbel.size (.cells #[.int .u8 (t.length : Int)] 5)
      clear hz h8 hl
      generalize UInt8.ofNat (Code.sz n) = y at hcv hcm
      go_wp2
      go_ret
      exact ⟨rfl, hbel2⟩
    · have hst : Code.be (Code.sz (a / 256)) (a / 256) ++ (UInt8.ofNat (a % 256) :: t) = Code.be (Code.sz n) n := by
        have := HT.out
        rw [Code.sz_pos a h0, Code.be, List.append_assoc] at this
        exact this
      have hyn := Code.ofNat_toNat (a % 256) (by omega)
      obtain ⟨y, hy⟩ : ∃ y, UInt8.ofNat (a % 256) = y := ⟨_, rfl⟩
      rw [hy] at hst hyn
      have hcv := conv_one' wr y (y.toNat : Int) rfl _ rfl
      have hrem : (a : Int) % 256 = (y.toNat : Int) := by omega
      obtain ⟨q, hq⟩ : ∃ q, a / 256 = q := ⟨_, rfl⟩
      have hquo : (a : Int) / 256 = (q : Int) := by omega
      have hyb := y.toNat_lt
      have hcm := cat_mk [y] t
      rw [List.singleton_append] at hcm
      obtain ⟨u, hu⟩ : ∃ u, y :: t = u := ⟨_, rfl⟩
      rw [hu] at hcm hst
      rw [hq] at hst
      have hqa : q < a := by omega
      have hul : u.length = t.length + 1 := by rw [← hu]; rfl
      have htl : t.length ≤ 8 := by
        have h1 := congrArg List.length HT.out
        rw [List.length_append, Code.be_length, Code.be_length] at h1
        have := Code.sz_le8 n (by omega)
        omega
      have ha0 : (0 : Int) < a := by omega
      have hS := Lib.hid hst
      have hbel2 := hbel.alloc hbel.size (.cells #[.int .u8 (y.toNat : Int)] 5)
      have ha9 : (a : Int) ≤ 9223372036854775807 := by omega
      have hqa9 := Lib.hid hqa
      have ha8 := Lib.hid ha
      clear hst hy hyn hu hq hn1 hn ha h0 hqa
      go_wp2
      go_roundw
      case rel => exact ⟨q, u, by have := hqa9.out; have := ha8.out; omega, by go_num, rfl, hS.out, hbel2⟩
      case measure => simp [intOf]; omega

theorem rText_any (s : List UInt8) (w : World) (hl : s.length ≤ 100000000) :
    Calls Tryd.prog 39 #[.string ⟨s.toArray⟩] w fun e w' => e = .returned (.string ⟨(Code.textL s).toArray⟩) ∧ Below w.heap.size w w' := by
  have hcm : ((⟨(Code.numL s.length).toArray⟩ : ByteArray) ++ (⟨s.toArray⟩ : ByteArray)) = ⟨(Code.textL s).toArray⟩ := by rw [cat_mk]; rfl
  have hnl : (Code.numL s.length).length ≤ 9 := by
    have := Code.numL_length s.length
    have := Code.sz_le8 s.length (by omega)
    omega
  have HM := Lib.hid hcm
  clear hcm
  go_enter Tryd.func39, Tryd.ntmps39
  go_wp2_with fail
  refine (rNumber_any s.length (by omega) w).mono ?_
  rintro e w1 ⟨rfl, hb⟩
  have hcm := HM.out
  generalize Code.numL s.length = x at hcm hnl ⊢
  go_wp2
  go_ret
  exact ⟨rfl, hb⟩
end Go.Proofs.YtbjfihbjfoaghaaDoor
