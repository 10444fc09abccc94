/- oracle.Honest. -/
import Derived.Test.YteolephlajhghaaOraTab
import Derived.WalkSpells
import Derived.WalkLawsBesides
import Derived.Lib.Strings
namespace Go.Proofs.Yteolephlajhghaa
open Go.RowKit
open Go.Proofs.Yteolephlajhghaa.Ora (K Sig)

theorem Ora.honP_false {S : List Sig} (hS : Ora.Rising S) {k : K} (h : Ora.look S k = some false) : Ora.honP S k.1 = false := by
  unfold Ora.honP
  rw [List.all_eq_false]
  exact ⟨(k, false), (Ora.look_mem hS k false).1 h, by simp⟩
theorem Ora.honP_true {S : List Sig} (hS : Ora.Rising S) {who : List UInt8} (h : ∀ k, k.1 = who → Ora.look S k ≠ some false) : Ora.honP S who = true := by
  unfold Ora.honP
  rw [List.all_eq_true]
  rintro ⟨k, b⟩ hm
  have := (Ora.look_mem hS k b).2 hm
  cases b with
  | true => simp
  | false =>
    have hk : k.1 ≠ who := fun e => h k e this
    simp [hk]

set_option maxRecDepth 8000 in
set_option maxHeartbeats 1000000 in
theorem honest_any (g m : Nat) (S : List Sig) (who : List UInt8) (w : World) (h : TabAt w g m S) :
    Calls Try.prog 15 #[.pointer (some ⟨g, 0, none⟩), .string ⟨who.toArray⟩] w fun e w' => e = .returned (.bool (Ora.honP S who)) ∧ Below w.heap.size w w' := by
  have hc := h.cell
  have HS := Lib.hid h.rise
  obtain ⟨w0, cnt0, hrg, hfr0, hb0, hs0⟩ := h.map.range Try.underlying43
  obtain ⟨r, hr⟩ : ∃ r, w.heap.size = r := ⟨_, rfl⟩
  rw [hr] at hrg hfr0
  have HR := Lib.hid hr
  have HF0 := Lib.hid hfr0
  have HB0 := Lib.hid hb0
  clear h hfr0 hb0 hs0 hr
  go_enter Try.func15, Try.ntmps15
  go_wp2
  clear hrg hc
  go_loopw [] (fun wr => ∃ done cnt, FnRange sigMap wr m r (Ora.look S) done cnt ∧ (∀ k ∈ done, k.1 = who → Ora.look S k ≠ some false) ∧ Below w.heap.size w wr) (fun wr => wr.rangeLeft m r)
  case atStart => exact ⟨[], cnt0, HF0.out, (fun k hk => by simp at hk), HB0.out⟩
  case round =>
    obtain ⟨done, cnt, hfr, hno, hb⟩ := hrel
    have HB := Lib.hid hb
    have HNO := Lib.hid hno
    have HFR := Lib.hid hfr
    rcases hfr.next 0 with ⟨hall, hrun⟩ | ⟨s, a, w3, cnt3, hf, hok, hnot, hrun, hfr3, hlt, ho, hsz, hen⟩
    · have hnx : ∀ ty, (Instr.next (.pointer (some ⟨r, 0, none⟩)) false ty).run Try.prog wr = _ := fun _ => hrun
      have HA : Hid (Ora.honP S who = true) := Lib.hid (Ora.honP_true HS.out (fun k hk e => hno k (hall k (by rw [e]; simp)) hk e))
      clear hfr hno hb hall hrun
      go_wp2
      go_ret
      rw [HA.out]
      exact ⟨rfl, HB.out⟩
    · obtain ⟨x, d⟩ := s
      dsimp only [sigMap, kval] at hrun hen
      have hnx : ∀ ty, (Instr.next (.pointer (some ⟨r, 0, none⟩)) false ty).run Try.prog wr = _ := fun _ => hrun
      have HB3 : Hid (Below w.heap.size w w3) := Lib.hid (hb.trans (ho.below (fun i hi => Nat.le_of_eq (HR.out.trans hi.symm)) hb.size))
      have HFR3 := Lib.hid hfr3
      have HLT := Lib.hid hlt
      have HF := Lib.hid hf
      have HAL : Hid (∀ o1 o2, Below w3.heap.size w3 ((w3.alloc o1).alloc o2)) := Lib.hid (fun o1 o2 => ((Below.refl _ w3).alloc (Nat.le_refl _) o1).alloc (by simp) o2)
      have HSZ : Hid (w.heap.size ≤ w3.heap.size) := Lib.hid HB3.out.size
      clear hfr hno hb hrun hfr3 hlt hf hok hnot ho hsz
      by_cases e : x = who
      · have e1 : (x == who) = true := by simpa using e
        cases a with
        | false =>
          have HA : Hid (Ora.honP S who = false) := Lib.hid (by rw [← e]; exact Ora.honP_false HS.out HF.out)
          clear e
          go_wp2
          go_ret
          rw [HA.out]
          exact ⟨rfl, HB3.out.trans ((HAL.out _ _).mono HSZ.out)⟩
        | true =>
          have HE := Lib.hid e
          clear e
          go_wp2
          refine ⟨?_, ?_⟩
          · refine ⟨done ++ [(x, d)], cnt3, HFR3.out.below (HAL.out _ _), fun k hk hkw => ?_, HB3.out.trans ((HAL.out _ _).mono HSZ.out)⟩
            rcases List.mem_append.1 hk with hk | hk
            · exact HNO.out k hk hkw
            · obtain rfl : k = (x, d) := by simpa using hk
              rw [HF.out]; simp
          · rw [(HFR3.out.below (HAL.out _ _)).left_eq, HFR.out.left_eq]; exact HLT.out
      · have e1 : (x == who) = false := by simpa using e
        have HE := Lib.hid e
        clear e
        go_wp2
        refine ⟨?_, ?_⟩
        · refine ⟨done ++ [(x, d)], cnt3, HFR3.out.below (HAL.out _ _), fun k hk hkw => ?_, HB3.out.trans ((HAL.out _ _).mono HSZ.out)⟩
          rcases List.mem_append.1 hk with hk | hk
          · exact HNO.out k hk hkw
          · obtain rfl : k = (x, d) := by simpa using hk
            exact absurd hkw HE.out
        · rw [(HFR3.out.below (HAL.out _ _)).left_eq, HFR.out.left_eq]; exact HLT.out
end Go.Proofs.Yteolephlajhghaa
