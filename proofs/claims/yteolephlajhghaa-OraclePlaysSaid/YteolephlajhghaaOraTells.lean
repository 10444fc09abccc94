/- tells: a table tells what the document says. -/
import Derived.Test.YteolephlajhghaaOraRefSign
import Derived.Test.YteolephlajhghaaOraTwo
namespace Go.Proofs.Yteolephlajhghaa
open Go.RowKit
open Go.Proofs.Yteolephlajhghaa.Ora (K Sig)

/-- From place k on the row in block gb has these signatures. -/
def Rest (w : World) (gb : Nat) (S : List Sig) (k : Nat) : Prop := ∀ j (h : j < S.length), k ≤ j →
  w.cell? ⟨gb, j * 3, none⟩ = some (.string ⟨S[j].1.1.toArray⟩) ∧ w.cell? ⟨gb, j * 3 + 1, none⟩ = some (.string ⟨S[j].1.2.toArray⟩) ∧ w.cell? ⟨gb, j * 3 + 2, none⟩ = some (.bool S[j].2) ∧
  w.frozen? ⟨gb, j * 3, none⟩ = false ∧ w.frozen? ⟨gb, j * 3 + 1, none⟩ = false ∧ w.frozen? ⟨gb, j * 3 + 2, none⟩ = false
theorem Rest.below {w w' : World} {gb k : Nat} {S : List Sig} (h : Rest w gb S k) (hb : Below w.heap.size w w') : Rest w' gb S k := by
  intro j hj hk
  obtain ⟨h1, h2, h3, h4, h5, h6⟩ := h j hj hk
  have hlt : gb < w.heap.size := World.block_lt_of_cell? _ _ h1
  have hf : ∀ o, w'.frozen? ⟨gb, o, none⟩ = w.frozen? ⟨gb, o, none⟩ := fun o => by unfold World.frozen?; rw [hb.block gb hlt]
  exact ⟨(hb.cell hlt).trans h1, (hb.cell hlt).trans h2, (hb.cell hlt).trans h3, (hf _).trans h4, (hf _).trans h5, (hf _).trans h6⟩
theorem Rest.step {w : World} {gb k : Nat} {S : List Sig} (h : Rest w gb S k) (a b c : Value) : Rest (((w.setCell ⟨gb, k * 3, none⟩ a).setCell ⟨gb, k * 3 + 1, none⟩ b).setCell ⟨gb, k * 3 + 2, none⟩ c) gb S (k + 1) := by
  intro j hj hk
  obtain ⟨h1, h2, h3, h4, h5, h6⟩ := h j hj (by omega)
  refine ⟨keep_off (keep_off (keep_off h1 ?_) ?_) ?_, keep_off (keep_off (keep_off h2 ?_) ?_) ?_, keep_off (keep_off (keep_off h3 ?_) ?_) ?_, ?_, ?_, ?_⟩
  all_goals first | (intro e; injection e with _ e _; omega) | (simp only [World.frozen?_setCell]; assumption)
theorem OwnS.rest {w : World} {B : Nat} {s : Value} {S : List Sig} (h : OwnS w B s S) : ∃ A cap, s = .slice A S.length cap ∧ (0 < S.length → ∃ gb, A = some ⟨gb, 0, none⟩ ∧ B ≤ gb) ∧ ∀ gb, A = some ⟨gb, 0, none⟩ → Rest w gb S 0 := by
  rcases h.2 with ⟨rfl, h0⟩ | ⟨b, cap, cur, rfl, hB, hh, hn, _⟩
  · exact ⟨none, 0, by rw [h0], fun q => by omega, fun gb q => by cases q⟩
  · refine ⟨_, cap, rfl, fun _ => ⟨b, rfl, hB⟩, fun gb q j hj _ => ?_⟩
    obtain rfl : b = gb := by simpa using q
    obtain ⟨b', cap', hv', _, _, h1, h2, h3⟩ := h.cells j hj
    obtain ⟨rfl, rfl⟩ : b = b' ∧ cap = cap' := by simpa using hv'
    exact ⟨h1, h2, h3, frozen_of_row _ _ _ _ _ hh, frozen_of_row _ _ _ _ _ hh, frozen_of_row _ _ _ _ _ hh⟩

set_option maxRecDepth 8000 in
set_option maxHeartbeats 2000000 in
theorem tells_any (g m : Nat) (S : List Sig) (v : Value) (k : K) (w : World) (ht : TabAt w g m S) (hv : Sgs w v S) (hk : OkK k) (hl : S.length ≤ 2000) :
    Calls Try.prog 11 #[.pointer (some ⟨g, 0, none⟩), v, .string ⟨k.1.toArray⟩, .string ⟨k.2.toArray⟩] w fun e w' => e = .returned (.bool true) ∧ Below w.heap.size w w' := by
  obtain ⟨u, d⟩ := k
  have HT := Lib.hid ht
  have HV := Lib.hid hv
  have HK := Lib.hid hk
  obtain ⟨X, hX⟩ : ∃ X, (Ora.look S (u, d)).isSome = X := ⟨_, rfl⟩
  obtain ⟨H, hH⟩ : ∃ H, Ora.honP S u = H := ⟨_, rfl⟩
  have HSI := Lib.hid (fun w ht => signed_any g m S (u, d) w ht hk)
  have HRS := Lib.hid (fun w hv => rSigned_any S v (u, d) w hv ht.rise (by omega))
  have HHO := Lib.hid (fun w ht => honest_any g m S u w ht)
  have HRH := Lib.hid (fun w hv => rHonest_any S v u w hv (by omega))
  have HAL := Lib.hid (all_any g m S w ht (by omega))
  rw [hX] at HSI HRS
  rw [hH] at HHO HRH
  obtain ⟨A, cap, rfl, -⟩ := hv.form
  dsimp only at HSI HRS ⊢
  clear ht hv hk hX hH
  go_enter Try.func11, Try.ntmps11
  go_wp2_with fail
  refine HAL.out.mono ?_
  rintro e w1 ⟨s, rfl, hown, hb1⟩
  obtain ⟨A1, cap1, rfl, hA1, hR1⟩ := hown.rest
  have HB1 := Lib.hid hb1
  have HR1 := Lib.hid hR1
  have HA1 := Lib.hid hA1
  clear hown hb1 hR1 hA1
  go_wp2_with fail
  refine (HSI.out _ (HT.out.below HB1.out)).mono ?_
  rintro e w2 ⟨rfl, hb2⟩
  have HB12 := Lib.hid hb2
  have HB2 := Lib.hid (HB1.out.trans (hb2.mono HB1.out.size))
  clear hb2
  go_wp2_with fail
  refine (HRS.out _ (HV.out.below HB2.out)).mono ?_
  rintro e w3 ⟨rfl, rfl⟩
  go_wp2_with fail
  refine (HHO.out _ (HT.out.below HB2.out)).mono ?_
  rintro e w4 ⟨rfl, hb4⟩
  have HB14 := Lib.hid (HB12.out.trans (hb4.mono HB12.out.size))
  have HB4 := Lib.hid (HB2.out.trans (hb4.mono HB2.out.size))
  clear hb4
  go_wp2_with fail
  refine (HRH.out _ (HV.out.below HB4.out)).mono ?_
  rintro e w5 ⟨rfl, rfl⟩
  go_wp2
  have HR5 := Lib.hid (fun gb q => (HR1.out gb q).below (HB14.out))
  clear HSI HRS HHO HRH HAL HR1
  go_loopw [10] (fun i wr => ∃ k : Nat, k ≤ S.length ∧ i = .int .i64 k ∧ (∀ gb, A1 = some ⟨gb, 0, none⟩ → Rest wr gb S k) ∧ Below w.heap.size w wr) (fun i _ => S.length - (intOf i).toNat)
  case atStart => exact ⟨0, Nat.zero_le _, rfl, HR5.out, HB4.out⟩
  case round =>
    obtain ⟨k, hk, rfl, hr, hb⟩ := hrel
    have HBk := Lib.hid hb
    by_cases hlt : k < S.length
    · have h1 : (k : Int) < (S.length : Int) := by omega
      have h0 : (0 : Int) ≤ (k : Int) := by omega
      have h2 : (k : Int) ≤ 2000 := by omega
      obtain ⟨gb, rfl, hgb⟩ := HA1.out (by omega)
      have hrk := hr gb rfl
      have HRK := Lib.hid (fun a b c nq => Rest.step (hrk.below (bel_drewN (Below.refl _ wr) nq)) a b c)
      obtain ⟨d0, d1, d2, f0, f1, f2⟩ := hrk k hlt (Nat.le_refl _)
      obtain ⟨b, o, rfl, c0, c1, c2⟩ := HV.out.at hb k hlt
      obtain ⟨⟨⟨x, y⟩, z⟩, hs⟩ : ∃ s, S[k] = s := ⟨_, rfl⟩
      rw [hs] at c0 c1 c2 d0 d1 d2
      dsimp only at c0 c1 c2 d0 d1 d2
      have HGB := Lib.hid hgb
      clear hs hb hr hrk hgb
      go_wp2
      go_quiet (fail)
      all_goals
        go_wp2
        refine ⟨⟨k + 1, by omega, by go_num, fun gb' q => ?_, ?_⟩, by simp [intOf]; omega⟩
        · obtain rfl : gb = gb' := by simpa using q
          exact HRK.out _ _ _ _
        · exact (((bel_drewN HBk.out _).setCell HGB.out _).setCell HGB.out _).setCell HGB.out _
    · have h1 : ¬ ((k : Int) < (S.length : Int)) := by omega
      go_wp2
      go_ret
      exact ⟨rfl, HBk.out⟩
end Go.Proofs.Yteolephlajhghaa
