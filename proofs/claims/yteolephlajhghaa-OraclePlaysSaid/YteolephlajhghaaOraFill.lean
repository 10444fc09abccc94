/- fill: a table of at most 40 steps. -/
import Derived.Test.YteolephlajhghaaOraArgs
import Derived.Test.YteolephlajhghaaOraWorks
namespace Go.Proofs.Yteolephlajhghaa
open Go.RowKit
open Go.Proofs.Yteolephlajhghaa.Ora (K Sig St)

theorem take40 {α : Type} (L : List α) (k : Nat) (h40 : k ≤ 40) (hL : k ≤ L.length) (h : ¬ (k < L.length ∧ k < 40)) : L.take k = L.take 40 := by
  by_cases e : k = 40
  · rw [e]
  · rw [List.take_of_length_le (by omega), List.take_of_length_le (by omega)]

set_option maxRecDepth 8000 in
set_option maxHeartbeats 1000000 in
theorem fill_any (L : List St) (v : Value) (w : World) (hv : Sts w v L) (hok : ∀ s ∈ L, OkSt s) :
    Calls Try.prog 13 #[v] w (NewPost w (Ora.fillP (L.take 40))) := by
  have HV := Lib.hid hv
  have HOK := Lib.hid hok
  obtain ⟨A, cap, rfl, hcap⟩ := hv.form
  clear hv hok hcap
  go_enter Try.func13, Try.ntmps13
  go_wp2_with fail
  refine (new_any _).mono ?_
  rintro e w1 ⟨g, m, rfl, hg, hm, ht, hb⟩
  have HT := Lib.hid ht
  have HB := Lib.hid hb
  have HM := Lib.hid hm
  have HG := Lib.hid hg
  clear ht hb hg hm
  go_wp2
  go_loopw [4] (fun i wr => ∃ k : Nat, k ≤ 40 ∧ k ≤ L.length ∧ i = .int .i64 k ∧ TabAt wr g m (Ora.fillP (L.take k)) ∧ Below w.heap.size w wr) (fun i _ => 40 - (intOf i).toNat)
  case atStart => exact ⟨0, by omega, Nat.zero_le _, rfl, HT.out, HB.out⟩
  case round =>
    obtain ⟨k, hk40, hkL, rfl, ht, hb⟩ := hrel
    have HTk := Lib.hid ht
    have HBk := Lib.hid hb
    clear ht hb HT HB
    by_cases hlt : k < L.length ∧ k < 40
    · have h1 : (k : Int) < (L.length : Int) := by omega
      have h2 : (k : Int) < 40 := by omega
      have h0 : (0 : Int) ≤ (k : Int) := by omega
      obtain ⟨b, o, rfl, hblt, -⟩ := HV.out.at (Below.refl _ w) k hlt.1
      have HC : Hid (∀ w', Below w.heap.size w w' → w'.cell? ⟨b, o + k * 4, none⟩ = some (.string ⟨L[k].who.toArray⟩) ∧ w'.cell? ⟨b, o + k * 4 + 1, none⟩ = some (.string ⟨L[k].mark.toArray⟩) ∧ w'.cell? ⟨b, o + k * 4 + 2, none⟩ = some (.bool L[k].honest)) :=
        Lib.hid (fun w' hb => by obtain ⟨b', o', he, _, q1, q2, q3, _⟩ := HV.out.at hb k hlt.1; cases he; exact ⟨q1, q2, q3⟩)
      have HS := Lib.hid (Ora.fill_take L k hlt.1)
      have HO := Lib.hid (HOK.out L[k] (List.getElem_mem hlt.1))
      obtain ⟨⟨x, d, hn, fk⟩, hs⟩ : ∃ s, L[k] = s := ⟨_, rfl⟩
      rw [hs] at HC HS HO
      dsimp only at HC
      obtain ⟨S, hS⟩ : ∃ S, Ora.fillP (L.take k) = S := ⟨_, rfl⟩
      rw [hS] at HTk HS
      have HSG := Lib.hid (fun w ht => sign_any g m S (x, d) hn w ht HO.out.key)
      dsimp only at HSG
      obtain ⟨c0, c1, c2⟩ := HC.out wr HBk.out
      have HBD : Hid (Below w.heap.size w wr.drew) := Lib.hid HBk.out.drew
      clear hs hS hblt
      go_wp2
      go_region_held3 (fun w' => w'.cell? ⟨b, o + k * 4, none⟩ = some (.string ⟨x.toArray⟩) ∧ w'.cell? ⟨b, o + k * 4 + 1, none⟩ = some (.string ⟨d.toArray⟩) ∧ w'.cell? ⟨b, o + k * 4 + 2, none⟩ = some (.bool hn))
        ((refine HC.out _ ?_; with_reducible (first | exact hB2 | exact HBD.out | fail)))
        ((go_at_call 9; refine (HSG.out _ (HTk.out.below (Below.refl _ wr).drew)).mono ?_; rintro e w2 ⟨rfl, ht2, ho2⟩; (have hB2 : Below w.heap.size w w2 := bsign HBD.out HM.out (Nat.le_refl _) ho2); (have HT2 := Lib.hid ht2); clear ht2 ho2))
      all_goals
        go_wp2
        exact ⟨⟨k + 1, by omega, by omega, by go_num, by rw [HS.out]; exact HT2.out, hB2⟩, by simp [intOf]; omega⟩
    · have hT := take40 L k hk40 hkL hlt
      by_cases hc : k < L.length
      · have h1 : (k : Int) < (L.length : Int) := by omega
        have h2 : ¬ ((k : Int) < 40) := by omega
        rw [hT] at HTk
        clear hT hlt hc
        go_wp2
        go_ret
        exact ⟨g, m, rfl, HG.out, HM.out, HTk.out, HBk.out⟩
      · have h1 : ¬ ((k : Int) < (L.length : Int)) := by omega
        rw [hT] at HTk
        clear hT hlt hc
        go_wp2
        go_ret
        exact ⟨g, m, rfl, HG.out, HM.out, HTk.out, HBk.out⟩
end Go.Proofs.Yteolephlajhghaa
