/- OraclePlays. -/
import Derived.Test.YteolephlajhghaaOraTells
import Derived.Test.YteolephlajhghaaOraFill
namespace Go.Proofs.Yteolephlajhghaa
open Go.RowKit
open Go.Proofs.Yteolephlajhghaa.Ora (K Sig St)

def oldKey : K := ([111, 116, 104, 101, 114], [97, 110, 32, 111, 108, 100, 32, 116, 97, 98, 108, 101, 32, 116, 104, 97, 116, 32, 105, 115, 32, 115, 105, 103, 110, 101, 100, 32, 111, 110, 46, 46])
def leftKey : K := ([97], [116, 104, 101, 32, 109, 97, 114, 107, 32, 111, 102, 32, 97, 32, 116, 97, 98, 108, 101, 32, 116, 104, 97, 116, 32, 105, 115, 32, 108, 101, 102, 116])
theorem okOld : OkK oldKey := by unfold OkK; decide +kernel
theorem okLeft : OkK leftKey := by unfold OkK; decide +kernel

set_option maxRecDepth 8000 in
set_option maxHeartbeats 4000000 in
theorem plays_walk (L : List St) (v : Value) (who mark : List UInt8) (w : World) (hv : Sts w v L) (_hl : L.length * 40 ≤ reachBytes) (hok : ∀ s ∈ L, OkSt s) (hw : who.length ≤ 140737488351232) (hm : mark.length ≤ 140737488351232) :
    Calls Try.prog 3 #[v, .string ⟨who.toArray⟩, .string ⟨mark.toArray⟩] w fun e w' => e = .returned (.bool true) ∧ Below w.heap.size w w' := by
  have HV := Lib.hid hv
  have HOK := Lib.hid hok
  have HK : Hid (OkK (who, mark)) := Lib.hid ⟨hw, hm⟩
  have HSO := Lib.hid (fun g m S w ht => sign_any g m S oldKey true w ht okOld)
  have HSL := Lib.hid (fun g m S w ht => sign_any g m S leftKey false w ht okLeft)
  obtain ⟨A, cap, rfl, hcap⟩ := hv.form
  clear hv hok hcap hw hm
  go_enter Try.func3, Try.ntmps3
  go_wp2_with fail
  refine (new_any _).mono ?_
  rintro e w1 ⟨g, m, rfl, hg, hm, ht, hb⟩
  have HT := Lib.hid ht
  have HB := Lib.hid hb
  have HM := Lib.hid hm
  clear ht hb hg hm
  go_wp2
  go_loopw [7, 8, 9] (fun t l i wr => ∃ (k g m : Nat), k ≤ 40 ∧ k ≤ L.length ∧ i = .int .i64 k ∧ t = .pointer (some ⟨g, 0, none⟩) ∧ w.heap.size ≤ m ∧ TabAt wr g m (Ora.fillP (L.take k)) ∧ Sgs wr l (Ora.fillP (L.take k)) ∧ (Ora.fillP (L.take k) = [] → l = .slice none 0 0) ∧ Below w.heap.size w wr) (fun _ _ i _ => 40 - (intOf i).toNat)
  case atStart => exact ⟨0, g, m, by omega, Nat.zero_le _, rfl, rfl, HM.out, HT.out, Sgs.nil _, fun _ => rfl, HB.out⟩
  case round =>
    clear HT HB HM
    obtain ⟨k, g, m, hk40, hkL, rfl, rfl, hm, ht, hl, hn, hb⟩ := hrel
    by_cases hlt : k < L.length ∧ k < 40
    · have h1 : (k : Int) < (L.length : Int) := by omega
      have h2 : (k : Int) < 40 := by omega
      have h0 : (0 : Int) ≤ (k : Int) := by omega
      obtain ⟨b, o, rfl, hblt, c0, c1, c2, c3⟩ := HV.out.at hb k hlt.1
      have HC : Hid (∀ w', Below w.heap.size w w' → w'.cell? ⟨b, o + k * 4, none⟩ = some (.string ⟨L[k].who.toArray⟩) ∧ w'.cell? ⟨b, o + k * 4 + 1, none⟩ = some (.string ⟨L[k].mark.toArray⟩) ∧ w'.cell? ⟨b, o + k * 4 + 2, none⟩ = some (.bool L[k].honest)) :=
        Lib.hid (fun w' hb => by obtain ⟨b', o', he, _, q1, q2, q3, _⟩ := HV.out.at hb k hlt.1; cases he; exact ⟨q1, q2, q3⟩)
      have HS := Lib.hid (Ora.fill_take L k hlt.1)
      have HO := Lib.hid (HOK.out L[k] (List.getElem_mem hlt.1))
      have hfl := Ora.fill_length (L.take k)
      rw [List.length_take] at hfl
      have HRI := Lib.hid (Ora.fill_rising (L.take k))
      obtain ⟨⟨x, d, hh, fk⟩, hs⟩ : ∃ s, L[k] = s := ⟨_, rfl⟩
      rw [hs] at HC HS HO c0 c1 c2 c3
      dsimp only at HC c0 c1 c2 c3
      obtain ⟨S, hS⟩ : ∃ S, Ora.fillP (L.take k) = S := ⟨_, rfl⟩
      rw [hS] at ht hl hn HS hfl HRI
      have HSLEN : Hid (S.length ≤ 40) := Lib.hid (by omega)
      obtain ⟨A8, cap8, rfl, -⟩ := hl.form
      have HTk := Lib.hid ht
      have HLk := Lib.hid hl
      have HNk := Lib.hid hn
      have HMk := Lib.hid hm
      have HBk := Lib.hid hb
      clear hs hS hblt ht hl hn hm hb hfl
      go_upto_if 31 with fail
      go_cut [7, 10] from 32 to 40 (fun t p wx => ∃ (g m : Nat), t = .pointer (some ⟨g, 0, none⟩) ∧ w.heap.size ≤ m ∧ TabAt wx g m S ∧ Sgs wx (.slice A8 S.length cap8) S ∧ Below w.heap.size w wx)
      case first =>
        cases fk with
        | false =>
          go_wp2
          go_meet
          case rel => exact ⟨g, m, rfl, HMk.out, HTk.out, HLk.out, HBk.out⟩
        | true =>
          clear c0 c1 c2 c3
          go_wp2_with fail
          refine (fork_any g m S _ HTk.out).mono ?_
          rintro e w3 ⟨g2, m2, rfl, hg2, hm2, ht, hb⟩
          have HF3 := Lib.hid ht
          have HT3 := Lib.hid (HTk.out.below hb)
          have HNE : Hid (m ≠ m2) := Lib.hid (by have := HTk.out.map.lt; omega)
          have HM2 : Hid (w.heap.size ≤ m2) := Lib.hid (Nat.le_trans HBk.out.size hm2)
          have HL3 := Lib.hid (HLk.out.below hb)
          have HB3 := Lib.hid (HBk.out.trans (hb.mono HBk.out.size))
          clear ht hb hg2 hm2
          go_wp2_with fail
          refine (HSO.out g m S _ HT3.out).mono ?_
          rintro e w4 ⟨rfl, ht4, ho4⟩
          have HT4 := Lib.hid ht4
          have HF4 := Lib.hid (other_table HF3.out HT3.out (fun e => HNE.out e.symm) ho4)
          have HL4 := Lib.hid (HL3.out.out ho4 (fun _ _ _ _ e => HT3.out.map.no_cells _ _ _ _ e))
          have HB4 := Lib.hid (bsign HB3.out HMk.out (Nat.le_refl _) ho4)
          clear ht4 ho4
          go_wp2_with fail
          refine (HSL.out g m _ _ HT4.out).mono ?_
          rintro e w5 ⟨rfl, ht5, ho5⟩
          have HF5 := Lib.hid (other_table HF4.out HT4.out (fun e => HNE.out e.symm) ho5)
          have HL5 := Lib.hid (HL4.out.out ho5 (fun _ _ _ _ e => HT4.out.map.no_cells _ _ _ _ e))
          have HB5 := Lib.hid (bsign HB4.out HMk.out (Nat.le_refl _) ho5)
          clear ht5 ho5
          go_wp2
          go_meet
          case rel => exact ⟨g2, m2, rfl, HM2.out, HF5.out, HL5.out, HB5.out⟩
      case rest =>
        obtain ⟨g3, m3, rfl, hm3, ht3, hl3, hb3⟩ := hcut
        obtain ⟨⟨S', C⟩, hsc⟩ : ∃ z, Ora.signP S (x, d) hh = z := ⟨_, rfl⟩
        have HSG := Lib.hid (fun w ht => sign_any g3 m3 S (x, d) hh w ht HO.out.key)
        have HRG := Lib.hid (fun w hl => rSign_any S (.slice A8 S.length cap8) (x, d) hh w hl HNk.out HRI.out (by have := HSLEN.out; omega))
        have HS' : Hid (Ora.fillP (L.take (k + 1)) = S') := Lib.hid (by rw [HS.out]; unfold Ora.step; dsimp only [Ora.St.key]; rw [hsc])
        have HSL' : Hid (S'.length ≤ 2000) := Lib.hid (by have := Ora.sign_length S (x, d) hh; rw [hsc] at this; have := HSLEN.out; dsimp only at *; omega)
        have HOX : Hid (OkK (x, d)) := Lib.hid HO.out.key
        unfold SignPost at HSG
        unfold RSignPost at HRG
        rw [hsc] at HSG HRG
        dsimp only at HSG HRG
        have HT3 := Lib.hid ht3
        have HL3 := Lib.hid hl3
        have HM3 := Lib.hid hm3
        obtain ⟨c0, c1, c2⟩ := HC.out wc hb3
        have HBD : Hid (Below w.heap.size w wc.drew) := Lib.hid hb3.drew
        clear ht3 hl3 hb3 hm3 hsc HTk HLk HNk HMk HBk HS HSO HSL
        go_wp2
        go_region_held3 (fun w' => w'.cell? ⟨b, o + k * 4, none⟩ = some (.string ⟨x.toArray⟩) ∧ w'.cell? ⟨b, o + k * 4 + 1, none⟩ = some (.string ⟨d.toArray⟩) ∧ w'.cell? ⟨b, o + k * 4 + 2, none⟩ = some (.bool hh))
          ((refine HC.out _ ?_; with_reducible (first | exact hB4 | exact HBD.out | fail)))
          ((go_at_call 9; refine (HSG.out _ (HT3.out.below (Below.refl _ wc).drew)).mono ?_; rintro e w4 ⟨rfl, ht4, ho4⟩; (have hB4 : Below w.heap.size w w4 := bsign HBD.out HM3.out (Nat.le_refl _) ho4); (have HL4 := Lib.hid ((HL3.out.below (Below.refl _ wc).drew).out ho4 (fun _ _ _ _ e => (HT3.out.below (Below.refl _ wc).drew).map.no_cells _ _ _ _ e))); (have HT4 := Lib.hid ht4); clear ht4 ho4))
        have HBD4 : Hid (Below w.heap.size w w4.drew) := Lib.hid hB4.drew
        have HB4 := Lib.hid hB4
        obtain ⟨c0, c1, c2⟩ := HC.out w4 hB4
        clear hB4
        go_wp2
        go_region_held3 (fun w' => w'.cell? ⟨b, o + k * 4, none⟩ = some (.string ⟨x.toArray⟩) ∧ w'.cell? ⟨b, o + k * 4 + 1, none⟩ = some (.string ⟨d.toArray⟩) ∧ w'.cell? ⟨b, o + k * 4 + 2, none⟩ = some (.bool hh))
          ((refine HC.out _ ?_; with_reducible (first | exact hB5 | exact HBD4.out | fail)))
          ((go_at_call 10; refine (HRG.out _ (HL4.out.below (Below.refl _ w4).drew)).mono ?_; rintro e w5 ⟨v5, rfl, hl5, hn5, hb5⟩; (have hB5 : Below w.heap.size w w5 := HBD4.out.trans (hb5.mono HBD4.out.size)); (have HT5 := Lib.hid ((HT4.out.below (Below.refl _ w4).drew).below hb5)); (have HL5 := Lib.hid hl5); (have HN5 := Lib.hid hn5); clear hl5 hn5 hb5))
        have HB5 := Lib.hid hB5
        clear hB5 HSG HRG HT4 HL4 HB4 HBD HBD4 HT3 HL3
        have HBDq : Hid (Below w5.heap.size w5 w5.drew) := Lib.hid (Below.refl _ w5).drew
        have HCq : Hid (∀ w', Below w5.heap.size w5 w' → w'.cell? ⟨b, o + k * 4, none⟩ = some (.string ⟨x.toArray⟩) ∧ w'.cell? ⟨b, o + k * 4 + 1, none⟩ = some (.string ⟨d.toArray⟩)) := Lib.hid (fun w' h => by
          have hbb := HB5.out.trans (h.mono HB5.out.size)
          exact ⟨(HC.out _ hbb).1, (HC.out _ hbb).2.1⟩)
        have HT1 := Lib.hid (fun w' (h : Below w5.heap.size w5 w') => tells_any g3 m3 S' v5 (x, d) w' (HT5.out.below h) (HL5.out.below h) HOX.out HSL'.out)
        have HT2 := Lib.hid (fun w' (h : Below w5.heap.size w5 w') => tells_any g3 m3 S' v5 (who, mark) w' (HT5.out.below h) (HL5.out.below h) HK.out HSL'.out)
        dsimp only at HT1 HT2
        obtain ⟨c0, c1⟩ := HCq.out w5 (Below.refl _ _)
        go_wp2
        go_region_held3 (fun w' => w'.cell? ⟨b, o + k * 4, none⟩ = some (.string ⟨x.toArray⟩) ∧ w'.cell? ⟨b, o + k * 4 + 1, none⟩ = some (.string ⟨d.toArray⟩))
          ((refine HCq.out _ ?_; with_reducible (first | exact hB8 | exact hB7 | exact HBDq.out | fail)))
          ((go_at_call 11; first | (with_reducible refine (HT1.out _ HBDq.out).mono ?_; rintro e w7 ⟨rfl, hb7⟩; (have hB7 := bchain HBDq.out hb7)) | (with_reducible refine (HT2.out _ hB7).mono ?_; rintro e w8 ⟨rfl, hb8⟩; (have hB8 := bchain hB7 hb8))))
        go_wp2
        exact ⟨⟨k + 1, g3, m3, by omega, by omega, by go_num, rfl, HM3.out, by rw [HS'.out]; exact HT5.out.below hB8, by rw [HS'.out]; exact HL5.out.below hB8, by rw [HS'.out]; exact HN5.out, HB5.out.trans (hB8.mono HB5.out.size)⟩, by simp [intOf]; omega⟩
    · have HBk := Lib.hid hb
      clear ht hl hn hb hm
      by_cases hc : k < L.length
      · have h1 : (k : Int) < (L.length : Int) := by omega
        have h2 : ¬ ((k : Int) < 40) := by omega
        clear hlt hc
        go_wp2_with fail
        refine (works_any _).mono ?_
        rintro e w3 ⟨rfl, hb3⟩
        go_wp2
        go_ret
        exact ⟨rfl, HBk.out.trans (hb3.mono HBk.out.size)⟩
      · have h1 : ¬ ((k : Int) < (L.length : Int)) := by omega
        clear hlt hc
        go_wp2_with fail
        refine (works_any _).mono ?_
        rintro e w3 ⟨rfl, hb3⟩
        go_wp2
        go_ret
        exact ⟨rfl, HBk.out.trans (hb3.mono HBk.out.size)⟩

theorem plays_law (v : Value) (L : List St) (who mark : ByteArray) (w : World) (hv : Sts w v L) (hl : L.length * 40 ≤ reachBytes) (hok : ∀ s ∈ L, OkSt s) (_ : who.size ≤ maxLen) (hw : who.data.toList.length ≤ reachBytes) (_ : mark.size ≤ maxLen) (hm : mark.data.toList.length ≤ reachBytes) :
    Calls Try.prog 3 #[v, .string who, .string mark] w fun e w' => e = .returned (.bool true) ∧ Below w.heap.size w w' := by
  have hr : reachBytes = 140737488351232 := rfl
  obtain ⟨l, rfl⟩ := bytes_list who
  obtain ⟨k, rfl⟩ := bytes_list mark
  exact plays_walk L v l k w hv hl hok (by simp at hw; omega) (by simp at hm; omega)
end Go.Proofs.Yteolephlajhghaa
