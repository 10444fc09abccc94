/- OracleFork. -/
import Derived.Test.YteolephlajhghaaOraFill
import Derived.Test.YteolephlajhghaaOraTwo
import Derived.Test.YteolephlajhghaaOraForkMath
import Derived.Shelf.SlSortCmp.QuietGrown
namespace Go.Proofs.Yteolephlajhghaa
open Go.RowKit
open Go.Proofs.Yteolephlajhghaa.Ora (K Sig St)

theorem cells4 {w : World} {g : Nat} {a b c d : Value} {T : TypeId} (h : w.heap[g]? = some (.cells #[a, b, c, d] T (0, 0))) :
    w.cell? ⟨g, 0, none⟩ = some a ∧ w.cell? ⟨g, 1, none⟩ = some b ∧ w.cell? ⟨g, 2, none⟩ = some c :=
  ⟨cell_of_row w g 0 _ _ _ h, cell_of_row w g 1 _ _ _ h, cell_of_row w g 2 _ _ _ h⟩
set_option maxRecDepth 8000 in
set_option maxHeartbeats 4000000 in
theorem fork_walk (L : List St) (v : Value) (a b : St) (w : World) (hv : Sts w v L) (_hl : L.length * 40 ≤ reachBytes) (hok : ∀ s ∈ L, OkSt s) (ha : OkSt a) (hb : OkSt b) :
    Calls Try.prog 6 #[v, .agg (stcl a).toArray, .agg (stcl b).toArray] w fun e w' => e = .returned (.bool true) ∧ Below w.heap.size w w' := by
  have hfl := Ora.fill_length (L.take 40)
  have h40 : (L.take 40).length ≤ 40 := by simp; omega
  have HFT := Lib.hid (Ora.fork_told (Ora.fill_rising (L.take 40)) (by omega) a b)
  have HL1 := Lib.hid (Ora.sign_length (Ora.fillP (L.take 40)) a.key a.honest)
  have HL2 := Lib.hid (Ora.sign_length (Ora.fillP (L.take 40)) b.key b.honest)
  have HFI := Lib.hid (fun w hv => fill_any L v w hv hok)
  obtain ⟨S, hS⟩ : ∃ S, Ora.fillP (L.take 40) = S := ⟨_, rfl⟩
  have HSL : Hid (S.length ≤ 40) := Lib.hid (by rw [← hS]; omega)
  rw [hS] at HFT HL1 HL2 HFI
  have HV := Lib.hid hv
  obtain ⟨A, cap, rfl, hcap⟩ := hv.form
  have HKA := Lib.hid ha.key
  have HKB := Lib.hid hb.key
  have HSA := Lib.hid (fun g m w ht => sign_any g m S a.key a.honest w ht ha.key)
  have HSB := Lib.hid (fun g m w ht => sign_any g m S b.key b.honest w ht hb.key)
  unfold Ora.step at HFT
  obtain ⟨⟨xa, da, na, fa⟩, rfl⟩ : ∃ s, s = a := ⟨a, rfl⟩
  obtain ⟨⟨xb, db, nb, fb⟩, rfl⟩ : ∃ s, s = b := ⟨b, rfl⟩
  dsimp only [Ora.St.key] at HFT HL1 HL2 HSA HSB HKA HKB
  unfold SignPost at HSA HSB
  obtain ⟨⟨S1, ca⟩, hsa⟩ : ∃ z, Ora.signP S (xa, da) na = z := ⟨_, rfl⟩
  obtain ⟨⟨S2, cb⟩, hsb⟩ : ∃ z, Ora.signP S (xb, db) nb = z := ⟨_, rfl⟩
  rw [hsa] at HFT HL1 HSA
  rw [hsb] at HFT HL2 HSB
  dsimp only at HFT HL1 HL2 HSA HSB
  obtain ⟨X, hX⟩ : ∃ X, (Ora.look S1 (xa, da)).isSome = X := ⟨_, rfl⟩
  obtain ⟨Y, hY⟩ : ∃ Y, (Ora.look S2 (xa, da)).isSome = Y := ⟨_, rfl⟩
  have HX := Lib.hid hX
  have HY := Lib.hid hY
  rw [hX, hY] at HFT
  unfold stcl
  dsimp only
  clear hv hok ha hb hcap hfl h40 hS hsa hsb hX hY
  go_enter Try.func6, Try.ntmps6
  go_wp2_with fail
  have hb0 : Below w.heap.size w ((w.alloc (.cells #[.string ⟨xa.toArray⟩, .string ⟨da.toArray⟩, .bool na, .bool fa] 27)).alloc (.cells #[.string ⟨xb.toArray⟩, .string ⟨db.toArray⟩, .bool nb, .bool fb] 27)) := ((Below.refl _ w).alloc (Nat.le_refl _) _).alloc (by simp) _
  obtain ⟨p, hp⟩ : ∃ p, w.heap.size = p := ⟨_, rfl⟩
  obtain ⟨a0, a1, a2⟩ := cells4 (heap_old_at (.cells #[.string ⟨xb.toArray⟩, .string ⟨db.toArray⟩, .bool nb, .bool fb] 27) (heap_new_at w (.cells #[.string ⟨xa.toArray⟩, .string ⟨da.toArray⟩, .bool na, .bool fa] 27) p hp.symm))
  obtain ⟨b0, b1, b2⟩ := cells4 (heap_new_at (w.alloc (.cells #[.string ⟨xa.toArray⟩, .string ⟨da.toArray⟩, .bool na, .bool fa] 27)) (.cells #[.string ⟨xb.toArray⟩, .string ⟨db.toArray⟩, .bool nb, .bool fb] 27) (p + 1) (by simp [hp]))
  rw [hp] at hb0 ⊢
  have hpl : p ≤ ((w.alloc (.cells #[.string ⟨xa.toArray⟩, .string ⟨da.toArray⟩, .bool na, .bool fa] 27)).alloc (.cells #[.string ⟨xb.toArray⟩, .string ⟨db.toArray⟩, .bool nb, .bool fb] 27)).heap.size := by simp [hp]; omega
  generalize ((w.alloc (.cells #[.string ⟨xa.toArray⟩, .string ⟨da.toArray⟩, .bool na, .bool fa] 27)).alloc (.cells #[.string ⟨xb.toArray⟩, .string ⟨db.toArray⟩, .bool nb, .bool fb] 27)) = w0 at *
  have HP0 := Lib.hid hpl
  have HB00 := Lib.hid hb0
  have HBW : Hid (∀ w', Below w0.heap.size w0 w' → Below p w w') := Lib.hid (fun w' h => hb0.trans (h.mono hpl))
  have HVV : Hid (∀ w', Below w0.heap.size w0 w' → Sts w' (.slice A L.length cap) L) := Lib.hid (fun w' h => HV.out.below (by rw [hp]; exact hb0.trans (h.mono hpl)))
  have HCA : Hid (∀ w', Below w0.heap.size w0 w' → w'.cell? ⟨p, 0, none⟩ = some (.string ⟨xa.toArray⟩) ∧ w'.cell? ⟨p, 1, none⟩ = some (.string ⟨da.toArray⟩) ∧ w'.cell? ⟨p, 2, none⟩ = some (.bool na)) :=
    Lib.hid (fun w' h => ⟨(h.cell (World.block_lt_of_cell? _ _ a0)).trans a0, (h.cell (World.block_lt_of_cell? _ _ a1)).trans a1, (h.cell (World.block_lt_of_cell? _ _ a2)).trans a2⟩)
  have HCB : Hid (∀ w', Below w0.heap.size w0 w' → w'.cell? ⟨p + 1, 0, none⟩ = some (.string ⟨xb.toArray⟩) ∧ w'.cell? ⟨p + 1, 1, none⟩ = some (.string ⟨db.toArray⟩) ∧ w'.cell? ⟨p + 1, 2, none⟩ = some (.bool nb)) :=
    Lib.hid (fun w' h => ⟨(h.cell (World.block_lt_of_cell? _ _ b0)).trans b0, (h.cell (World.block_lt_of_cell? _ _ b1)).trans b1, (h.cell (World.block_lt_of_cell? _ _ b2)).trans b2⟩)
  have HPW := Lib.hid hp
  clear hb0 hpl a0 a1 a2 b0 b1 b2 hp
  refine (works_any _).mono ?_
  rintro e w1 ⟨rfl, hb1⟩
  have HB1 := Lib.hid hb1
  clear hb1
  go_wp2_with fail
  refine (HFI.out _ (HVV.out _ HB1.out)).mono ?_
  rintro e w2 ⟨g, m, rfl, hg, hm, ht, hb⟩
  have HT2 := Lib.hid ht
  have HB2 := Lib.hid (HB1.out.trans (hb.mono HB1.out.size))
  have HM : Hid (w0.heap.size ≤ m) := Lib.hid (Nat.le_trans HB1.out.size hm)
  clear ht hb hg hm
  go_wp2_with fail
  refine (fork_any g m S _ HT2.out).mono ?_
  rintro e w3 ⟨g2, m2, rfl, hg2, hm2, ht, hb⟩
  have HF3 := Lib.hid ht
  have HT3 := Lib.hid (HT2.out.below hb)
  have HNE : Hid (m ≠ m2) := Lib.hid (by have := HT2.out.map.lt; omega)
  have HM2 : Hid (w0.heap.size ≤ m2) := Lib.hid (Nat.le_trans HB2.out.size hm2)
  have HB3 := Lib.hid (HB2.out.trans (hb.mono HB2.out.size))
  clear ht hb hg2 hm2
  go_wp2_with fail
  refine (all_any g m S _ HT3.out (by have := HSL.out; omega)).mono ?_
  rintro e w4 ⟨s4, rfl, hown, hb4⟩
  obtain ⟨A4, cap4, rfl⟩ := own_form hown
  have HT4 := Lib.hid (HT3.out.below hb4)
  have HF4 := Lib.hid (HF3.out.below hb4)
  have HB4 := Lib.hid (HB3.out.trans (hb4.mono HB3.out.size))
  obtain ⟨a0, a1, a2⟩ := HCA.out _ HB4.out
  clear hown hb4
  go_wp2_with fail
  refine (HSA.out g2 m2 _ HF4.out).mono ?_
  rintro e w5 ⟨rfl, hf5, ho5⟩
  have HF5 := Lib.hid hf5
  have HT5 := Lib.hid (other_table HT4.out HF4.out HNE.out ho5)
  have HB5 := Lib.hid (bsign HB4.out HM2.out (Nat.le_refl _) ho5)
  clear hf5 ho5 a0 a1 a2
  go_wp2_with fail
  refine (all_any g m S _ HT5.out (by have := HSL.out; omega)).mono ?_
  rintro e w6 ⟨s6, rfl, hown, hb6⟩
  obtain ⟨A6, cap6, rfl⟩ := own_form hown
  have HT6 := Lib.hid (HT5.out.below hb6)
  have HF6 := Lib.hid (HF5.out.below hb6)
  have HB6 := Lib.hid (HB5.out.trans (hb6.mono HB5.out.size))
  clear hown hb6
  go_wp2_with fail
  refine (all_any g2 m2 S1 _ HF6.out (by have := HSL.out; have := HL1.out; omega)).mono ?_
  rintro e w7 ⟨s7, rfl, hown, hb7⟩
  have HO7 := Lib.hid (show OwnS w7 w0.heap.size s7 S1 from ⟨hown.1, hown.2.imp id (fun ⟨k, c, cur, q1, q2, q3⟩ => ⟨k, c, cur, q1, Nat.le_trans HB6.out.size q2, q3⟩)⟩)
  obtain ⟨A7, cap7, rfl⟩ := own_form hown
  have HT7 := Lib.hid (HT6.out.below hb7)
  have HF7 := Lib.hid (HF6.out.below hb7)
  have HB7 := Lib.hid (HB6.out.trans (hb7.mono HB6.out.size))
  obtain ⟨b0, b1, b2⟩ := HCB.out _ HB7.out
  clear hown hb7
  go_wp2_with fail
  refine (HSB.out g m _ HT7.out).mono ?_
  rintro e w8 ⟨rfl, ht8, ho8⟩
  have HT8 := Lib.hid ht8
  have HF8 := Lib.hid (other_table HF7.out HT7.out (fun e => HNE.out e.symm) ho8)
  have HO8 := Lib.hid (other_row HO7.out HT7.out ho8)
  have HB8 := Lib.hid (bsign HB7.out HM.out (Nat.le_refl _) ho8)
  clear ht8 ho8 b0 b1 b2
  go_wp2_with fail
  refine (all_any g2 m2 S1 _ HF8.out (by have := HSL.out; have := HL1.out; omega)).mono ?_
  rintro e w9 ⟨s9, rfl, hown, hb9⟩
  have HO9 := Lib.hid (HO8.out.below hb9)
  have HN9 := Lib.hid (show OwnS w9 w0.heap.size s9 S1 from ⟨hown.1, hown.2.imp id (fun ⟨k, c, cur, q1, q2, q3⟩ => ⟨k, c, cur, q1, Nat.le_trans HB8.out.size q2, q3⟩)⟩)
  obtain ⟨A9, cap9, rfl⟩ := own_form hown
  have HT9 := Lib.hid (HT8.out.below hb9)
  have HF9 := Lib.hid (HF8.out.below hb9)
  have HB9 := Lib.hid (HB8.out.trans (hb9.mono HB8.out.size))
  clear hown hb9
  go_wp2
  have HR7 := Lib.hid HO9.out.sgs
  have HR9 := Lib.hid HN9.out.sgs
  clear HO9 HN9 HO8 HO7
  go_loopw [58] (fun i wr => ∃ k : Nat, k ≤ S1.length ∧ i = .int .i64 k ∧ Below w9.heap.size w9 wr) (fun i _ => S1.length - (intOf i).toNat)
  case atStart => exact ⟨0, Nat.zero_le _, rfl, Below.refl _ _⟩
  case round =>
    obtain ⟨k, hk, rfl, hb⟩ := hrel
    have HBk := Lib.hid hb
    by_cases hlt : k < S1.length
    · have h1 : (k : Int) < (S1.length : Int) := by omega
      have h0 : (0 : Int) ≤ (k : Int) := by omega
      have h2 : (k : Int) ≤ 1000 := by have := HSL.out; have := HL1.out; omega
      obtain ⟨b7, o7, rfl, c0, c1, c2⟩ := HR7.out.at hb k hlt
      obtain ⟨b9, o9, rfl, d0, d1, d2⟩ := HR9.out.at hb k hlt
      obtain ⟨⟨⟨x, d⟩, h⟩, hs⟩ : ∃ s, S1[k] = s := ⟨_, rfl⟩
      rw [hs] at c0 c1 c2 d0 d1 d2
      dsimp only at c0 c1 c2 d0 d1 d2
      clear hs hb
      go_wp2
      go_quiet (fail)
      all_goals
        go_wp2
        exact ⟨⟨k + 1, by omega, by go_num, bel_drewN HBk.out _⟩, by simp [intOf]; omega⟩
    · have h1 : ¬ ((k : Int) < (S1.length : Int)) := by omega
      have HSF : Hid (∀ w, TabAt w g2 m2 S1 → Calls Try.prog 14 #[.pointer (some ⟨g2, 0, none⟩), .string ⟨xa.toArray⟩, .string ⟨da.toArray⟩] w fun e w' => e = .returned (.bool X) ∧ Grew w w') :=
        Lib.hid (fun w ht => by have q := signed_grew g2 m2 S1 (xa, da) w ht HKA.out; rwa [HX.out] at q)
      have HST : Hid (∀ w, TabAt w g m S2 → Calls Try.prog 14 #[.pointer (some ⟨g, 0, none⟩), .string ⟨xa.toArray⟩, .string ⟨da.toArray⟩] w fun e w' => e = .returned (.bool Y) ∧ Grew w w') :=
        Lib.hid (fun w ht => by have q := signed_grew g m S2 (xa, da) w ht HKA.out; rwa [HY.out] at q)
      have hgr : ∀ n os, Below wr.heap.size wr (Go.Sort.grow (wr.drewN n) os) := fun n os => (show Grew wr (Go.Sort.grow (wr.drewN n) os) from ⟨n, os, rfl⟩).below
      have HGR := Lib.hid hgr
      have HSF' := Lib.hid (fun n os => HSF.out (Go.Sort.grow (wr.drewN n) os) ((HF9.out.below hb).below (hgr n os)))
      have HST' := Lib.hid (fun n os => HST.out (Go.Sort.grow (wr.drewN n) os) ((HT9.out.below hb).below (hgr n os)))
      have HBX : Hid (∀ w', Below wr.heap.size wr w' → Below w0.heap.size w0 w') := Lib.hid (fun w' h => (HB9.out.trans (hb.mono HB9.out.size)).trans (h.mono (Nat.le_trans HB9.out.size hb.size)))
      have a0 : ∀ n os, (Go.Sort.grow (wr.drewN n) os).cell? ⟨p, 0, none⟩ = some (.string ⟨xa.toArray⟩) := fun n os => (HCA.out _ (HBX.out _ (hgr n os))).1
      have a1 : ∀ n os, (Go.Sort.grow (wr.drewN n) os).cell? ⟨p, 1, none⟩ = some (.string ⟨da.toArray⟩) := fun n os => (HCA.out _ (HBX.out _ (hgr n os))).2.1
      have hFT := HFT.out
      have hmix : Try.prog.follows .mixedOrders = true := by kernel_rfl
      have HFIN : Hid (∀ n os, Below w.heap.size w (Go.Sort.grow (wr.drewN n) os)) := Lib.hid (fun n os => by rw [HPW.out]; exact HBW.out _ (HBX.out _ (hgr n os)))
      unfold Grew at HSF' HST'
      clear hb hlt HF9 HT9 HCA HCB HR7 HR9 HX HY HSA HSB HFT hgr HSF HST HBX HBk
      cases Y
      · cases X
        all_goals
          go_wp2
          go_quiet_grown (first | (go_at_call_of 14 (Value.pointer (some ⟨g2, 0, none⟩)); refine Calls.grown_of (HSF'.out _ _)) | (go_at_call_of 14 (Value.pointer (some ⟨g, 0, none⟩)); refine Calls.grown_of (HST'.out _ _)))
          go_wp2
          go_ret
          exact ⟨rfl, HFIN.out _ _⟩
      · obtain rfl : true = X := by simpa using hFT
        go_wp2
        go_quiet_grown (first | (go_at_call_of 14 (Value.pointer (some ⟨g2, 0, none⟩)); refine Calls.grown_of (HSF'.out _ _)) | (go_at_call_of 14 (Value.pointer (some ⟨g, 0, none⟩)); refine Calls.grown_of (HST'.out _ _)))
        go_wp2
        go_ret
        exact ⟨rfl, HFIN.out _ _⟩

theorem fork_law (v : Value) (L : List St) (a b : St) (w : World) (hv : Sts w v L) (hl : L.length * 40 ≤ reachBytes) (hok : ∀ s ∈ L, OkSt s) (ha : OkSt a) (hb : OkSt b) :
    Calls Try.prog 6 #[v, .agg (stcl a).toArray, .agg (stcl b).toArray] w fun e w' => e = .returned (.bool true) ∧ Below w.heap.size w w' := fork_walk L v a b w hv hl hok ha hb
end Go.Proofs.Yteolephlajhghaa
