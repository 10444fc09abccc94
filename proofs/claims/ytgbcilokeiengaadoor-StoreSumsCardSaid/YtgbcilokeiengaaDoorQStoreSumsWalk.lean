/- The law StoreSums, walked. -/
import Derived.Test.YtgbcilokeiengaaDoorPk10
import Derived.Test.YtgbcilokeiengaaDoorPk01
import Derived.WalkSpells
import Derived.WalkLawsBesides
import Derived.Lib.Strings
namespace Go.Proofs.YtgbcilokeiengaaDoor
open Go.RowKit
open Go.Proofs.YtgbcilokeiengaaDoor.Sto (St)

theorem Sto.key_at {S : St} (hS : Sto.Rising S) {C : List (List UInt8)} (hc : Sto.Came S C) (k : Nat) (hk : k < (Sto.keys S).length) :
    ∃ t, Sto.look S (Sto.keys S)[k] = some t ∧ Sto.sumOf t = (Sto.keys S)[k] := by
  have hk' : k < S.length := by simpa [Sto.keys] using hk
  have e : (Sto.keys S)[k] = S[k].1 := by simp [Sto.keys]
  rw [e]
  exact ⟨S[k].2, Sto.look_at hS k hk', (hc.sums _ (List.getElem_mem hk')).symm⟩

set_option maxRecDepth 100000 in
set_option maxHeartbeats 4000000 in
theorem storeSums_walk (v : Value) (L : List ActN) (w : World) (hv : Acts w v L) (hl : L.length * 40 ≤ reachBytes) (_ : ∀ s ∈ L, OkAct s) (hT : Tab w) :
    Calls Tryd.prog 3 #[v] w fun e w' => e = .returned (.bool true) ∧ Below w.heap.size w w' := by
  have HT := Lib.hid hT
  have HV := Lib.hid hv
  have HLL : Hid (L.length ≤ 4000000000000) := Lib.hid (by have : reachBytes = 140737488351232 := rfl; omega)
  obtain ⟨A, cap, rfl⟩ := hv.form
  clear hv hl hT
  go_enter Tryd.func3, Tryd.ntmps3
  go_wp2_with fail
  refine (stworks_any _ HT.out).mono ?_
  rintro e w1 ⟨rfl, hb1⟩
  have HB1 := Lib.hid hb1
  have HF := Lib.hid (stfill_any L _ w1 (HV.out.below hb1) HLL.out (HT.out.below hb1))
  unfold FillPost at HF
  clear hb1
  go_wp2_with fail
  refine HF.out.mono ?_
  rintro e w2 ⟨g, m, S, C, z, rfl, -, -, hs2, hown2, hca, hCl, hb2⟩
  have HS2 := Lib.hid hs2
  have HO2 := Lib.hid hown2
  have HCA := Lib.hid hca
  have HCL := Lib.hid hCl
  have HB2 := Lib.hid (bchain HB1.out hb2)
  have HSL : Hid (S.length ≤ C.length) := Lib.hid (hca.len hs2.rise)
  have HSU := Lib.hid (stsums_any g m S w2 hs2 (by have := hca.len hs2.rise; omega))
  unfold RowPost at HSU
  have HKA := Lib.hid (fun k hk => Sto.key_at hs2.rise hca k hk)
  have HKR := Lib.hid (Sto.keys_rise hs2.rise)
  have HKL : Hid ((Sto.keys S).length = S.length) := Lib.hid (by simp [Sto.keys])
  obtain ⟨K, hK⟩ : ∃ K, Sto.keys S = K := ⟨_, rfl⟩
  rw [hK] at HSU HKR HKL
  simp only [hK] at HKA
  clear hs2 hown2 hca hCl hb2
  go_wp2_with fail
  refine HSU.out.mono ?_
  rintro e w3 ⟨u, rfl, hown3, hb3⟩
  have HO3 := Lib.hid hown3
  have HB3 := Lib.hid (bchain HB2.out hb3)
  have HS3 := Lib.hid (HS2.out.below hb3)
  have HZ3 := Lib.hid (HO2.out.below hb3)
  have HSZ : Hid (w.heap.size ≤ w3.heap.size) := Lib.hid HB3.out.size
  obtain ⟨A2, cap2, rfl⟩ := own_form hown3
  obtain ⟨A3, cap3, rfl⟩ := own_form HO2.out
  clear hown3 hb3 HSU
  go_wp2
  go_loopw [27] (fun i wr => ∃ k : Nat, k ≤ K.length ∧ i = .int .i64 k ∧ Below w3.heap.size w3 wr) (fun i _ => K.length - (intOf i).toNat)
  case atStart => exact ⟨0, Nat.zero_le _, rfl, Below.refl _ _⟩
  case round =>
    obtain ⟨k, hk, rfl, hb⟩ := hrel
    have HB := Lib.hid hb
    by_cases hlt : k < K.length
    · have h1 : (k : Int) < (K.length : Int) := by omega
      have h0 : (0 : Int) ≤ (k : Int) := by omega
      have hnb : (k : Int) ≤ 1000 := by have := HKL.out; have := HSL.out; have := HCL.out; omega
      obtain ⟨a, rfl, hcell⟩ := HO3.out.strs_at hb k hlt
      obtain ⟨t, ht, hsum⟩ := HKA.out k hlt
      have hsh := Sto.short_look HS3.out.rise HS3.out.short ht
      have HG := Lib.hid (stget_any g m S K[k] wr (HS3.out.below hb) (by omega))
      rw [ht] at HG
      simp only [Option.getD_some, Option.isSome_some] at HG
      have HD : Hid (∀ w, Tab w → Calls Tryd.prog 10 #[.int .i64 1, .string ⟨t.toArray⟩] w fun e w' => e = .returned (.tuple #[.string ⟨(Sto.sumOf t).toArray⟩, .int .i64 0]) ∧ Below w.heap.size w w') := Lib.hid (fun w hw => dsum_any 1 t w hw (by omega))
      rw [hsum] at HD
      have HPRE : Hid (∀ w', Below wr.heap.size wr w' → ∀ j (hj : k = j + 1), ∃ y, Op.bytesLess K[k] y = false ∧ (K[k] == y) = false ∧ w'.cell? (a.add j) = some (.string ⟨y.toArray⟩)) := Lib.hid (fun w' h j hj => by
        obtain ⟨a', ha', hc'⟩ := HO3.out.strs_at (bchain hb h) j (by omega)
        obtain rfl : a = a' := by simpa using ha'
        have hl := List.pairwise_iff_getElem.1 HKR.out j k (by omega) hlt (by omega)
        refine ⟨K[j]'(by omega), ?_, ?_, hc'⟩
        · rw [less_lt]; simpa using List.le_of_lt hl
        · simpa using fun e => Sto.lt_ne hl e.symm)
      obtain ⟨x, hx⟩ : ∃ x, K[k] = x := ⟨_, rfl⟩
      rw [hx] at hcell HG HD HPRE
      have hxx : (x == x) = true := by simp
      clear hx hb ht hsum hsh
      go_wp2_with fail
      refine HG.out.mono ?_
      rintro e w4 ⟨rfl, hb4⟩
      have HB4 := Lib.hid (bchain HB.out hb4)
      have HB40 := Lib.hid hb4
      have hT4 : Tab w4 := HT.out.below (bchain HB3.out HB4.out)
      have HDD := Lib.hid (HD.out w4 hT4)
      clear hb4 hT4 hcell
      go_wp2_with fail
      refine HDD.out.mono ?_
      rintro e w5 ⟨rfl, hb5⟩
      have HB5 := Lib.hid (bchain HB4.out hb5)
      have hpre := fun j hj => HPRE.out w5 (bchain HB40.out hb5) j hj
      clear hb5
      cases k with
      | zero =>
        clear hpre
        go_wp2
        exact ⟨⟨1, by omega, by go_num, HB5.out⟩, by simp [intOf]; omega⟩
      | succ j =>
        obtain ⟨y, p1, p2, p3⟩ := hpre j rfl
        have j1 : (0 : Int) < (j : Int) + 1 := by omega
        have j2 : (0 : Int) ≤ (j : Int) := by omega
        have j3 : (j : Int) < (K.length : Int) := by omega
        clear hpre
        go_wp2
        exact ⟨⟨j + 1 + 1, by omega, by go_num, HB5.out⟩, by simp [intOf]; omega⟩
    · have h1 : ¬ ((k : Int) < (K.length : Int)) := by omega
      clear hb
      go_wp2
      go_loopw [70] (fun i wr => ∃ k : Nat, k ≤ C.length ∧ i = .int .i64 k ∧ Below w3.heap.size w3 wr) (fun i _ => C.length - (intOf i).toNat)
      case atStart => exact ⟨0, Nat.zero_le _, rfl, HB.out⟩
      case round =>
        obtain ⟨k2, hk2, rfl, hb⟩ := hrel
        have HB2' := Lib.hid hb
        by_cases hlt2 : k2 < C.length
        · have h2 : (k2 : Int) < (C.length : Int) := by omega
          have h0 : (0 : Int) ≤ (k2 : Int) := by omega
          have hnb2 : (k2 : Int) ≤ 1000 := by have := HCL.out; omega
          obtain ⟨a, rfl, hcell⟩ := HZ3.out.strs_at hb k2 hlt2
          have hin : (Sto.look S C[k2]).isSome = true := (Sto.look_isSome S _).2 ((HCA.out.keys _).2 (List.getElem_mem hlt2))
          have HG := Lib.hid (stget_any g m S C[k2] wr (HS3.out.below hb) (by have := HCA.out.short _ (List.getElem_mem hlt2); omega))
          rw [hin] at HG
          obtain ⟨x, hx⟩ : ∃ x, C[k2] = x := ⟨_, rfl⟩
          rw [hx] at hcell HG
          obtain ⟨t, ht⟩ : ∃ t, (Sto.look S x).getD [] = t := ⟨_, rfl⟩
          rw [ht] at HG
          clear hx hb hin ht
          go_wp2_with fail
          refine HG.out.mono ?_
          rintro e w4 ⟨rfl, hb4⟩
          have HB4 := Lib.hid (bchain HB2'.out hb4)
          clear hb4 hcell
          go_wp2
          exact ⟨⟨k2 + 1, by omega, by go_num, HB4.out⟩, by simp [intOf]; omega⟩
        · have h2 : ¬ ((k2 : Int) < (C.length : Int)) := by omega
          have h3 : (K.length : Int) ≤ (C.length : Int) := by have := HKL.out; have := HSL.out; omega
          have HBE := Lib.hid (HB3.out.trans (hb.mono HSZ.out))
          clear hb
          go_wp2
          go_ret
          exact ⟨rfl, HBE.out⟩
end Go.Proofs.YtgbcilokeiengaaDoor
