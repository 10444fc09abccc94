/- StoreRefReach, ShaTold, ShaRef, ShaRefBlock -/
import Derived.Test.YtgbcilokeiengaaGreatDoorPk11
import Derived.Test.YtgbcilokeiengaaGreatDoorPk13
import Derived.Test.YtgbcilokeiengaaGreatDoorPk12
namespace Go.Proofs.YtgbcilokeiengaaGreatDoor
open Go.RowKit
open Go.Proofs.YtgbcilokeiengaaGreatDoor.Sto (St kidI markT m0K pass pass1 rounds marks0 marks kidsT pick)

theorem bel_set {B q i : Nat} {a w : World} (h : Below B a w) (hq : B ≤ q) (v : Value) : Below B a (w.setCell ⟨q, i, none⟩ v) := h.setCell (p := ⟨q, i, none⟩) hq v
set_option maxRecDepth 100000 in
set_option maxHeartbeats 8000000 in
theorem rstReach_any (S : St) (v : Value) (l : List (List UInt8)) (u : Value) (w : World) (hv : StL w v S) (hu : Strs w u l) (hS : Sto.Rising S) (hl : S.length ≤ 10000) (hll : l.length ≤ 10000) (hsh : ∀ p ∈ S, p.1.length ≤ 32 ∧ p.2.length ≤ 1000) :
    Calls Tryz.prog 16 #[v, u] w (RowPost (Sto.reachL S l) w) := by
  have HV := Lib.hid hv
  have HU := Lib.hid hu
  have HS := Lib.hid hS
  have HL := Lib.hid hl
  have HLL := Lib.hid hll
  have HSH : Hid (∀ i (h : i < S.length), (S[i].2).length ≤ 1000000) := Lib.hid (fun i h => by have := (hsh _ (List.getElem_mem h)).2; omega)
  have HAT := Lib.hid (fun x w' (h : Below w.heap.size w w') => rstAt_any S v x w' (hv.below h) hl)
  have hmk := Tryz.makeBools w S.length (by omega)
  have HB0 := Lib.hid ((Below.refl w.heap.size w).alloc (Nat.le_refl _) (.cells (bools (List.replicate S.length false)).toArray 4))
  have HR0 : Hid (BoolRow (w.alloc (.cells (bools (List.replicate S.length false)).toArray 4)) w.heap.size (m0K S l 0)) := Lib.hid (by rw [Sto.m0K_zero]; exact heap_new_at _ _ _ rfl)
  obtain ⟨Z, hZ⟩ : ∃ Z, (bools (List.replicate S.length false)).toArray = Z := ⟨_, rfl⟩
  rw [hZ] at hmk HB0 HR0
  obtain ⟨A, cap, rfl, -, -⟩ := hv.form
  obtain ⟨Au, capu, rfl, -⟩ := hu
  obtain ⟨i0, hi, hz0, hz1, hz2⟩ := info_parts Tryz.infoStr
  have HI19 : Hid ((Tryz.prog.info? 72).map (·.size) = some 19) := Lib.hid (by kernel_rfl)
  clear hv hS hl hll hsh hZ
  go_enter Tryz.func16, Tryz.ntmps16
  go_wp2
  obtain ⟨q, hq⟩ : ∃ q, w.heap.size = q := ⟨_, rfl⟩
  have HQ := Lib.hid hq
  rw [hq] at HB0 HR0 HAT ⊢
  clear hmk hq
  go_loopw [6] (fun i wr => ∃ k : Nat, k ≤ l.length ∧ i = .int .i64 k ∧ BoolRow wr q (m0K S l k) ∧ Below q w wr) (fun i _ => l.length - (intOf i).toNat)
  case atStart => exact ⟨0, Nat.zero_le _, rfl, HR0.out, HB0.out⟩
  case round =>
    obtain ⟨k, hk, rfl, hr, hb⟩ := hrel
    have HR := Lib.hid hr
    have HB := Lib.hid hb
    by_cases hlt : k < l.length
    · have h1 : (k : Int) < (l.length : Int) := by omega
      have h0 : (0 : Int) ≤ (k : Int) := by omega
      have hnb : (k : Int) ≤ 100000 := by have := HLL.out; omega
      obtain ⟨A', cap', hv', hc'⟩ := HU.out.below (by rw [HQ.out]; exact hb)
      obtain ⟨rfl, -⟩ : Au = A' ∧ _ := by simpa using hv'
      obtain ⟨a, rfl, hcell⟩ := hc' k hlt
      have HA := Lib.hid (HAT.out l[k] wr hb)
      have HT := Lib.hid (fun i => Sto.m0K_there (i := i) HS.out hlt)
      have HF := Lib.hid (fun i => Sto.m0K_lost (i := i) HS.out hlt)
      obtain ⟨x, hx⟩ : ∃ x, l[k] = x := ⟨_, rfl⟩
      rw [hx] at hcell HA
      simp only [hx] at HT HF
      clear hv' hc' hx hr hb
      go_wp2_with fail
      refine HA.out.mono ?_
      rintro e w1 ⟨i, b, rfl, hat, hqq⟩
      have HB1 := Lib.hid (bel_drewQ HB.out hqq)
      have HR1 : Hid (BoolRow w1 q (m0K S l k)) := Lib.hid (by obtain ⟨n, rfl⟩ := hqq; exact HR.out)
      cases b with
      | false =>
        have HE := Lib.hid (HF.out i hat)
        clear hat hqq hcell
        go_wp2
        exact ⟨⟨k + 1, by omega, by go_num, by rw [← HE.out]; exact HR1.out, HB1.out⟩, by simp [intOf]; omega⟩
      | true =>
        obtain ⟨hi1, -, -, -⟩ := hat.there HS.out
        have HE := Lib.hid (HT.out i hat)
        obtain ⟨c1, f1⟩ := HR1.out.at i (by rw [Sto.m0K_len]; exact hi1)
        have i1 : (i : Int) < (S.length : Int) := by omega
        have i0' : (0 : Int) ≤ (i : Int) := by omega
        have HR2 := Lib.hid (HR1.out.set i true)
        have HB2 := Lib.hid (bel_set (i := i) HB1.out (Nat.le_refl q) (.bool true))
        obtain ⟨mi, hmi⟩ : ∃ mi, (m0K S l k)[i]'(by rw [Sto.m0K_len]; exact hi1) = mi := ⟨_, rfl⟩
        rw [hmi] at c1
        clear hat hqq hcell hmi hi1
        go_wp2
        exact ⟨⟨k + 1, by omega, by go_num, by rw [← HE.out]; exact HR2.out, HB2.out⟩, by simp [intOf]; omega⟩
    · have h1 : ¬ ((k : Int) < (l.length : Int)) := by omega
      obtain rfl : k = l.length := by omega
      rw [Sto.m0K_all] at HR
      have hM0 : (marks0 S l).length = S.length := Sto.marks0_len S l
      have HMK : Hid (marks S l = rounds (kidI S) (List.range S.length) S.length (marks0 S l)) := Lib.hid rfl
      obtain ⟨M0, hM⟩ : ∃ M0, marks0 S l = M0 := ⟨_, rfl⟩
      rw [hM] at HR hM0 HMK
      have HM0 := Lib.hid hM0
      clear hr hb hlt hk hM hM0 HR0 HB0
      go_wp2
      go_loopw [42] (fun i wr => ∃ t : Nat, t ≤ S.length ∧ i = .int .i64 t ∧ BoolRow wr q (rounds (kidI S) (List.range S.length) t M0) ∧ Below q w wr) (fun i _ => S.length - (intOf i).toNat)
      case atStart => exact ⟨0, Nat.zero_le _, rfl, HR.out, HB.out⟩
      case round =>
        obtain ⟨t, ht, rfl, hr, hb⟩ := hrel
        have HRt := Lib.hid hr
        have HBt := Lib.hid hb
        by_cases hlt : t < S.length
        · have h1 : (t : Int) < (S.length : Int) := by omega
          have hnb : (t : Int) ≤ 100000 := by have := HL.out; omega
          have HSN := Lib.hid (Sto.rounds_snoc (kidI S) (List.range S.length) t M0)
          have HML : Hid ((rounds (kidI S) (List.range S.length) t M0).length = S.length) := Lib.hid (by rw [Sto.rounds_len]; exact HM0.out)
          obtain ⟨M, hM⟩ : ∃ M, rounds (kidI S) (List.range S.length) t M0 = M := ⟨_, rfl⟩
          rw [hM] at HRt HSN HML
          clear hr hb hM
          go_wp2
          go_loopw [9] (fun i wr => ∃ j : Nat, j ≤ S.length ∧ i = .int .i64 j ∧ BoolRow wr q (pass (kidI S) (List.range j) M) ∧ Below q w wr) (fun i _ => S.length - (intOf i).toNat)
          case atStart => exact ⟨0, Nat.zero_le _, rfl, HRt.out, HBt.out⟩
          case round =>
            obtain ⟨j, hj, rfl, hr, hb⟩ := hrel
            have HRj := Lib.hid hr
            have HBj := Lib.hid hb
            by_cases hltj : j < S.length
            · have h2 : (j : Int) < (S.length : Int) := by omega
              have h0 : (0 : Int) ≤ (j : Int) := by omega
              have hnj : (j : Int) ≤ 100000 := by have := HL.out; omega
              obtain ⟨b0, o, rfl, n0, n1, n2⟩ := (HV.out.below (by rw [HQ.out]; exact hb)).at j hltj
              have hyl := HSH.out j hltj
              have hml : (pass (kidI S) (List.range j) M).length = S.length := by rw [Sto.pass_len]; exact HML.out
              have HSNj := Lib.hid (Sto.passK_snoc (kidI S) j M)
              have HP1 := Lib.hid (Sto.pass1_off (S := S) (m := pass (kidI S) (List.range j) M) (i := j) (by omega))
              have HP2 := Lib.hid (Sto.pass1_on (S := S) (m := pass (kidI S) (List.range j) M) (i := j) hltj (by omega))
              obtain ⟨y, hy⟩ : ∃ y, S[j].2 = y := ⟨_, rfl⟩
              rw [hy] at n1 hyl HP2
              obtain ⟨m, hm⟩ : ∃ m, pass (kidI S) (List.range j) M = m := ⟨_, rfl⟩
              rw [hm] at HRj HSNj hml
              simp only [hm] at HP1 HP2
              have HMLj := Lib.hid hml
              obtain ⟨mj, hmj⟩ : ∃ mj, m[j]'(by omega) = mj := ⟨_, rfl⟩
              rw [hmj] at HP1 HP2
              have HMJ : Hid (∀ w', BoolRow w' q m → w'.cell? ⟨q, j, none⟩ = some (.bool mj)) := Lib.hid (fun w' h => by rw [← hmj]; exact (h.at j (by omega)).1)
              have HD := Lib.hid (fun w => rndecode_any y w hyl)
              unfold NDecPost at HD
              have hkd := Sto.dec_kids y
              have HBAD := Lib.hid (Sto.kids_bad (t := y))
              have HKT : Hid (kidsT y = Nd.kidsL (Nd.dec y).1.kids) := Lib.hid rfl
              obtain ⟨⟨nd, c⟩, hD⟩ : ∃ D, Nd.dec y = D := ⟨_, rfl⟩
              rw [hD] at HD hkd HBAD HKT
              dsimp only at HD hkd HBAD HKT
              have HKI := Lib.hid (fun w => rKids_any nd w hkd.1)
              unfold KidsPost at HKI
              rw [← HKT.out] at HKI
              have HKL : Hid ((kidsT y).length ≤ 16) := Lib.hid (Sto.kidsT_len y)
              have HON := Lib.hid (ncl_one nd)
              have HSN19 : Hid ((ncl nd).toArray.size = 19) := Lib.hid (by rw [List.size_toArray, ncl_length nd hkd.1])
              unfold ndval at HD HKI
              obtain ⟨C, hC⟩ : ∃ C, (ncl nd).toArray = C := ⟨_, rfl⟩
              rw [hC] at HD HKI HON HSN19
              have HI : Hid ((Tryz.prog.info? 72).map (·.size) = some C.size) := Lib.hid (by rw [HSN19.out]; exact HI19.out)
              obtain ⟨K, hK⟩ : ∃ K, kidsT y = K := ⟨_, rfl⟩
              rw [hK] at HP2 HBAD HKI HKL
              clear hr hb hy hm hml hmj hkd hD hC hK n0 n2 hyl HKT
              go_wp2_with fail
              refine (HD.out _).mono ?_
              rintro e w1 ⟨rfl, hb1⟩
              have hb2 : Below wr.heap.size wr (w1.alloc (.cells C 72)) := hb1.alloc hb1.size _
              have HR2 := Lib.hid (HRj.out.below hb2)
              have HB2 : Hid (Below q w (w1.alloc (.cells C 72))) := Lib.hid (HBj.out.trans (hb2.mono (Nat.le_of_lt (lt_of_heap HRj.out))))
              have HN2 : Hid ((w1.alloc (.cells C 72)).heap[w1.heap.size]? = some (.cells C 72 (0, 0))) := Lib.hid (heap_new_at w1 _ _ rfl)
              have c2 := HMJ.out _ HR2.out
              clear hb1 hb2 n1
              cases mj with
              | false =>
                have HPP := Lib.hid (HP1.out rfl)
                clear HP1 HP2
                go_wp2_with (refine wpList_store_fresh (by rfl) _ _ _ (by rfl) w1.heap.size rfl C (by rfl) (by rfl) _ _ HI.out HSN19.out.symm HON.out ?_)
                exact ⟨⟨j + 1, by omega, by go_num, by rw [HSNj.out, HPP.out]; exact HR2.out, HB2.out⟩, by simp [intOf]; omega⟩
              | true =>
                have HPP := Lib.hid (HP2.out rfl)
                clear HP1 HP2
                by_cases hc : c = 0
                · subst hc
                  clear HBAD
                  go_wp2_with (first | (refine wpList_store_fresh (by rfl) _ _ _ (by rfl) w1.heap.size rfl C (by rfl) (by rfl) _ _ HI.out HSN19.out.symm HON.out ?_) | (refine wpList_load_row (by rfl) _ _ (by rfl) w1.heap.size (by rfl) _ C _ _ HN2.out Tryz.underlying72 (by rfl) HI.out ?_))
                  refine (HKI.out _).mono ?_
                  rintro e w3 ⟨z, rfl, hown3, hb3⟩
                  have HO3 := Lib.hid hown3
                  have HR3 : Hid (BoolRow w3 q (markT S m (K.take 0))) := Lib.hid (HR2.out.below hb3)
                  have HB3 : Hid (Below q w w3) := Lib.hid (HB2.out.trans (hb3.mono (Nat.le_of_lt (lt_of_heap HR2.out))))
                  have HQ3 : Hid (q < w1.heap.size + 1) := Lib.hid (by have := lt_of_heap HR2.out; simp at this; omega)
                  obtain ⟨Az, cz, rfl⟩ := own_form hown3
                  clear hown3 hb3 c2
                  go_wp2
                  go_loopw [13] (fun i wr4 => ∃ k4 : Nat, k4 ≤ K.length ∧ i = .int .i64 k4 ∧ BoolRow wr4 q (markT S m (K.take k4)) ∧ Below q w wr4 ∧ Own wr4 (w1.heap.size + 1) (.slice Az K.length cz) K) (fun i _ => K.length - (intOf i).toNat)
                  case atStart => exact ⟨0, Nat.zero_le _, rfl, HR3.out, HB3.out, by simpa using HO3.out⟩
                  case round =>
                    obtain ⟨k4, hk4, rfl, hr4, hb4, ho4⟩ := hrel
                    have HR4 := Lib.hid hr4
                    have HB4 := Lib.hid hb4
                    have HO4 := Lib.hid ho4
                    by_cases hlt4 : k4 < K.length
                    · have h1' : (k4 : Int) < (K.length : Int) := by omega
                      have h0' : (0 : Int) ≤ (k4 : Int) := by omega
                      have hnb4 : (k4 : Int) ≤ 1000 := by have := HKL.out; omega
                      obtain ⟨a4, rfl, hcell⟩ := ho4.strs_at (Below.refl _ _) k4 hlt4
                      have HA := Lib.hid (HAT.out K[k4] _ hb4)
                      have HTH := Lib.hid (fun i => Sto.markT_there HS.out m (K.take k4) (x := K[k4]) (i := i))
                      have HTL := Lib.hid (fun i => Sto.markT_lost HS.out m (K.take k4) (x := K[k4]) (i := i))
                      have HTS : Hid (K.take k4 ++ [K[k4]] = K.take (k4 + 1)) := Lib.hid (List.take_succ_eq_append_getElem hlt4).symm
                      rw [HTS.out] at HTH HTL
                      obtain ⟨x, hx⟩ : ∃ x, K[k4] = x := ⟨_, rfl⟩
                      rw [hx] at hcell HA HTH HTL
                      have hmlen : (markT S m (K.take k4)).length = S.length := by rw [Sto.markT_len]; exact HMLj.out
                      have HMN := Lib.hid hmlen
                      obtain ⟨m4, hm4⟩ : ∃ m4, markT S m (K.take k4) = m4 := ⟨_, rfl⟩
                      rw [hm4] at HR4 HMN
                      simp only [hm4] at HTH HTL
                      clear hr4 hb4 ho4 hx hm4 hmlen HTS
                      go_wp2_with fail
                      refine HA.out.mono ?_
                      rintro e w5 ⟨i, b, rfl, hat, hqq⟩
                      have HB5 := Lib.hid (bel_drewQ HB4.out hqq)
                      have HR5 : Hid (BoolRow w5 q m4) := Lib.hid (by obtain ⟨n, rfl⟩ := hqq; exact HR4.out)
                      have HO5 : Hid (Own w5 (w1.heap.size + 1) (.slice (some a4) K.length cz) K) := Lib.hid (by obtain ⟨n, rfl⟩ := hqq; exact HO4.out)
                      cases b with
                      | false =>
                        have HE := Lib.hid (HTL.out i hat)
                        clear hat hqq hcell
                        go_wp2
                        exact ⟨⟨k4 + 1, by omega, by go_num, by rw [← HE.out]; exact HR5.out, HB5.out, HO5.out⟩, by simp [intOf]; omega⟩
                      | true =>
                        obtain ⟨hi1, -, -, -⟩ := hat.there HS.out
                        have HE := Lib.hid (HTH.out i hat)
                        obtain ⟨c1, f1⟩ := HR5.out.at i (by rw [HMN.out]; exact hi1)
                        have i1 : (i : Int) < (S.length : Int) := by omega
                        have i0' : (0 : Int) ≤ (i : Int) := by omega
                        have HR6 := Lib.hid (HR5.out.set i true)
                        have HB6 := Lib.hid (bel_set (i := i) HB5.out (Nat.le_refl q) (.bool true))
                        have HO6 : Hid (Own (w5.setCell ⟨q, i, none⟩ (.bool true)) (w1.heap.size + 1) (.slice (some a4) K.length cz) K) := Lib.hid (by
                          refine ⟨HO5.out.1, ?_⟩
                          rcases HO5.out.2 with hn | ⟨kk, cap', cur, hvv, hbb, hkk, hrr⟩
                          · exact Or.inl hn
                          · exact Or.inr ⟨kk, cap', cur, hvv, hbb, (heap_setCell_other w5 ⟨q, i, none⟩ kk _ (by have := HQ3.out; show kk ≠ q; omega)).trans hkk, hrr⟩)
                        obtain ⟨mi, hmi⟩ : ∃ mi, m4[i]'(by rw [HMN.out]; exact hi1) = mi := ⟨_, rfl⟩
                        rw [hmi] at c1
                        clear hat hqq hcell hmi hi1
                        go_wp2
                        exact ⟨⟨k4 + 1, by omega, by go_num, by rw [← HE.out]; exact HR6.out, HB6.out, HO6.out⟩, by simp [intOf]; omega⟩
                    · have h1' : ¬ ((k4 : Int) < (K.length : Int)) := by omega
                      have HRE : Hid (BoolRow _ q (markT S m K)) := Lib.hid (by rw [List.take_of_length_le (by omega)] at hr4; exact hr4)
                      clear hr4 hb4 ho4
                      go_wp2
                      exact ⟨⟨j + 1, by omega, by go_num, by rw [HSNj.out, HPP.out]; exact HRE.out, HB4.out⟩, by simp [intOf]; omega⟩
                · have hcc : (c != 0) = true := by simpa using hc
                  have HKN := Lib.hid (HBAD.out hc)
                  clear HBAD
                  go_wp2_with (refine wpList_store_fresh (by rfl) _ _ _ (by rfl) w1.heap.size rfl C (by rfl) (by rfl) _ _ HI.out HSN19.out.symm HON.out ?_)
                  exact ⟨⟨j + 1, by omega, by go_num, by rw [HSNj.out, HPP.out, HKN.out, Sto.markT_nil]; exact HR2.out, HB2.out⟩, by simp [intOf]; omega⟩
            · have h2 : ¬ ((j : Int) < (S.length : Int)) := by omega
              have HRE : Hid (BoolRow wr q (rounds (kidI S) (List.range S.length) (t + 1) M0)) := Lib.hid (by
                obtain rfl : j = S.length := by omega
                rw [HSN.out]; exact hr)
              clear hr hb
              go_wp2
              exact ⟨⟨t + 1, by omega, by go_num, HRE.out, HBj.out⟩, by simp [intOf]; omega⟩
        · have h1 : ¬ ((t : Int) < (S.length : Int)) := by omega
          have HRM : Hid (BoolRow wr q (marks S l)) := Lib.hid (by
            obtain rfl : t = S.length := by omega
            rw [HMK.out]; exact hr)
          have HMl := Lib.hid (Sto.marks_len S l)
          have HRL : Hid (Sto.reachL S l = pick S (marks S l)) := Lib.hid rfl
          obtain ⟨M, hM⟩ : ∃ M, marks S l = M := ⟨_, rfl⟩
          rw [hM] at HRM HMl HRL
          clear hr hb hlt hM HRt HMK HM0
          obtain ⟨w6, rfl⟩ : ∃ x, x = wr := ⟨_, rfl⟩
          have HZ6 : Hid (q ≤ w6.heap.size) := Lib.hid (Nat.le_of_lt (lt_of_heap HRM.out))
          go_wp2
          go_loopw [16, 17] (fun sv i wr => ∃ (s : Value) (k : Nat), s = sv ∧ k ≤ S.length ∧ i = .int .i64 k ∧ Own wr w6.heap.size s (pick (S.take k) (M.take k)) ∧ Below w6.heap.size w6 wr) (fun _ i _ => S.length - (intOf i).toNat)
          case atStart => exact ⟨_, 0, rfl, Nat.zero_le _, rfl, Own.nil _ _, Below.refl _ _⟩
          case round =>
            obtain ⟨s, k, rfl, hk, rfl, hown, hb⟩ := hrel
            have HO := Lib.hid hown
            have HB6 := Lib.hid hb
            have HZ := Lib.hid hb.size
            have HBW : Hid (Below q w wr) := Lib.hid (HBt.out.trans (hb.mono HZ6.out))
            by_cases hlt : k < S.length
            · have h2 : (k : Int) < (S.length : Int) := by omega
              have h0 : (0 : Int) ≤ (k : Int) := by omega
              have hnb : (k : Int) ≤ 100000 := by have := HL.out; omega
              obtain ⟨b, o, rfl, n0, n1, n2⟩ := (HV.out.below (by rw [HQ.out]; exact HBW.out)).at k hlt
              obtain ⟨c1, -⟩ := (HRM.out.below hb).at k (by rw [HMl.out]; exact hlt)
              have HPS := Lib.hid (Sto.pick_snoc S M k hlt (by rw [HMl.out]; exact hlt))
              have hPl : (pick (S.take k) (M.take k)).length ≤ 10000 := by
                have h3 := (Sto.pick_sub (S.take k) (M.take k) (by rw [List.length_take, List.length_take, HMl.out])).length_le
                have h4 := HL.out
                simp only [Sto.keys, List.length_map, List.length_take] at h3
                omega
              obtain ⟨x, hx⟩ : ∃ x, S[k].1 = x := ⟨_, rfl⟩
              rw [hx] at n2 HPS
              obtain ⟨mk, hmk⟩ : ∃ mk, M[k]'(by rw [HMl.out]; exact hlt) = mk := ⟨_, rfl⟩
              rw [hmk] at c1 HPS
              obtain ⟨K, hK⟩ : ∃ K, pick (S.take k) (M.take k) = K := ⟨_, rfl⟩
              rw [hK] at HO HPS hPl
              have HKL := Lib.hid hPl
              clear hown hb hx hmk hK n0 n1 hPl
              cases mk with
              | false =>
                rw [if_neg (by simp)] at HPS
                clear n2
                go_wp2
                exact ⟨⟨_, k + 1, rfl, by omega, by go_num, by rw [HPS.out]; exact HO.out, HB6.out⟩, by simp [intOf]; omega⟩
              | true =>
                rw [if_pos rfl] at HPS
                go_wp2_with (at_builtin; refine wpList_append_lies _ rfl _ _ _ rfl w6.heap.size 9 i0 (.string ⟨#[]⟩) 1 16 Tryz.underlying26 hi hz0 hz1 hz2 rfl (by decide) s K.length (scells K) (by rfl) (World.ownsRow.alloc HO.out _) ⟨wr.heap.size, 0, none⟩ 1 1 (scells [x]) (by rfl) rfl (World.news_of_block (heap_new_at _ _ _ rfl)) (by simp [scells, Value.oneCell']) (by decide) (by have := HKL.out; unfold maxLen; omega) (by have := HKL.out; omega) (by have := HZ.out; simp; omega) (wr.heap.size + 1) (by simp) ?_; intro g' cap' w5 hown5 hgrow5 hat5 hlt5)
                have ha : Below wr.heap.size wr (wr.alloc (.cells #[.string ⟨x.toArray⟩] 9)) := (Below.refl _ wr).alloc (Nat.le_refl _) _
                have hB5 : Below w6.heap.size w6 w5 := HB6.out.trans (((Out.of ha).trans (Out.grown hgrow5 (F := fun j => s.ownBlock = some j) (fun j e => e))).below (fun j hj => (HO.out.lt j hj).1) HZ.out)
                refine ⟨⟨_, k + 1, rfl, by omega, by go_num, ?_, hB5⟩, by simp [intOf]; omega⟩
                rw [HPS.out]
                unfold Own
                rw [scells_append, List.length_append]
                exact hown5
            · have h2 : ¬ ((k : Int) < (S.length : Int)) := by omega
              have HF : Hid (Own wr q s (Sto.reachL S l)) := Lib.hid (by
                rw [List.take_of_length_le (by omega), List.take_of_length_le (by rw [HMl.out]; omega)] at hown
                rw [HRL.out]
                exact own_lowS hown HZ6.out)
              clear hown hb
              go_wp2
              go_ret
              exact ⟨s, rfl, by rw [HQ.out]; exact HF.out, by rw [HQ.out]; exact HBW.out⟩
end Go.Proofs.YtgbcilokeiengaaGreatDoor
namespace Go.Proofs.YtgbcilokeiengaaGreatDoor
open Go.RowKit
attribute [local go_sem ↓] Go.wp_at_zero Go.wp_at_succ

namespace Sha
def tell4 (x : Int) : List UInt8 := [byteOf (x / 16777216), byteOf (x / 65536), byteOf (x / 256), byteOf x]
def tell (L : List Int) : Nat → List UInt8
  | 0 => []
  | k + 1 => tell L k ++ tell4 (L.getD k 0)
theorem tell_length (L : List Int) (k : Nat) : (tell L k).length = 4 * k := by
  induction k with
  | zero => rfl
  | succ k ih => simp [tell, ih, tell4]; omega
theorem set4 (A B : List UInt8) (x : Int) (n : Nat) (hA : A.length = n) : ((((A ++ 0 :: 0 :: 0 :: 0 :: B).set n (byteOf (x / 16777216))).set (n + 1) (byteOf (x / 65536))).set (n + 2) (byteOf (x / 256))).set (n + 3) (byteOf x) = (A ++ tell4 x) ++ B := by
  subst hA
  simp [tell4]
theorem joinFill_tell (L : List Int) (k : Nat) (hk : k ≤ 8) : joinFill L k = tell L k ++ List.replicate (32 - 4 * k) 0 := by
  induction k with
  | zero => rfl
  | succ k ih =>
    rw [joinFill, ih (by omega), show 32 - 4 * k = (32 - 4 * (k + 1)) + 1 + 1 + 1 + 1 by omega]
    simp only [List.replicate_succ]
    rw [set4 _ _ _ _ (tell_length L k)]
    rfl
theorem tell_is (s : St) : tell s.list 8 = joinP s := by
  rw [joinP, joinFill_tell _ 8 (by omega)]
  simp
end Sha
theorem conv_four2 (w : World) (x0 x1 x2 x3 : Int) : (convert 80 9 (.slice (some ⟨w.heap.size, 0, none⟩) 4 4)).run Tryz.prog (w.alloc (.cells #[.int .u8 (x0 % 256), .int .u8 (x1 % 256), .int .u8 (x2 % 256), .int .u8 (x3 % 256)] 5)).drew = .ok (.string ⟨[Sha.byteOf x0, Sha.byteOf x1, Sha.byteOf x2, Sha.byteOf x3].toArray⟩) (w.alloc (.cells #[.int .u8 (x0 % 256), .int .u8 (x1 % 256), .int .u8 (x2 % 256), .int .u8 (x3 % 256)] 5)).drew := by
  have hg : (w.alloc (.cells #[.int .u8 (x0 % 256), .int .u8 (x1 % 256), .int .u8 (x2 % 256), .int .u8 (x3 % 256)] 5)).drew.heap[w.heap.size]? = _ := heap_alloc_new w (.cells #[.int .u8 (x0 % 256), .int .u8 (x1 % 256), .int .u8 (x2 % 256), .int .u8 (x3 % 256)] 5)
  refine run_convert_bytes_back (P := Tryz.prog) _ 80 9 5 ⟨w.heap.size, 0, none⟩ 4 [Sha.byteOf x0, Sha.byteOf x1, Sha.byteOf x2, Sha.byteOf x3] Tryz.underlying80 Tryz.underlying5 Tryz.underlying9 ?_
  intro j hj
  rw [Addr.add_mid, Nat.zero_add, cell_of_row _ _ j _ _ _ hg]
  match j, hj with
  | 0, _ => simp [Sha.byteOf_toNat]
  | 1, _ => simp [Sha.byteOf_toNat]
  | 2, _ => simp [Sha.byteOf_toNat]
  | 3, _ => simp [Sha.byteOf_toNat]

set_option maxRecDepth 8000 in
set_option maxHeartbeats 1000000 in
theorem rtold_any (s : Sha.St) (w : World) :
    Calls Tryz.prog 56 #[.agg (u32s s.list)] w fun e w' => e = .returned (.string ⟨(Sha.joinP s).toArray⟩) ∧ Below w.heap.size w w' := by
  obtain ⟨L, hL⟩ : ∃ L, s.list = L := ⟨_, rfl⟩
  have hLl : L.length = 8 := by rw [← hL]; rfl
  have hj : Sha.tell L 8 = Sha.joinP s := by rw [← hL]; exact Sha.tell_is s
  rw [hL]
  have HJ := Lib.hid hj
  have HLL := Lib.hid hLl
  obtain ⟨A, hA⟩ : ∃ A, u32s L = A := ⟨_, rfl⟩
  have HA := Lib.hid hA
  rw [hA]
  clear hA hj hLl hL
  go_enter Tryz.func56, Tryz.ntmps56
  go_wp2
  go_loopw [3, 4] (fun t i wr => ∃ k : Nat, k ≤ 8 ∧ i = .int .i64 k ∧ t = .string ⟨(Sha.tell L k).toArray⟩ ∧ Below w.heap.size w wr ∧ wr.heap[w.heap.size]? = some (.cells A 96 (0, 0))) (fun _ i _ => 8 - (intOf i).toNat)
  case atStart => exact ⟨0, by omega, rfl, rfl, (Below.refl _ w).alloc (Nat.le_refl _) _, heap_new_at _ _ _ rfl⟩
  case round =>
    obtain ⟨k, hk, rfl, rfl, hb, hg⟩ := hrel
    have HB := Lib.hid hb
    have HG := Lib.hid hg
    by_cases hlt : k < 8
    · have c0 : wr.cell? ⟨w.heap.size, k, none⟩ = some (.int .u32 (L.getD k 0)) := by
        rw [cell_of_row wr _ k _ _ _ hg, ← HA.out]; exact u32s_at L k (by rw [HLL.out]; exact hlt)
      have hn : Sha.tell L (k + 1) = Sha.tell L k ++ Sha.tell4 (L.getD k 0) := rfl
      have hXl := Sha.tell_length L k
      obtain ⟨x, hx⟩ : ∃ x, L.getD k 0 = x := ⟨_, rfl⟩
      obtain ⟨X, hX⟩ : ∃ X, Sha.tell L k = X := ⟨_, rfl⟩
      obtain ⟨Y, hY⟩ : ∃ Y, Sha.tell L (k + 1) = Y := ⟨_, rfl⟩
      rw [hx] at c0 hn
      rw [hX] at hXl hn ⊢
      rw [hY] at hn
      have hcm := cat_mk X (Sha.tell4 x)
      rw [← hn] at hcm
      unfold Sha.tell4 at hcm
      have kc := fun w => conv_four2 w (x / 16777216) (x / 65536) (x / 256) x
      have hxl : X.length ≤ 32 := by omega
      have hx4 : ¬ (9223372036854775807 < X.length + 4) := by omega
      have HY := Lib.hid hY
      have hlw := lt_of_heap hg
      have hk8 : (k : Int) < 8 := by omega
      have hk0 : (0 : Int) ≤ (k : Int) := by omega
      clear hb hg hx hX hY hn hXl
      go_wp2
      go_region
      go_wp2
      go_roundw
      case rel => exact ⟨k + 1, by omega, by go_num, by rw [HY.out], (HB.out.alloc HB.out.size _).drew, heap_old_at _ HG.out⟩
      case measure => simp [intOf]; omega
    · obtain rfl : k = 8 := by omega
      have hno : ¬ ((8 : Nat) : Int) < 8 := by omega
      clear hlt hk hb hg
      go_wp2
      go_ret
      exact ⟨by rw [HJ.out]; rfl, HB.out⟩
end Go.Proofs.YtgbcilokeiengaaGreatDoor
namespace Go.Proofs.YtgbcilokeiengaaGreatDoor
open Go.RowKit

set_option maxHeartbeats 400000 in
theorem turned_any (x n : Int) (w : World) (h0 : 1 ≤ n) (h1 : n ≤ 31) :
    Calls Tryz.prog 75 #[.int .u32 x, .int .i64 n] w fun e w' => e = .returned (.int .u32 (Sha.rotI x n)) ∧ w' = w := by
  have hA : 0 ≤ 32 - n := by omega
  have hB : 32 - n ≤ 32 := by omega
  go_enter Tryz.func75, Tryz.ntmps75
  go_wp2
  go_ret
  refine ⟨?_, rfl⟩
  simp only [Sha.rotI]
  rw [Sha.bits_or_comm]
  rfl
set_option maxRecDepth 8000 in
set_option maxHeartbeats 1000000 in
theorem rfirst_any (w : World) :
    Calls Tryz.prog 54 #[] w fun e w' => e = .returned (.agg (u32s Sha.first.list)) ∧ Below w.heap.size w w' := by
  go_enter Tryz.func54, Tryz.ntmps54
  go_wp2
  refine bodyPost_ret (v := .agg (u32s Sha.first.list)) (results_cell_row rfl _ _ w.heap.size _ _ (0, 0) _ rfl (heap_new_at _ _ _ rfl) Tryz.underlying96 rfl (by kernel_rfl)) rfl ⟨rfl, (Below.refl _ w).alloc (Nat.le_refl _) _⟩
def constParts : List (Nat × Value) := Sha.kTab.zipIdx.map fun x => (x.2, .int .u32 x.1)
theorem built_consts : Tryz.prog.built 129 constParts = some (u32s Sha.kTab) := by kernel_rfl
theorem info64w : (Tryz.prog.info? 129).map (·.size) = some 64 := by kernel_rfl

set_option maxRecDepth 8000 in
set_option maxHeartbeats 1000000 in
theorem const_any (i : Nat) (w : World) (hi : i < 64) :
    Calls Tryz.prog 76 #[.int .i64 i] w fun e w' => e = .returned (.int .u32 (Sha.kTab.getD i 0)) ∧ Below w.heap.size w w' := by
  have h64 : (i : Int) < 64 := by omega
  have hat := u32s_at Sha.kTab i hi
  obtain ⟨K, hK⟩ : ∃ K, u32s Sha.kTab = K := ⟨_, rfl⟩
  rw [hK] at hat
  obtain ⟨x, hx⟩ : ∃ x, Sha.kTab.getD i 0 = x := ⟨_, rfl⟩
  rw [hx] at hat ⊢
  have hbu := built_consts
  rw [hK] at hbu
  have HBU := Lib.hid hbu
  have HI : Hid ((Tryz.prog.info? 129).map (·.size) = some K.size) := Lib.hid (by rw [← hK]; exact info64w)
  have HS : Hid (K.size = 64) := Lib.hid (by rw [← hK]; rfl)
  have H1 : Hid (K.all (·.oneCell') = true) := Lib.hid (by rw [← hK]; exact u32s_one _)
  clear hK hx hbu
  go_enter Tryz.func76, Tryz.ntmps76
  go_wp2_with (first | (refine wpList_build_to (by rfl) _ _ (by rfl) constParts (by first | kernel_rfl | rfl) K HBU.out ?_) | (refine wpList_store_new (by rfl) _ _ _ (by rfl) w.heap.size rfl K (by rfl) (by rfl) _ _ HI.out (by rw [HS.out]; rfl) H1.out ?_))
  go_ret
  exact ⟨rfl, (Below.refl _ w).alloc (Nat.le_refl _) _⟩
end Go.Proofs.YtgbcilokeiengaaGreatDoor
namespace Go.Proofs.YtgbcilokeiengaaGreatDoor
open Go.RowKit
attribute [local go_sem ↓] Go.wp_at_zero Go.wp_at_succ

theorem info8w : (Tryz.prog.info? 96).map (·.size) = some 8 := by kernel_rfl
/-- A fact that nothing unfolds. -/
structure Boxed (p : Prop) : Prop where
  out : p

set_option maxRecDepth 8000 in
set_option maxHeartbeats 4000000 in
theorem rblock_any (s : Sha.St) (b : List UInt8) (w : World) (hb : b.length = 64) :
    Calls Tryz.prog 55 #[.agg (u32s s.list), .agg (u8s b)] w fun e w' => e = .returned (.agg (u32s (Sha.blockR s b).list)) ∧ Below w.heap.size w w' := by
  obtain ⟨s0, hs0⟩ : ∃ s0, s = s0 := ⟨_, rfl⟩
  obtain ⟨a, b1, c, d, e, f, g, h⟩ := s
  obtain ⟨bs, hbs⟩ : ∃ bs, u8s b = bs := ⟨_, rfl⟩
  rw [hbs]
  have HS := Boxed.mk hs0
  have HBS := Boxed.mk hbs
  have HLB := Boxed.mk hb
  simp only [Sha.St.list, u32s, List.map_cons, List.map_nil]
  clear hbs hs0 hb
  go_enter Tryz.func55, Tryz.ntmps55
  go_wp2
  go_loopw [6] (fun i wr => ∃ k : Nat, k ≤ 64 ∧ i = .int .i64 k ∧ Below w.heap.size w wr ∧ wr.heap[w.heap.size]? = some (.cells (u32s [a, b1, c, d, e, f, g, h]) 96 (0, 0)) ∧ wr.heap[w.heap.size + 1]? = some (.cells bs 98 (0, 0)) ∧ wr.heap[w.heap.size + 1 + 1]? = some (.cells (u32s (List.replicate 8 0)) 96 (0, 0)) ∧ wr.heap[w.heap.size + 1 + 1 + 1]? = some (.cells (u32s (Sha.fillR b k)) 119 (0, 0))) (fun i _ => 64 - (intOf i).toNat)
  case atStart =>
    refine ⟨0, by omega, rfl, ?_, ?_, ?_, ?_, ?_⟩
    · exact ((((Below.refl _ w).alloc (Nat.le_refl _) _).alloc (by simp) _).alloc (by simp; omega) _).alloc (by simp; omega) _
    · exact heap_old_at _ (heap_old_at _ (heap_old_at _ (heap_new_at _ _ _ (by simp))))
    · exact heap_old_at _ (heap_old_at _ (heap_new_at _ _ _ (by simp)))
    · exact heap_old_at _ (heap_new_at _ _ _ (by simp))
    · exact heap_new_at _ _ _ (by simp)
  case round =>
    obtain ⟨k, hk, rfl, hbe, hg0, hg1, hg2, hg3⟩ := hrel
    obtain ⟨F, hF⟩ : ∃ F, Sha.fillR b k = F := ⟨_, rfl⟩
    have hFl : F.length = 16 := by rw [← hF, Sha.fillR_length]
    rw [hF] at hg3
    have HF := Boxed.mk hF
    have HBE := Boxed.mk hbe
    have HG0 := Boxed.mk hg0
    have HG1 := Boxed.mk hg1
    have HG2 := Boxed.mk hg2
    have HG3 := Boxed.mk hg3
    by_cases hlt : k < 64
    · obtain ⟨q, hq⟩ : ∃ q, k / 4 = q := ⟨_, rfl⟩
      have hq16 : q < 16 := by omega
      have cb : wr.cell? ⟨w.heap.size + 1, k, none⟩ = some (.int .u8 ((b.getD k 0).toNat : Int)) := by
        rw [cell_of_row wr _ k bs _ _ hg1, ← HBS.out]; exact u8s_at b k (by rw [HLB.out]; exact hlt)
      have cw : wr.cell? ⟨w.heap.size + 1 + 1 + 1, q, none⟩ = some (.int .u32 (F.getD q 0)) := (cell_of_row wr _ q _ _ _ hg3).trans (u32s_at F q (by omega))
      have fw := frozen_of_row wr _ q _ _ hg3
      have hn : Sha.fillR b (k + 1) = F.set q ((F.getD q 0 * 256 + ((b.getD k 0).toNat : Int)) % 4294967296) := by rw [← hF, ← hq]; rfl
      obtain ⟨x, hx⟩ : ∃ x, b.getD k 0 = x := ⟨_, rfl⟩
      obtain ⟨y, hy⟩ : ∃ y, F.getD q 0 = y := ⟨_, rfl⟩
      rw [hx] at cb hn
      rw [hy] at cw hn
      have HN := Boxed.mk hn
      have hxb := byte_lt x
      have hqt : (k : Int).tdiv 4 = (q : Int) := by rw [Int.tdiv_eq_ediv_of_nonneg (by omega)]; omega
      have hqd : (k : Int) / 4 = (q : Int) := by omega
      have hqI : (q : Int) < 16 := by omega
      have hq0 : (0 : Int) ≤ (q : Int) := by omega
      have hkI : (k : Int) < 64 := by omega
      have hk0 : (0 : Int) ≤ (k : Int) := by omega
      have wq := wrap_small (q : Int) (by omega) (by omega)
      clear hbe hg0 hg1 hg2 hg3 hF hFl hq hn hx hy
      go_wp2
      go_region
      go_wp2
      go_roundw
      case rel =>
        refine ⟨k + 1, by omega, by go_num, (HBE.out.setCell (by dsimp only; omega) _).drew, ?_, ?_, ?_, ?_⟩
        · exact (Below.heap_setCell _ _ _ _ (by dsimp only; omega)).trans HG0.out
        · exact (Below.heap_setCell _ _ _ _ (by dsimp only; omega)).trans HG1.out
        · exact (Below.heap_setCell _ _ _ _ (by dsimp only; omega)).trans HG2.out
        · rw [HN.out, ← u32s_set, show (y * 256 + (x.toNat : Int)) % 4294967296 = y * 256 % 4294967296 + (x.toNat : Int) by omega]
          exact heap_setCell_same _ _ _ _ _ _ HG3.out
      case measure => simp [intOf]; omega
    · obtain rfl : k = 64 := by omega
      have hno : ¬ ((64 : Nat) : Int) < 64 := by omega
      have hc : ∀ j, wr.cell? ⟨w.heap.size, j, none⟩ = (u32s [a, b1, c, d, e, f, g, h])[j]? := fun j => cell_of_row wr _ j _ _ _ hg0
      have k0 := hc 0
      have k1 := hc 1
      have k2 := hc 2
      have k3 := hc 3
      have k4 := hc 4
      have k5 := hc 5
      have k6 := hc 6
      have k7 := hc 7
      simp only [u32s, List.map_cons, List.map_nil, List.getElem?_toArray, List.getElem?_cons_zero, List.getElem?_cons_succ] at k0 k1 k2 k3 k4 k5 k6 k7
      clear hlt hk hbe hg0 hg1 hg2 hg3 hF hc
      obtain ⟨V, hV⟩ : ∃ V, F = V := ⟨_, rfl⟩
      subst hV
      obtain ⟨V, hV⟩ : ∃ V, V = F := ⟨_, rfl⟩
      subst hV
      go_wp2
      go_quiet (fail)
      go_wp2
      go_quiet (fail)
      go_wp2
      clear k0 k1 k2 k3 k4 k5 k6 k7
      go_loopw [7, 8, 9, 10, 11, 12, 13, 14, 15] (fun xa xb xc xd xe xf xg xh i wr => ∃ k : Nat, k ≤ 64 ∧ i = .int .i64 k ∧ xa = .int .u32 (Sha.roundsR s0 V k).a ∧ xb = .int .u32 (Sha.roundsR s0 V k).b ∧ xc = .int .u32 (Sha.roundsR s0 V k).c ∧ xd = .int .u32 (Sha.roundsR s0 V k).d ∧ xe = .int .u32 (Sha.roundsR s0 V k).e ∧ xf = .int .u32 (Sha.roundsR s0 V k).f ∧ xg = .int .u32 (Sha.roundsR s0 V k).g ∧ xh = .int .u32 (Sha.roundsR s0 V k).h ∧ Below w.heap.size w wr ∧ wr.heap[w.heap.size]? = some (.cells (u32s [a, b1, c, d, e, f, g, h]) 96 (0, 0)) ∧ wr.heap[w.heap.size + 1 + 1]? = some (.cells (u32s (List.replicate 8 0)) 96 (0, 0)) ∧ wr.heap[w.heap.size + 1 + 1 + 1]? = some (.cells (u32s (Sha.win V k)) 119 (0, 0))) (fun _ _ _ _ _ _ _ _ i _ => 64 - (intOf i).toNat)
      case atStart =>
        refine ⟨0, by omega, rfl, by rw [← HS.out]; rfl, by rw [← HS.out]; rfl, by rw [← HS.out]; rfl, by rw [← HS.out]; rfl, by rw [← HS.out]; rfl, by rw [← HS.out]; rfl, by rw [← HS.out]; rfl, by rw [← HS.out]; rfl, bel_drewN (bel_drewN HBE.out _) _, HG0.out, HG2.out, HG3.out⟩
      case round =>
        clear HBE HG0 HG1 HG2 HG3
        obtain ⟨k, hk, rfl, rfl, rfl, rfl, rfl, rfl, rfl, rfl, rfl, hbe, hg0, hg2, hg3⟩ := hrel
        by_cases hlt : k < 64
        · obtain ⟨U, hU⟩ : ∃ U, Sha.win V k = U := ⟨_, rfl⟩
          obtain ⟨U', hU'⟩ : ∃ U', Sha.win V (k + 1) = U' := ⟨_, rfl⟩
          have hUl : U.length = 16 := by rw [← hU, Sha.win_length, hFl]
          have hUl' : U'.length = 16 := by rw [← hU', Sha.win_length, hFl]
          have hnext : U' = Sha.winNext U k := by rw [← hU', ← hU]; rfl
          obtain ⟨T, hT⟩ : ∃ T, Sha.roundsR s0 V k = T := ⟨_, rfl⟩
          obtain ⟨r0, hr0⟩ : ∃ r, k % 16 = r := ⟨_, rfl⟩
          have hr16 : r0 < 16 := by omega
          have hstep : Sha.roundsR s0 V (k + 1) = Sha.step T (Sha.kTab.getD k 0) (U'.getD r0 0) := by rw [← hT, ← hU', ← hr0]; rfl
          obtain ⟨ww, hww⟩ : ∃ x, U'.getD r0 0 = x := ⟨_, rfl⟩
          rw [hww] at hstep
          have hkc := fun W => const_any k W hlt
          obtain ⟨kk, hkk⟩ : ∃ x, Sha.kTab.getD k 0 = x := ⟨_, rfl⟩
          rw [hkk] at hstep hkc
          have HKC := Boxed.mk hkc
          clear hkk hkc
          rw [hU] at hg3
          have HST := Boxed.mk hstep
          have HU := Boxed.mk hU'
          have HUL := Boxed.mk hUl'
          have HWW := Boxed.mk hww
          have hm0 : (k : Int).tmod 16 = (r0 : Int) := by rw [Int.tmod_eq_emod_of_nonneg (by omega)]; omega
          have hm0' : (k : Int) % 16 = (r0 : Int) := by omega
          have hrI : (r0 : Int) < 16 := by omega
          have hrp : (0 : Int) ≤ (r0 : Int) := by omega
          have hkI : (k : Int) < 64 := by omega
          rw [hT]
          obtain ⟨ra, rb, rc, rd, re, rf, rg, rh⟩ := T
          clear hU hU' hUl' hstep hww hT
          dsimp only
          by_cases h16 : 16 ≤ k
          · have h16n : (k : Int) ≥ 16 := by omega
            have hUU : U' = U.set r0 ((U.getD r0 0 + Sha.sP (U.getD ((k + 1) % 16) 0) + U.getD ((k + 9) % 16) 0 + Sha.tP (U.getD ((k + 14) % 16) 0)) % 4294967296) := by rw [hnext, Sha.winNext, if_pos h16, hr0]
            have hcw : ∀ j, j < 16 → wr.cell? ⟨w.heap.size + 1 + 1 + 1, j, none⟩ = some (.int .u32 (U.getD j 0)) := fun j hj => (cell_of_row wr _ j _ _ _ hg3).trans (u32s_at U j (by omega))
            obtain ⟨r1, hr1⟩ : ∃ r, (k + 1) % 16 = r := ⟨_, rfl⟩
            have hr1b : r1 < 16 := by omega
            rw [hr1] at hUU
            have hm1 : ((k : Int) + 1).tmod 16 = (r1 : Int) := by rw [Int.tmod_eq_emod_of_nonneg (by omega)]; omega
            have hm1' : ((k : Int) + 1) % 16 = (r1 : Int) := by omega
            have hr1I : (r1 : Int) < 16 := by omega
            have c1 := hcw r1 hr1b
            obtain ⟨v1, hu1⟩ : ∃ x, U.getD r1 0 = x := ⟨_, rfl⟩
            rw [hu1] at c1 hUU
            clear hr1 hu1
            obtain ⟨r9, hr9⟩ : ∃ r, (k + 9) % 16 = r := ⟨_, rfl⟩
            have hr9b : r9 < 16 := by omega
            rw [hr9] at hUU
            have hm9 : ((k : Int) + 9).tmod 16 = (r9 : Int) := by rw [Int.tmod_eq_emod_of_nonneg (by omega)]; omega
            have hm9' : ((k : Int) + 9) % 16 = (r9 : Int) := by omega
            have hr9I : (r9 : Int) < 16 := by omega
            have c9 := hcw r9 hr9b
            obtain ⟨v9, hu9⟩ : ∃ x, U.getD r9 0 = x := ⟨_, rfl⟩
            rw [hu9] at c9 hUU
            clear hr9 hu9
            obtain ⟨r14, hr14⟩ : ∃ r, (k + 14) % 16 = r := ⟨_, rfl⟩
            have hr14b : r14 < 16 := by omega
            rw [hr14] at hUU
            have hm14 : ((k : Int) + 14).tmod 16 = (r14 : Int) := by rw [Int.tmod_eq_emod_of_nonneg (by omega)]; omega
            have hm14' : ((k : Int) + 14) % 16 = (r14 : Int) := by omega
            have hr14I : (r14 : Int) < 16 := by omega
            have c14 := hcw r14 hr14b
            obtain ⟨v14, hu14⟩ : ∃ x, U.getD r14 0 = x := ⟨_, rfl⟩
            rw [hu14] at c14 hUU
            clear hr14 hu14
            have c0 := hcw r0 hr16
            have f0 := frozen_of_row wr _ r0 _ _ hg3
            obtain ⟨v0, hu0⟩ : ∃ x, U.getD r0 0 = x := ⟨_, rfl⟩
            rw [hu0] at c0 hUU
            have HUU := Boxed.mk hUU
            have HBE := Boxed.mk hbe
            have HG0 := Boxed.mk hg0
            have HG2 := Boxed.mk hg2
            have HG3 := Boxed.mk hg3
            clear hu0 hcw hUU hbe hg0 hg2 hg3 hnext hUl hr0
            go_wp2_with fail
            refine (turned_any v1 7 _ (by omega) (by omega)).mono ?_
            rintro _ _ ⟨rfl, rfl⟩
            go_wp2_with fail
            refine (turned_any v1 18 _ (by omega) (by omega)).mono ?_
            rintro _ _ ⟨rfl, rfl⟩
            go_wp2_with fail
            refine (turned_any v14 17 _ (by omega) (by omega)).mono ?_
            rintro _ _ ⟨rfl, rfl⟩
            go_wp2_with fail
            refine (turned_any v14 19 _ (by omega) (by omega)).mono ?_
            rintro _ _ ⟨rfl, rfl⟩
            go_wp2
            go_region
            go_wp2
            generalize hw5 : World.drew (World.setCell _ _ _) = w5
            have H53 : Boxed (w5.heap[w.heap.size + 1 + 1 + 1]? = some (.cells (u32s U') 119 (0, 0))) := Boxed.mk (by
              rw [← hw5, HUU.out, ← u32s_set]
              refine (heap_setCell_same _ _ _ _ _ _ HG3.out).trans ?_
              first | rfl | (simp only [Int.emod_add_emod]; rfl))
            have H50 : Boxed (w5.heap[w.heap.size]? = some (.cells (u32s [a, b1, c, d, e, f, g, h]) 96 (0, 0))) := Boxed.mk (by rw [← hw5]; exact (Below.heap_setCell _ _ _ _ (by dsimp only; omega)).trans HG0.out)
            have H52 : Boxed (w5.heap[w.heap.size + 1 + 1]? = some (.cells (u32s (List.replicate 8 0)) 96 (0, 0))) := Boxed.mk (by rw [← hw5]; exact (Below.heap_setCell _ _ _ _ (by dsimp only; omega)).trans HG2.out)
            have HB5 : Boxed (Below w.heap.size w w5) := Boxed.mk (by rw [← hw5]; exact (HBE.out.setCell (by dsimp only; omega) _).drew)
            clear hw5 c0 c1 c9 c14 f0 hm1 hm1' hm9 hm9' hm14 hm14'
            have hlt5 := lt_of_heap H53.out
            have hSS : ∀ w', Below w5.heap.size w5 w' → w'.cell? ⟨w.heap.size + 1 + 1 + 1, r0, none⟩ = some (.int .u32 ww) ∧ Below w5.heap.size w5 w' := fun w' hw => ⟨(cell_of_row w' _ r0 _ _ _ ((hw.block _ hlt5).trans H53.out)).trans (by rw [← HWW.out]; exact u32s_at U' r0 (by rw [HUL.out]; omega)), hw⟩
            have HSS := Boxed.mk hSS
            have HDR : Boxed (Below w5.heap.size w5 w5.drew) := Boxed.mk (Below.refl _ w5).drew
            clear hSS hlt5
            try go_wp2
            go_region_held3 (fun w' => w'.cell? ⟨w.heap.size + 1 + 1 + 1, r0, none⟩ = some (.int .u32 ww) ∧ Below w5.heap.size w5 w')
              ((refine HSS.out _ ?_; with_reducible (first | exact HDR.out | exact hB9 | fail)))
              (first | (go_at_call 75; refine (turned_any _ _ _ (by omega) (by omega)).mono ?_; rintro e' w' ⟨rfl, rfl⟩) | (go_at_call 76; refine (HKC.out _).mono ?_; rintro e' w9 ⟨rfl, hb9⟩; (have hB9 : Below w5.heap.size w5 w9 := Below.trans HDR.out hb9)))
            have HB9 := Boxed.mk hB9
            clear hB9 hb9
            go_wp2_with fail
            refine (turned_any ra 2 _ (by omega) (by omega)).mono ?_
            rintro _ _ ⟨rfl, rfl⟩
            go_wp2_with fail
            refine (turned_any ra 13 _ (by omega) (by omega)).mono ?_
            rintro _ _ ⟨rfl, rfl⟩
            go_wp2_with fail
            refine (turned_any ra 22 _ (by omega) (by omega)).mono ?_
            rintro _ _ ⟨rfl, rfl⟩
            go_wp2
            go_roundw
            case rel =>
              have hb9 := HB9.out
              have l0 := lt_of_heap H50.out
              have l2 := lt_of_heap H52.out
              have l3 := lt_of_heap H53.out
              refine ⟨k + 1, by omega, by go_num, ?_, ?_, ?_, ?_, ?_, ?_, ?_, ?_, HB5.out.trans (hb9.mono HB5.out.size), (hb9.block _ l0).trans H50.out, (hb9.block _ l2).trans H52.out, by rw [HU.out]; exact (hb9.block _ l3).trans H53.out⟩ <;> rw [HST.out] <;> simp only [Sha.step, Sha.uP, Sha.vP, Int.emod_add_emod] <;> rfl
            case measure => simp [intOf]; omega
          · have h16n : ¬ ((k : Int) ≥ 16) := by omega
            have hUU : U' = U := by rw [hnext, Sha.winNext, if_neg h16]
            rw [← hUU] at hg3
            obtain ⟨w5, hw5⟩ : ∃ w5, wr = w5 := ⟨_, rfl⟩
            have H53 : Boxed (w5.heap[w.heap.size + 1 + 1 + 1]? = some (.cells (u32s U') 119 (0, 0))) := Boxed.mk (by rw [← hw5]; exact hg3)
            have H50 : Boxed (w5.heap[w.heap.size]? = some (.cells (u32s [a, b1, c, d, e, f, g, h]) 96 (0, 0))) := Boxed.mk (by rw [← hw5]; exact hg0)
            have H52 : Boxed (w5.heap[w.heap.size + 1 + 1]? = some (.cells (u32s (List.replicate 8 0)) 96 (0, 0))) := Boxed.mk (by rw [← hw5]; exact hg2)
            have HB5 : Boxed (Below w.heap.size w w5) := Boxed.mk (by rw [← hw5]; exact hbe)
            rw [hw5]
            clear hw5 hbe hg0 hg2 hg3 hnext hUl hUU hr0
            have hlt5 := lt_of_heap H53.out
            have hSS : ∀ w', Below w5.heap.size w5 w' → w'.cell? ⟨w.heap.size + 1 + 1 + 1, r0, none⟩ = some (.int .u32 ww) ∧ Below w5.heap.size w5 w' := fun w' hw => ⟨(cell_of_row w' _ r0 _ _ _ ((hw.block _ hlt5).trans H53.out)).trans (by rw [← HWW.out]; exact u32s_at U' r0 (by rw [HUL.out]; omega)), hw⟩
            have HSS := Boxed.mk hSS
            have HDR : Boxed (Below w5.heap.size w5 w5.drew) := Boxed.mk (Below.refl _ w5).drew
            clear hSS hlt5
            try go_wp2
            go_region_held3 (fun w' => w'.cell? ⟨w.heap.size + 1 + 1 + 1, r0, none⟩ = some (.int .u32 ww) ∧ Below w5.heap.size w5 w')
              ((refine HSS.out _ ?_; with_reducible (first | exact HDR.out | exact hB9 | fail)))
              (first | (go_at_call 75; refine (turned_any _ _ _ (by omega) (by omega)).mono ?_; rintro e' w' ⟨rfl, rfl⟩) | (go_at_call 76; refine (HKC.out _).mono ?_; rintro e' w9 ⟨rfl, hb9⟩; (have hB9 : Below w5.heap.size w5 w9 := Below.trans HDR.out hb9)))
            have HB9 := Boxed.mk hB9
            clear hB9 hb9
            go_wp2_with fail
            refine (turned_any ra 2 _ (by omega) (by omega)).mono ?_
            rintro _ _ ⟨rfl, rfl⟩
            go_wp2_with fail
            refine (turned_any ra 13 _ (by omega) (by omega)).mono ?_
            rintro _ _ ⟨rfl, rfl⟩
            go_wp2_with fail
            refine (turned_any ra 22 _ (by omega) (by omega)).mono ?_
            rintro _ _ ⟨rfl, rfl⟩
            go_wp2
            go_roundw
            case rel =>
              have hb9 := HB9.out
              have l0 := lt_of_heap H50.out
              have l2 := lt_of_heap H52.out
              have l3 := lt_of_heap H53.out
              refine ⟨k + 1, by omega, by go_num, ?_, ?_, ?_, ?_, ?_, ?_, ?_, ?_, HB5.out.trans (hb9.mono HB5.out.size), (hb9.block _ l0).trans H50.out, (hb9.block _ l2).trans H52.out, by rw [HU.out]; exact (hb9.block _ l3).trans H53.out⟩ <;> rw [HST.out] <;> simp only [Sha.step, Sha.uP, Sha.vP, Int.emod_add_emod] <;> rfl
            case measure => simp [intOf]; omega
        · obtain rfl : k = 64 := by omega
          have hno : ¬ ((64 : Nat) : Int) < 64 := by omega
          have hc : ∀ j, wr.cell? ⟨w.heap.size, j, none⟩ = (u32s [a, b1, c, d, e, f, g, h])[j]? := fun j => cell_of_row wr _ j _ _ _ hg0
          have k0 := hc 0
          have k1 := hc 1
          have k2 := hc 2
          have k3 := hc 3
          have k4 := hc 4
          have k5 := hc 5
          have k6 := hc 6
          have k7 := hc 7
          simp only [u32s, List.map_cons, List.map_nil, List.getElem?_toArray, List.getElem?_cons_zero, List.getElem?_cons_succ] at k0 k1 k2 k3 k4 k5 k6 k7
          obtain ⟨T, hT⟩ : ∃ T, Sha.roundsR s0 V 64 = T := ⟨_, rfl⟩
          have HR : Boxed (Sha.blockR ⟨a, b1, c, d, e, f, g, h⟩ b = Sha.addP ⟨a, b1, c, d, e, f, g, h⟩ T) := Boxed.mk (by unfold Sha.blockR; rw [HS.out, HF.out, hT])
          rw [hT]
          obtain ⟨ra, rb, rc, rd, re, rf, rg, rh⟩ := T
          have HG2 := Boxed.mk hg2
          have HBE := Boxed.mk hbe
          clear hlt hk hbe hg0 hg2 hg3 hc hT
          dsimp only
          go_wp2_with (refine wpList_store_row (by rfl) _ _ _ (by rfl) (w.heap.size + 1 + 1) (u32s (Sha.addP ⟨a, b1, c, d, e, f, g, h⟩ ⟨ra, rb, rc, rd, re, rf, rg, rh⟩).list) (by rfl) (by rfl) _ _ HG2.out (by exact info8w) (by rfl) (u32s_one _) ?_)
          refine bodyPost_ret (v := .agg (u32s (Sha.addP ⟨a, b1, c, d, e, f, g, h⟩ ⟨ra, rb, rc, rd, re, rf, rg, rh⟩).list)) (results_cell_row rfl _ _ (w.heap.size + 1 + 1) _ _ _ _ rfl (setRow_heap _ _ _ _ _ _ HG2.out) Tryz.underlying96 rfl info8w) rfl ⟨?_, below_setRow HBE.out (by omega) _⟩
          rw [HR.out]
          rfl
end Go.Proofs.YtgbcilokeiengaaGreatDoor
