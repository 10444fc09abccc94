/- The law ProofTight, walked. -/
import Derived.Test.YtjfefphgikncnaaDoorPk15
namespace Go.Proofs.YtjfefphgikncnaaDoor
open Go.RowKit
open Sto (T St)

def otherL : T := [97, 110, 111, 116, 104, 101, 114, 32, 114, 111, 111, 116, 32, 116, 104, 97, 116, 32, 110, 111, 116, 104, 105, 110, 103, 32, 99, 97, 110, 32, 104, 97, 118, 101]
set_option maxRecDepth 100000 in
/-- 'l[:k]', run. -/
theorem upto_run (A : Option Addr) (n cap k : Nat) (hk : k ≤ cap) (hA : A = none ∨ ∃ g, A = some ⟨g, 0, none⟩) (W : World) :
    (Instr.slice 27 (.slice A n cap) none (some (.int .i64 k)) none).run Tryd.prog W = .ok (.slice A k cap) W := by
  have hs : ∀ W : World, (sizeOf (Tryd.prog.elem 27)).run Tryd.prog W = .ok 1 W := fun W => by kernel_rfl
  rw [run_slice_h W 27 A n cap Tryd.underlying27 .i64 k (by omega) (by omega), hs]
  rcases hA with rfl | ⟨g, rfl⟩ <;> simp [Result.andThen, sliced, Addr.add]
/-- A copy of one list with another behind it. -/
theorem both_lists {w : World} {u v : Value} {P M : List T} (hu : Strs w u P) (hv : Strs w v M) (hl : P.length + M.length ≤ 100000) :
    ∃ v1 w1 v2 w2, (Builtin.append_ #[27, 27] 27 #[.slice (some ⟨w.heap.size, 0, none⟩) 0 0, u]).run Tryd.prog (w.alloc (.cells #[] 9)) = .ok v1 w1 ∧
      (Builtin.append_ #[27, 27] 27 #[v1, v]).run Tryd.prog w1 = .ok v2 w2 ∧ StrsC w2 v2 (P ++ M) ∧ Below w.heap.size w w2 := by
  have hA : Below w.heap.size w (w.alloc (.cells #[] 9)) := (Below.refl _ w).alloc (Nat.le_refl _) _
  have h0 : (w.alloc (.cells #[] 9)).ownsRow w.heap.size 9 1 (.slice (some ⟨w.heap.size, 0, none⟩) 0 0) 0 [] :=
    ⟨rfl, Or.inr ⟨w.heap.size, 0, #[], rfl, Nat.le_refl _, heap_new_at _ _ _ rfl, Nat.le_refl _, Nat.zero_le _, rfl, rfl⟩⟩
  obtain ⟨v1, w1, r1, o1, g1, _⟩ := append_strs (hu.below hA) h0 (by omega) (by simp)
  rw [Nat.zero_add, List.nil_append] at o1
  have b1 : Below w.heap.size w w1 := own_grown (Nat.le_refl _) h0 hA (Below.refl _ _) g1 o1
  obtain ⟨v2, w2, r2, o2, g2, _⟩ := append_strs (hv.below b1) o1 (by omega) b1.size
  have o3 : Own w2 w.heap.size v2 (P ++ M) := by
    unfold Own
    rw [List.length_append, scells_append]
    exact o2
  exact ⟨v1, w1, v2, w2, r1, r2, StrsC.of_own o3, own_grown (Nat.le_refl _) o1 b1 (Below.refl _ _) g2 o2⟩
set_option maxRecDepth 100000 in
set_option maxHeartbeats 4000000 in
theorem proofTight_walk (lv : Value) (I : St) (key : T) (v : Value) (M : List T) (w : World) (hi : ItIn w lv I) (hv : StrsC w v M) (hm : M.length ≤ maxLen) (hT : Tab w) :
    Calls Tryd.prog 4 #[lv, .string ⟨key.toArray⟩, v] w fun e w' => e = .returned (.bool true) ∧ Below w.heap.size w w' := by
  have HWK := Lib.hid (pworks_any w hT)
  have HI := Lib.hid hi
  have HV := Lib.hid hv
  have HM := Lib.hid hm
  have HT := Lib.hid hT
  obtain ⟨A0, cap0, hie, -, -⟩ := hi.form
  subst hie
  obtain ⟨A, cap, hve, -⟩ := hv.form
  subst hve
  clear hi hT hv hm
  go_enter Tryd.func4, Tryd.ntmps4
  go_wp2_with fail
  refine HWK.out.mono ?_
  rintro e w1 ⟨rfl, hb1⟩
  have HB1 := Lib.hid hb1
  have HSO := Lib.hid (psome_any I _ w1 (RowsIn.below HI.out hb1) (HT.out.below hb1))
  unfold SomePost at HSO
  clear hb1 HWK
  go_wp2_with fail
  refine HSO.out.mono ?_
  rintro e w3 ⟨g, z, rfl, ht, -, hb3⟩
  have HB3 := Lib.hid (bchain HB1.out hb3)
  have HT3 := Lib.hid ht
  obtain ⟨S, hS⟩ : ∃ S, Prf.someS I = S := ⟨_, rfl⟩
  rw [hS] at HT3
  clear ht hb3 hS HSO
  obtain ⟨_, t, _, _, hts⟩ := id HT3.out
  have HTS := Lib.hid hts
  clear hts
  have HPR := Lib.hid (prove_any key w3 HT3.out)
  unfold ProvePost ptr ProveC proveS at HPR
  cases hk : Tri.keyed key with
  | false =>
    rw [hk] at HPR
    simp only [if_neg (show ¬ (false = true) by simp)] at HPR
    clear hk
    go_wp2_with fail
    refine HPR.out.mono ?_
    rintro e w4 ⟨zn, rfl, ho, hb4⟩
    have HB4 := Lib.hid (bchain HB3.out hb4)
    clear ho hb4
    go_wp2
    go_ret
    exact ⟨rfl, HB4.out⟩
  | true =>
  rw [hk] at HPR
  simp only [if_true] at HPR
  have HVW : Hid ((Prf.verify (rootS S) key (trailS S key)).2.2 = 0) := Lib.hid (by rw [Prf.verify_whole HTS.out hk])
  have HFW := Lib.hid (Prf.trailS_few HTS.out hk)
  have HSH := Lib.hid (Prf.trailS_short HTS.out key)
  have HNE := Lib.hid (fun h => Prf.trailS_ne HTS.out h key)
  have HNI := Lib.hid (fun h => Prf.trailS_nil HTS.out h key)
  have HRL := Lib.hid (root_short HTS.out)
  obtain ⟨P, hP⟩ : ∃ P, trailS S key = P := ⟨_, rfl⟩
  rw [hP] at HPR HVW HFW HSH HNE HNI
  have HK := Lib.hid hk
  clear hP hk
  go_wp2_with fail
  refine HPR.out.mono ?_
  rintro e w4 ⟨zn, rfl, ho, hb4⟩
  have HB4 := Lib.hid (bchain HB3.out hb4)
  have HT4 := Lib.hid (HT3.out.below hb4)
  have HO4 := Lib.hid ho
  have HA : Hid (∃ An cn, zn = .slice An P.length cn ∧ P.length ≤ cn ∧ (An = none ∨ ∃ g, An = some ⟨g, 0, none⟩)) := Lib.hid (by
    obtain ⟨An, cn, h1, h2⟩ := (StrsC.of_own ho).form
    refine ⟨An, cn, h1, h2, ?_⟩
    rcases ho.2 with ⟨h0, _⟩ | ⟨g, c, cur, h0, _⟩
    · rw [h0] at h1; exact Or.inl (by simp at h1; exact h1.1.symm)
    · rw [h0] at h1; exact Or.inr ⟨g, by simp at h1; exact h1.1.symm⟩)
  obtain ⟨An, cn, rfl, hcn, hAn⟩ := HA.out
  have HCN := Lib.hid hcn
  have HAN := Lib.hid hAn
  clear ho hb4 HPR hcn hAn HA
  have HFE := Lib.hid (few_any M _ 5 700 w4 (HV.out.below HB4.out).strs HM.out)
  cases hf : Code.few M 5 700 with
  | false =>
    rw [hf] at HFE
    clear hf
    go_wp2_with fail
    refine HFE.out.mono ?_
    rintro e w5 ⟨rfl, rfl⟩
    go_wp2
    go_ret
    exact ⟨rfl, HB4.out⟩
  | true =>
  rw [hf] at HFE
  have HFF := Lib.hid ((Code.few_iff M 5 700).1 hf)
  clear hf
  obtain ⟨R, hR⟩ : ∃ R, rootS S = R := ⟨_, rfl⟩
  rw [hR] at HVW HNE HNI HRL
  have HRT : Hid (∀ w', TrAt w' g S → Calls Tryd.prog 9 #[.pointer (some ⟨g, 0, none⟩)] w' fun e w'' => e = .returned (.string ⟨R.toArray⟩) ∧ Below w'.heap.size w' w'') := Lib.hid (fun w' h => by
    have := sroot_any w' h
    rw [hR] at this
    exact this)
  clear hR
  obtain ⟨pn, hpn⟩ : ∃ pn, P.length = pn := ⟨_, rfl⟩
  have HPN := Lib.hid hpn
  have h17 : pn ≤ 17 := by have := HFW.out; omega
  have H17 := Lib.hid h17
  rw [hpn] at HO4 HCN ⊢
  clear hpn h17
  have HVR : Hid (∀ w' L u, StrsC w' u L → Tab w' → (∀ x ∈ L, x.length ≤ 999) → ∀ r : T, Prf.verify r key L = ([], false, 130) → Calls Tryd.prog 8 #[.string ⟨r.toArray⟩, .string ⟨key.toArray⟩, u] w' fun e w'' => e = .returned (.tuple #[.string ⟨#[]⟩, .bool false, .int .i64 130]) ∧ Below w'.heap.size w' w'') := Lib.hid (fun w' L u h1 h2 h3 r h4 => by
    have h5 := verify_any r key u L w' h1 h2 (fun x hx => by have := h3 x hx; omega)
    rw [h4] at h5
    exact h5)
  go_wp2_with fail
  refine HFE.out.mono ?_
  rintro e w5 ⟨rfl, rfl⟩
  clear HFE
  go_wp2
  go_loopw [46] (fun iv wr => ∃ k : Nat, k ≤ pn ∧ iv = .int .i64 k ∧ Below w5.heap.size w5 wr) (fun i _ => pn - (intOf i).toNat)
  case atStart => exact ⟨0, Nat.zero_le _, rfl, Below.refl _ _⟩
  case round =>
    obtain ⟨k, hk, rfl, hb⟩ := hrel
    have HB := Lib.hid hb
    have HBW : Hid (∀ w', Below wr.heap.size wr w' → Below w.heap.size w w') := Lib.hid (fun w' hb' => bchain (bchain HB4.out hb) hb')
    have h0 : (0 : Int) ≤ (k : Int) := by omega
    have hnb : (k : Int) ≤ 100 := by have := H17.out; omega
    by_cases hlt : k < pn
    · have h1 : (k : Int) < (pn : Int) := by omega
      have hsl := upto_run An pn cn k (by have := HCN.out; omega) HAN.out
      have HRW : Hid (∀ w', Below wr.heap.size wr w' → Calls Tryd.prog 9 #[.pointer (some ⟨g, 0, none⟩)] w' fun e w'' => e = .returned (.string ⟨R.toArray⟩) ∧ Below wr.heap.size wr w'') := Lib.hid (fun w' hb' =>
        (HRT.out w' (HT4.out.below (bchain HB.out hb'))).mono fun e w'' ⟨q1, q2⟩ => ⟨q1, bchain hb' q2⟩)
      have HVK : Hid (∀ w', Below wr.heap.size wr w' → Calls Tryd.prog 8 #[.string ⟨R.toArray⟩, .string ⟨key.toArray⟩, .slice An k cn] w' fun e w'' => e = .returned (.tuple #[.string ⟨#[]⟩, .bool false, .int .i64 130]) ∧ Below wr.heap.size wr w'') := Lib.hid (fun w' hb' =>
        (HVR.out w' (P.take k) _ ((StrsC.of_own (HO4.out.below (bchain HB.out hb'))).take k (by have := HPN.out; omega)) (HT.out.below (HBW.out w' hb')) (fun x hx => HSH.out x (List.mem_of_mem_take hx)) R (Prf.verify_cut HVW.out k (by have := HPN.out; omega))).mono fun e w'' ⟨q1, q2⟩ => ⟨q1, bchain hb' q2⟩)
      have BR : Below wr.heap.size wr wr.drew := (Below.refl _ _).drew
      clear hb
      go_upto_region 10 with fail
      go_region_held3 (fun _ => True)
        ((trivial))
        (first | (go_at_call 9; refine (HRW.out _ ?_).mono ?_; (with_reducible assumption); rintro e wa ⟨rfl, hba⟩) | (go_at_call 8; refine (HVK.out _ ?_).mono ?_; (with_reducible assumption); rintro e wb ⟨rfl, hbb⟩))
      all_goals
        have HB2 := Lib.hid hbb
        clear hba hbb
        go_wp2
        exact ⟨⟨k + 1, by omega, by go_num, bchain HB.out HB2.out⟩, by simp [intOf]; omega⟩
    · obtain rfl : k = pn := by omega
      have h1 : ¬ ((k : Int) < (k : Int)) := by omega
      have HBR := Lib.hid (HBW.out wr (Below.refl _ _))
      have HTR := Lib.hid (HT4.out.below hb)
      have HVV := Lib.hid (HV.out.below HBR.out)
      have HOR := Lib.hid (HO4.out.below hb)
      have HTT := Lib.hid (HT.out.below HBR.out)
      clear hb HBW
      have HEND : Hid (∀ w', Below wr.heap.size wr w' → R ≠ [] → P ≠ [] ∧ Calls Tryd.prog 8 #[.string ⟨otherL.toArray⟩, .string ⟨key.toArray⟩, .slice An k cn] w' (fun e w'' => e = .returned (.tuple #[.string ⟨#[]⟩, .bool false, .int .i64 130]) ∧ Below wr.heap.size wr w'') ∧ Calls Tryd.prog 8 #[.string ⟨#[]⟩, .string ⟨key.toArray⟩, .slice An k cn] w' (fun e w'' => e = .returned (.tuple #[.string ⟨#[]⟩, .bool false, .int .i64 130]) ∧ Below wr.heap.size wr w'')) := Lib.hid (fun w' hb' hr =>
        ⟨HNE.out hr, (HVR.out w' P _ (StrsC.of_own (HOR.out.below hb')) (HTT.out.below hb') HSH.out otherL (Prf.verify_other HK.out (by decide) (by decide))).mono fun e w'' ⟨q1, q2⟩ => ⟨q1, bchain hb' q2⟩, (HVR.out w' P _ (StrsC.of_own (HOR.out.below hb')) (HTT.out.below hb') HSH.out [] (Prf.verify_none HK.out (HNE.out hr))).mono fun e w'' ⟨q1, q2⟩ => ⟨q1, bchain hb' q2⟩⟩)
      unfold otherL at HEND
      by_cases hM : M = []
      · subst hM
        go_wp2_with fail
        refine (HRT.out wr (HTR.out.below (Below.refl _ _))).mono ?_
        rintro e wp ⟨rfl, hbp⟩
        have HP := Lib.hid (bchain (Below.refl _ _) hbp)
        clear hbp
        by_cases hr : R = []
        · subst hr
          obtain rfl : P = [] := HNI.out rfl
          obtain rfl : k = 0 := HPN.out.symm
          go_wp2
          go_ret
          exact ⟨rfl, bchain HBR.out HP.out⟩
        · have r1 : (R == []) = false := beq_eq_false_iff_ne.2 hr
          have r2 : R.isEmpty = false := by cases R <;> simp_all
          have HR0 := Lib.hid hr
          clear hr
          go_wp2_with fail
          refine (HEND.out wp HP.out HR0.out).2.1.mono ?_
          rintro e wy ⟨rfl, hby⟩
          have HY := Lib.hid hby
          clear hby
          go_wp2_with fail
          refine (HEND.out wy HY.out HR0.out).2.2.mono ?_
          rintro e wz ⟨rfl, hbz⟩
          have HZ := Lib.hid (bchain HBR.out hbz)
          clear hbz
          go_wp2
          go_ret
          exact ⟨rfl, HZ.out⟩
      · have hM1 := List.length_pos_iff.2 hM
        have z1 : (0 : Int) < (M.length : Int) := by omega
        have HMM := Lib.hid hM
        have HVM : Hid (∀ w' u, StrsC w' u (P ++ M) → Tab w' → Calls Tryd.prog 8 #[.string ⟨R.toArray⟩, .string ⟨key.toArray⟩, u] w' fun e w'' => e = .returned (.tuple #[.string ⟨#[]⟩, .bool false, .int .i64 130]) ∧ Below w'.heap.size w' w'') := Lib.hid (fun w' u h1 h2 =>
          HVR.out w' (P ++ M) u h1 h2 (fun x hx => by
            rcases List.mem_append.1 hx with hx | hx
            · exact HSH.out x hx
            · have := HFF.out.2 x hx; omega) R (Prf.verify_more HVW.out HMM.out))
        clear hM
        go_wp2_with fail
        refine (HRT.out wr HTR.out).mono ?_
        rintro e wa ⟨rfl, hba⟩
        obtain ⟨v1, wb, v2, wd, hr1, hr2, hs2, hb2⟩ := both_lists (w := wa) (HOR.out.below hba).strs (HVV.out.below hba).strs (by have := HPN.out; have := H17.out; have := HFF.out.1; omega)
        have HA1 := Lib.hid hr1
        have HA2 := Lib.hid hr2
        have HBD := Lib.hid (bchain hba hb2)
        have HVD := Lib.hid (HVM.out wd v2 hs2 (HTT.out.below HBD.out))
        clear hba hr1 hr2 hs2 hb2
        go_wp2_with (first | (at_builtin; refine wpList_append_run rfl _ _ _ rfl (.slice (some ⟨wa.heap.size, 0, none⟩) 0 0) (.slice An k cn) _ (by rfl) (by rfl) HA1.out ?_) | (at_builtin; refine wpList_append_run rfl _ _ _ rfl v1 (.slice A M.length cap) _ (by rfl) (by rfl) HA2.out ?_))
        refine HVD.out.mono ?_
        rintro e wf ⟨rfl, hbf⟩
        have HBF := Lib.hid (bchain HBD.out hbf)
        clear hbf
        go_wp2_with fail
        refine (HRT.out wf (HTR.out.below HBF.out)).mono ?_
        rintro e wp ⟨rfl, hbp⟩
        have HP := Lib.hid (bchain HBF.out hbp)
        clear hbp
        by_cases hr : R = []
        · subst hr
          obtain rfl : P = [] := HNI.out rfl
          obtain rfl : k = 0 := HPN.out.symm
          go_wp2
          go_ret
          exact ⟨rfl, bchain HBR.out HP.out⟩
        · have r1 : (R == []) = false := beq_eq_false_iff_ne.2 hr
          have r2 : R.isEmpty = false := by cases R <;> simp_all
          have HR0 := Lib.hid hr
          clear hr
          go_wp2_with fail
          refine (HEND.out wp HP.out HR0.out).2.1.mono ?_
          rintro e wy ⟨rfl, hby⟩
          have HY := Lib.hid hby
          clear hby
          go_wp2_with fail
          refine (HEND.out wy HY.out HR0.out).2.2.mono ?_
          rintro e wz ⟨rfl, hbz⟩
          have HZ := Lib.hid (bchain HBR.out hbz)
          clear hbz
          go_wp2
          go_ret
          exact ⟨rfl, HZ.out⟩
theorem proofTight_law (lv : Value) (I : St) (key : ByteArray) (v : Value) (M : List T) (w : World) (hi : ItIn w lv I) (_ : I.length * 32 ≤ reachBytes) (_ : key.size ≤ maxLen) (hv : StrsC w v M) (hm : M.length ≤ maxLen) (_ : ∀ s ∈ M, s.length ≤ maxLen) (hT : Tab w) :
    Calls Tryd.prog 4 #[lv, .string key, v] w fun e w' => e = .returned (.bool true) ∧ Below w.heap.size w w' := by
  obtain ⟨k, rfl⟩ := bytes_list key
  exact proofTight_walk lv I k v M w hi hv hm hT
end Go.Proofs.YtjfefphgikncnaaDoor
