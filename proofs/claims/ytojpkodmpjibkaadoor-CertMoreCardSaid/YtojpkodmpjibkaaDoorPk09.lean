/- CertRefCheck, CertRefGather, CertGather, CodeFew -/
import Derived.Test.YtojpkodmpjibkaaDoorPk06
import Derived.Test.YtojpkodmpjibkaaDoorPk08
import Derived.Test.YtojpkodmpjibkaaDoorPk07
import Derived.Laws.ResultCell
import Derived.Test.YtojpkodmpjibkaaDoorPk02
import Derived.WalkSpells
import Derived.WalkLawsBesides
import Derived.Deep.QuietTactic
import Derived.BigQuiet
namespace Go.Proofs.YtojpkodmpjibkaaDoor
open Go.RowKit Go.ChangeShapes Go.WideShapes
open Go.Proofs.YtojpkodmpjibkaaDoor.Ct (C)
open Go.Proofs.YtojpkodmpjibkaaDoor.Pw (M)
open Go.Proofs.YtojpkodmpjibkaaDoor.Ora (Sig)

theorem Ct.names_take (L : List M) (k : Nat) (h : k < L.length) : Ct.names (L.take (k + 1)) = Ct.names (L.take k) ++ [L[k].name] := by
  unfold Ct.names
  rw [List.take_succ_eq_append_getElem h, List.map_append]
  rfl

set_option maxRecDepth 100000 in
set_option maxHeartbeats 1000000 in
theorem rCheckC_any (t : Int) (L : List M) (v : Value) (c : C) (s : Value) (T : List Sig) (l : Value) (w : World) (hv : Mems w v L) (hs : Strs w s c.sig) (hl : Sgs w l T) (hT : Ora.Rising T) (hlt : T.length ≤ 2000) (hls : c.sig.length ≤ 1000000) :
    Calls Tryd.prog 16 #[.int .i64 t, v, .agg #[.string ⟨c.dig.toArray⟩, s], l] w fun e w' => e = .returned (.int .i64 (Ct.checkP t L c T)) ∧ Below w.heap.size w w' := by
  obtain ⟨D, N⟩ := c
  dsimp only at hs hls ⊢
  have HV := Lib.hid hv
  have HS := Lib.hid hs
  have HL := Lib.hid hl
  have HT := Lib.hid hT
  have HLT := Lib.hid hlt
  have HTG := Lib.hid (fun w => rTag_any t w)
  have HCK := Lib.hid (fun w hv => rcheck_any L v w hv)
  have HMY := Lib.hid (fun w hs => rMay_any ⟨D, N⟩ s w hs hls)
  obtain ⟨A, cap, rfl⟩ := hv.form
  obtain ⟨A2, cap2, rfl, -⟩ := hs
  dsimp only at HMY
  have hb0 : Below w.heap.size w (w.alloc (.cells #[.string ⟨D.toArray⟩, .slice A2 N.length cap2] 28)) := (Below.refl _ w).alloc (Nat.le_refl _) _
  obtain ⟨g0, g1, -, -⟩ := cells2 (heap_new_at w (.cells #[.string ⟨D.toArray⟩, .slice A2 N.length cap2] 28) w.heap.size rfl)
  cases ht : Ct.isT t with
  | false =>
    rw [Ct.check1 ht]
    rw [ht] at HTG
    clear hv hl hT hlt hls ht g0 g1
    go_enter Tryd.func16, Tryd.ntmps16
    go_wp2_with fail
    refine (HTG.out _).mono ?_
    rintro e w1 ⟨rfl, rfl⟩
    go_wp2
    go_ret
    exact ⟨rfl, hb0⟩
  | true =>
    rw [ht] at HTG
    have HTT := Lib.hid ht
    obtain ⟨R, hR⟩ : ∃ R, Ct.checkP t L ⟨D, N⟩ T = R := ⟨_, rfl⟩
    have HR := Lib.hid hR
    rw [hR]
    have HB0 := Lib.hid hb0
    clear hv hl hT hlt ht hR g0 g1 hb0
    go_enter Tryd.func16, Tryd.ntmps16
    go_wp2_with fail
    obtain ⟨g0, g1, -, -⟩ := cells2 (heap_new_at w (.cells #[.string ⟨D.toArray⟩, .slice A2 N.length cap2] 28) w.heap.size rfl)
    have hsz := lt_of_heap (heap_new_at w (.cells #[.string ⟨D.toArray⟩, .slice A2 N.length cap2] 28) w.heap.size rfl)
    obtain ⟨p, hp⟩ : ∃ p, w.heap.size = p := ⟨_, rfl⟩
    have HPW := Lib.hid hp
    rw [hp] at g0 g1 hsz ⊢
    generalize (w.alloc (.cells #[.string ⟨D.toArray⟩, .slice A2 N.length cap2] 28)) = w0 at *
    have HG : Hid (∀ w', Below w0.heap.size w0 w' → w'.cell? ⟨p, 0, none⟩ = some (.string ⟨D.toArray⟩) ∧ w'.cell? ⟨p, 1, none⟩ = some (.slice A2 N.length cap2)) := Lib.hid (fun w' h => ⟨(h.cell hsz).trans g0, (h.cell hsz).trans g1⟩)
    have HBW : Hid (∀ w', Below w0.heap.size w0 w' → Below w.heap.size w w') := Lib.hid (fun w' h => HB0.out.trans (h.mono (by rw [hp]; exact Nat.le_of_lt hsz)))
    have HBP : Hid (∀ w', Below w0.heap.size w0 w' → Below p w w') := Lib.hid (fun w' h => by rw [← hp]; exact HBW.out w' h)
    clear g0 g1 hsz hp
    refine (HTG.out _).mono ?_
    rintro e w1 ⟨rfl, hw1⟩
    obtain rfl : w0 = w1 := hw1.symm
    go_wp2_with fail
    refine (HCK.out _ (HV.out.below (HBW.out _ (Below.refl _ _)))).mono ?_
    rintro e w2 ⟨rfl, hb2⟩
    have HB2 := Lib.hid hb2
    obtain ⟨g0, g1⟩ := HG.out _ hb2
    clear hb2
    cases hok : Pw.okL L with
    | false =>
      rw [Pw.checkC_bad hok]
      obtain rfl : R = 50 := by rw [← HR.out]; exact Ct.check50 HTT.out hok
      clear hok
      go_wp2
      go_ret
      exact ⟨rfl, HBW.out _ HB2.out⟩
    | true =>
      rw [Pw.checkC_ok hok]
      have HOK := Lib.hid hok
      have hl7 := (Pw.okL_len hok).2
      clear hok
      go_wp2_with fail
      refine (HMY.out _ (HS.out.below (HBW.out _ HB2.out))).mono ?_
      rintro e w3 ⟨rfl, hb3⟩
      have HB3 := Lib.hid (HB2.out.trans (hb3.mono HB2.out.size))
      clear hb3 g0 g1
      cases hmy : Ct.may ⟨D, N⟩ with
      | false =>
        obtain rfl : R = 3 := by rw [← HR.out]; exact Ct.check3 HTT.out HOK.out hmy
        clear hmy
        go_wp2
        go_ret
        exact ⟨rfl, HBW.out _ HB3.out⟩
      | true =>
        have HMM := Lib.hid hmy
        have hN7 := (Ct.may_len hmy).2.1
        have hD32 := (Ct.may_len hmy).1
        clear hmy
        obtain ⟨i0, hi, hz0, hz1, hz2⟩ := info_parts Tryd.infoStr
        go_wp2
        go_loopw [9, 10] (fun sl i wr => ∃ (k : Nat) (z : Value), z = sl ∧ k ≤ L.length ∧ i = .int .i64 k ∧ Own wr w0.heap.size z (Ct.names (L.take k)) ∧ Below w0.heap.size w0 wr) (fun _ i _ => L.length - (intOf i).toNat)
        case atStart => exact ⟨0, _, rfl, Nat.zero_le _, rfl, Own.nil _ _, HB3.out⟩
        case round =>
          obtain ⟨k, z, rfl, hk, rfl, hown, hb⟩ := hrel
          have HBk := Lib.hid hb
          have HOW := Lib.hid hown
          by_cases hlt : k < L.length
          · have h1 : (k : Int) < (L.length : Int) := by omega
            have h0 : (0 : Int) ≤ (k : Int) := by omega
            have h2 : (k : Int) ≤ 7 := by omega
            obtain ⟨b, o, rfl, c0, -⟩ := HV.out.at (HBW.out _ hb) k hlt
            have HST := Lib.hid (Ct.names_take L k hlt)
            obtain ⟨⟨x, q⟩, hm⟩ : ∃ m, L[k] = m := ⟨_, rfl⟩
            rw [hm] at c0 HST
            dsimp only at c0 HST
            have hln : (Ct.names (L.take k)).length ≤ 7 := by simp [Ct.names]; omega
            obtain ⟨O, hO⟩ : ∃ O, Ct.names (L.take k) = O := ⟨_, rfl⟩
            rw [hO] at HOW HST hln
            have HSZ : Hid (w0.heap.size ≤ wr.heap.size) := Lib.hid hb.size
            have HLN := Lib.hid hln
            clear hm hO hown hln
            go_wp2_with (at_builtin; refine wpList_append_lies _ rfl _ _ _ rfl w0.heap.size 9 i0 (.string ⟨#[]⟩) 1 16 Tryd.underlying26 hi hz0 hz1 hz2 rfl (by decide) z O.length (scells O) (by rfl) (World.ownsRow.alloc HOW.out _) ⟨wr.heap.size, 0, none⟩ 1 1 (scells [x]) (by rfl) rfl (World.news_of_block (heap_new_at _ _ _ rfl)) (by simp [scells, Value.oneCell']) (by decide) (by have := HLN.out; unfold maxLen; omega) (by have := HLN.out; omega) (by have := HSZ.out; simp; omega) (wr.heap.size + 1) (by simp) ?_; intro g' cap' w5 hown5 hgrow5 hat5 hlt5)
            have hB5 : Below w0.heap.size w0 w5 := HBk.out.trans (((Out.of ((Below.refl _ wr).alloc (Nat.le_refl _) _)).trans (Out.grown hgrow5 (F := fun j => z.ownBlock = some j) (fun j e => e))).below (fun j hj => (HOW.out.lt j hj).1) HSZ.out)
            refine ⟨⟨k + 1, _, rfl, by omega, by go_num, ?_, hB5⟩, by simp [intOf]; omega⟩
            rw [HST.out]
            unfold Own
            rw [scells_append, List.length_append]
            exact hown5
          · have h1 : ¬ ((k : Int) < (L.length : Int)) := by omega
            obtain rfl : k = L.length := by omega
            rw [List.take_length] at HOW
            clear hown hb HB3
            go_wp2
            obtain ⟨wo, rfl⟩ : ∃ wo, wo = wr := ⟨wr, rfl⟩
            have HNS := Lib.hid HOW.out.strs
            have hnl : (Ct.names L).length ≤ 1000000 := by simp [Ct.names]; omega
            have HHAS := Lib.hid (fun x => rhas_any (Ct.names L) z x wo HOW.out.strs hnl)
            have HSO := Lib.hid (HS.out.below (HBW.out _ HBk.out))
            obtain ⟨g0, g1⟩ := HG.out _ HBk.out
            clear hnl h1 hk hlt
            go_loopw [11] (fun i wr => ∃ k : Nat, k ≤ N.length ∧ i = .int .i64 k ∧ Hid (∀ s ∈ N.take k, s ∈ Ct.names L) ∧ wr = wo) (fun i _ => N.length - (intOf i).toNat)
            case atStart => exact ⟨0, Nat.zero_le _, rfl, Lib.hid (fun s hs => by simp at hs), rfl⟩
            case round =>
              obtain ⟨k, hk, rfl, HK, rfl⟩ := hrel
              by_cases hlt : k < N.length
              · have h1 : (k : Int) < (N.length : Int) := by omega
                have h0 : (0 : Int) ≤ (k : Int) := by omega
                have h2 : (k : Int) ≤ 7 := by omega
                obtain ⟨A3, cap3, hv3, hc3⟩ := HSO.out
                obtain ⟨rfl, rfl⟩ : A2 = A3 ∧ cap2 = cap3 := by simpa using hv3
                obtain ⟨q, rfl, n0⟩ := hc3 k hlt
                have HMEM := Lib.hid (List.getElem_mem hlt)
                have HTK := Lib.hid (List.take_succ_eq_append_getElem hlt)
                obtain ⟨x, hx⟩ : ∃ x, N[k] = x := ⟨_, rfl⟩
                rw [hx] at n0 HMEM HTK
                clear hx hv3 hc3
                by_cases hin : x ∈ Ct.names L
                · have HH := HHAS.out x
                  rw [decide_eq_true hin] at HH
                  have HH' := Lib.hid HH
                  have HK' : Hid (∀ s ∈ N.take (k + 1), s ∈ Ct.names L) := Lib.hid (fun s hs => by
                    rw [HTK.out] at hs
                    rcases List.mem_append.1 hs with hs | hs
                    · exact HK.out s hs
                    · obtain rfl : s = x := by simpa using hs
                      exact hin)
                  clear hin HH
                  go_wp2_with fail
                  refine HH'.out.mono ?_
                  rintro e w6 ⟨rfl, hw6⟩
                  obtain rfl : wr = w6 := hw6.symm
                  go_wp2
                  exact ⟨⟨k + 1, by omega, by go_num, HK', trivial⟩, by simp [intOf]; omega⟩
                · have HH := HHAS.out x
                  rw [decide_eq_false hin] at HH
                  have HH' := Lib.hid HH
                  obtain rfl : R = 5 := by rw [← HR.out]; exact Ct.check5 HTT.out HOK.out HMM.out HMEM.out hin
                  clear hin HH
                  go_wp2_with fail
                  refine HH'.out.mono ?_
                  rintro e w6 ⟨rfl, hw6⟩
                  obtain rfl : wr = w6 := hw6.symm
                  go_wp2
                  go_ret
                  exact ⟨rfl, HBW.out _ HBk.out⟩
              · have h1 : ¬ ((k : Int) < (N.length : Int)) := by omega
                obtain rfl : k = N.length := by omega
                have HALL : Hid (∀ s ∈ N, s ∈ Ct.names L) := Lib.hid (by have := HK.out; rwa [List.take_length] at this)
                have HMK := Lib.hid (rMark_any t D wr)
                have hmc : Ct.markC t D = 0 := by simp [Ct.markC, HTT.out, hD32]
                have hmr : Ct.markR t D = Ct.markP t D := by simp [Ct.markR, hmc]
                rw [hmc, hmr] at HMK
                clear hmc hmr hk hlt HK
                go_wp2_with fail
                refine HMK.out.mono ?_
                rintro e w6 ⟨rfl, hb6⟩
                have HB6 := Lib.hid (HBk.out.trans (hb6.mono HBk.out.size))
                obtain ⟨m, hm⟩ : ∃ m, Ct.markP t D = m := ⟨_, rfl⟩
                have HM := Lib.hid hm
                rw [hm]
                have HSG := Lib.hid (fun x => rSigned_any T l (x, m) w6 (HL.out.below (HBW.out _ HB6.out)) HT.out (by have := HLT.out; omega))
                have HSO6 := Lib.hid (HS.out.below (HBW.out _ HB6.out))
                obtain ⟨g0, g1⟩ := HG.out _ HB6.out
                clear hb6 hm
                go_wp2
                go_loopw [14] (fun i wr => ∃ k : Nat, k ≤ N.length ∧ i = .int .i64 k ∧ Hid (∀ s ∈ N.take k, Ct.signedBy t D T s = true) ∧ wr = w6) (fun i _ => N.length - (intOf i).toNat)
                case atStart => exact ⟨0, Nat.zero_le _, rfl, Lib.hid (fun s hs => by simp at hs), rfl⟩
                case round =>
                  obtain ⟨k, hk, rfl, HK, rfl⟩ := hrel
                  by_cases hlt : k < N.length
                  · have h1 : (k : Int) < (N.length : Int) := by omega
                    have h0 : (0 : Int) ≤ (k : Int) := by omega
                    have h2 : (k : Int) ≤ 7 := by omega
                    obtain ⟨A3, cap3, hv3, hc3⟩ := HSO6.out
                    obtain ⟨rfl, rfl⟩ : A2 = A3 ∧ cap2 = cap3 := by simpa using hv3
                    obtain ⟨q, rfl, n0⟩ := hc3 k hlt
                    have HMEM := Lib.hid (List.getElem_mem hlt)
                    have HTK := Lib.hid (List.take_succ_eq_append_getElem hlt)
                    obtain ⟨x, hx⟩ : ∃ x, N[k] = x := ⟨_, rfl⟩
                    rw [hx] at n0 HMEM HTK
                    clear hx hv3 hc3
                    have HH := HSG.out x
                    have hsb : Ct.signedBy t D T x = (Ora.look T (x, m)).isSome := by unfold Ct.signedBy; rw [HM.out]
                    obtain ⟨b, hb⟩ : ∃ b, (Ora.look T (x, m)).isSome = b := ⟨_, rfl⟩
                    rw [hb] at hsb HH
                    have HSB := Lib.hid hsb
                    have HH' := Lib.hid HH
                    clear HH hsb hb
                    cases b with
                    | true =>
                      have HK' : Hid (∀ s ∈ N.take (k + 1), Ct.signedBy t D T s = true) := Lib.hid (fun s hs => by
                        rw [HTK.out] at hs
                        rcases List.mem_append.1 hs with hs | hs
                        · exact HK.out s hs
                        · obtain rfl : s = x := by simpa using hs
                          exact HSB.out)
                      go_wp2_with fail
                      refine HH'.out.mono ?_
                      rintro e w7 ⟨rfl, hw7⟩
                      obtain rfl : wr = w7 := hw7.symm
                      go_wp2
                      exact ⟨⟨k + 1, by omega, by go_num, HK', trivial⟩, by simp [intOf]; omega⟩
                    | false =>
                      obtain rfl : R = 70 := by rw [← HR.out]; exact Ct.check70 HTT.out HOK.out HMM.out HALL.out HMEM.out HSB.out
                      go_wp2_with fail
                      refine HH'.out.mono ?_
                      rintro e w7 ⟨rfl, hw7⟩
                      obtain rfl : wr = w7 := hw7.symm
                      go_wp2
                      go_ret
                      exact ⟨rfl, HBW.out _ HB6.out⟩
                  · have h1 : ¬ ((k : Int) < (N.length : Int)) := by omega
                    obtain rfl : k = N.length := by omega
                    have HALS : Hid (∀ s ∈ N, Ct.signedBy t D T s = true) := Lib.hid (by have := HK.out; rwa [List.take_length] at this)
                    have HRV := Lib.hid (Ct.check71 HTT.out HOK.out HMM.out HALL.out HALS.out)
                    rw [HR.out] at HRV
                    have HOF := Lib.hid (rof_any L (.slice A L.length cap) N (.slice A2 N.length cap2) wr (HV.out.below (HBW.out _ HB6.out)) HSO6.out (by omega))
                    have HTO := Lib.hid (fun w hv => rtotal_any L (.slice A L.length cap) w hv)
                    have hof := Pw.pick_le_tot HOK.out N
                    have htr := (Pw.tot_range L).1
                    obtain ⟨a, ha⟩ : ∃ a, Pw.ofL L N = a := ⟨_, rfl⟩
                    obtain ⟨b, hb⟩ : ∃ b, Pw.tot L = b := ⟨_, rfl⟩
                    dsimp only at HRV
                    rw [ha, hb] at HRV
                    rw [ha] at HOF hof
                    rw [hb] at HTO hof htr
                    have ha7 : (a : Int) ≤ 7000 := by omega
                    have hb7 : (b : Int) ≤ 7000 := by omega
                    have ha0 : (0 : Int) ≤ (a : Int) := by omega
                    have hb0 : (0 : Int) ≤ (b : Int) := by omega
                    clear hk hlt HK ha hb hof htr
                    go_wp2_with fail
                    refine HOF.out.mono ?_
                    rintro e w7 ⟨rfl, hb7'⟩
                    have HB7 := Lib.hid (HB6.out.trans (hb7'.mono HB6.out.size))
                    clear hb7'
                    go_wp2_with fail
                    refine (HTO.out _ (HV.out.below (HBW.out _ HB7.out))).mono ?_
                    rintro e w8 ⟨rfl, hb8⟩
                    have HB8 := Lib.hid (HB7.out.trans (hb8.mono HB7.out.size))
                    clear hb8
                    by_cases hq : 3 * a ≤ 2 * b
                    · obtain rfl : R = 71 := by rw [HRV.out, if_pos hq]
                      have hq' : (3 : Int) * (a : Int) ≤ 2 * (b : Int) := by omega
                      clear hq
                      go_wp2
                      go_ret
                      exact ⟨rfl, HBW.out _ HB8.out⟩
                    · obtain rfl : R = 0 := by rw [HRV.out, if_neg hq]
                      have hq' : (2 : Int) * (b : Int) < 3 * (a : Int) := by omega
                      have hq2 : decide ((3 : Int) * (a : Int) ≤ 2 * (b : Int)) = false := by simpa using hq'
                      clear hq
                      go_wp2
                      go_ret
                      exact ⟨rfl, HBW.out _ HB8.out⟩
end Go.Proofs.YtojpkodmpjibkaaDoor
namespace Go.Proofs.YtojpkodmpjibkaaDoor
open Go.RowKit Go.ChangeShapes Go.WideShapes
open Go.Proofs.YtojpkodmpjibkaaDoor.Ct (C)
open Go.Proofs.YtojpkodmpjibkaaDoor.Pw (M)
open Go.Proofs.YtojpkodmpjibkaaDoor.Ora (Sig)

theorem results_c1t {P : Program} {fn : Func} {p u : Tmp} {ty : TypeId} (h : fn.results = #[.cell p ty, .tmp u]) (tmps : Array Value) (w : World) (g : Nat) (t : TypeId) (cs : Array Value) (fr : Nat × Nat) (d : TypeDesc)
    (hp : tmps.getD p undef = .pointer (some ⟨g, 0, none⟩)) (hg : w.heap[g]? = some (.cells cs t fr))
    (hu : P.underlying ty = some d) (hd : (match d with | .struct _ | .array _ _ => true | _ => false) = true) (hi : (P.info? ty).map (·.size) = some cs.size) :
    (results fn tmps).run P w = .ok (.tuple #[.agg cs, tmps.getD u undef]) w := by
  have hp' : tmps[p]?.getD undef = .pointer (some ⟨g, 0, none⟩) := by simpa using hp
  simp [results, h, hp', asAddr, run_loadVar_row w g t ty cs fr d hg hu hd hi]
theorem Ct.gather1 {t : Int} {L : List M} {d : List UInt8} {T : List Sig} (h : Ct.isT t = false) : Ct.gatherP t L d T = (⟨[], []⟩, 1) := if_pos h
theorem Ct.gather50 {t : Int} {L : List M} {d : List UInt8} {T : List Sig} (h : Ct.isT t = true) (h2 : Pw.okL L = false) : Ct.gatherP t L d T = (⟨[], []⟩, 50) := by
  unfold Ct.gatherP
  rw [if_neg (by simp [h]), if_pos h2]
theorem Ct.gather3 {t : Int} {L : List M} {d : List UInt8} {T : List Sig} (h : Ct.isT t = true) (h2 : Pw.okL L = true) (h3 : d.length ≠ 32) : Ct.gatherP t L d T = (⟨[], []⟩, 3) := by
  unfold Ct.gatherP
  rw [if_neg (by simp [h]), if_neg (by simp [h2]), if_pos h3]
theorem Ct.gather_ok {t : Int} {L : List M} {d : List UInt8} {T : List Sig} (h : Ct.isT t = true) (h2 : Pw.okL L = true) (h3 : d.length = 32) :
    Ct.gatherP t L d T = if Ct.checkP t L ⟨d, Ct.gatherS t L d T⟩ T = 0 then (⟨d, Ct.gatherS t L d T⟩, 0) else (⟨[], []⟩, 71) := by
  have h4 : ∀ s ∈ Ct.gatherS t L d T, s ∈ Ct.names L := fun s hs => (List.mem_filter.1 hs).1
  have h5 : ∀ s ∈ Ct.gatherS t L d T, Ct.signedBy t d T s = true := fun s hs => (List.mem_filter.1 hs).2
  rw [Ct.check71 h h2 (Ct.gather_may h2 h3) h4 h5]
  unfold Ct.gatherP
  rw [if_neg (by simp [h]), if_neg (by simp [h2]), if_neg (by simp [h3])]
  dsimp only
  split
  · simp
  · simp
theorem Ct.gather_take (t : Int) (L : List M) (d : List UInt8) (T : List Sig) (k : Nat) (hk : k < L.length) : Ct.gatherS t (L.take (k + 1)) d T = if Ct.signedBy t d T L[k].name then Ct.gatherS t (L.take k) d T ++ [L[k].name] else Ct.gatherS t (L.take k) d T := by
  unfold Ct.gatherS
  rw [Ct.names_take L k hk, List.filter_append]
  cases h : Ct.signedBy t d T L[k].name <;> simp [h]
theorem Ct.gather_len (t : Int) (L : List M) (d : List UInt8) (T : List Sig) : (Ct.gatherS t L d T).length ≤ L.length := by
  have h2 := List.length_filter_le (fun s => Ct.signedBy t d T s) (Ct.names L)
  simpa [Ct.gatherS, Ct.names] using h2

theorem Own.out {w w' : World} {B : Nat} {s : Value} {L : List (List UInt8)} (h : Own w B s L) (ho : Out (fun j => j < B) w w') : Own w' B s L := by
  refine ⟨h.1, ?_⟩
  rcases h.2 with hn | ⟨k, cap, cur, hv, hb, hk, hr⟩
  · exact Or.inl hn
  · exact Or.inr ⟨k, cap, cur, hv, hb, ho.heap hk (fun (h : k < B) => by omega), hr⟩
theorem set21 {w : World} {g : Nat} {a b : Value} {T : TypeId} (y : Value) (h : w.heap[g]? = some (.cells #[a, b] T (0, 0))) :
    (w.setCell ⟨g, 1, none⟩ y).heap[g]? = some (.cells #[a, y] T (0, 0)) := by
  have h3 := heap_setCell_same _ _ 1 _ _ y h
  simpa using h3
/-- The field takes one more: the world after the append and the store. -/
theorem gath_step {w3 wr w5 : World} {g : Nat} {D : List UInt8} {z z' : Value} {T : TypeId} {O N : List (List UInt8)} {o : Obj} (hrow : wr.heap[g]? = some (.cells #[.string ⟨D.toArray⟩, z] T (0, 0))) (hown : Own wr (g + 1) z O) (hb : Below g w3 wr)
    (hg5 : (wr.alloc o).drew.grownBy w5 z.ownBlock) (ho5 : Own w5 (g + 1) z' N) :
    w5.heap[g]? = some (.cells #[.string ⟨D.toArray⟩, z] T (0, 0)) ∧ (w5.setCell ⟨g, 1, none⟩ z').heap[g]? = some (.cells #[.string ⟨D.toArray⟩, z'] T (0, 0)) ∧ Own (w5.setCell ⟨g, 1, none⟩ z') (g + 1) z' N ∧ Below g w3 (w5.setCell ⟨g, 1, none⟩ z') := by
  have h1 : w5.heap[g]? = some (.cells #[.string ⟨D.toArray⟩, z] T (0, 0)) := (Out.grown (F := fun j => z.ownBlock = some j) hg5 (fun j e => e)).heap (heap_old_at o hrow) (fun e => absurd (hown.lt g e).1 (by omega))
  refine ⟨h1, set21 z' h1, ho5.out ((Out.refl _ w5).setCell (p := ⟨g, 1, none⟩) (Nat.lt_succ_self g) z'), hb.trans ?_⟩
  have h2 : Out (fun j => g ≤ j) wr w5 := (((Out.refl _ wr).alloc o).drew).trans (Out.grown hg5 (fun j e => Nat.le_of_succ_le (hown.lt j e).1))
  exact (h2.setCell (p := ⟨g, 1, none⟩) (Nat.le_refl g) z').below (fun k hk => hk) (Nat.le_of_lt (lt_of_heap hrow))

/-- What Gather tells: the certificate, the code. -/
def GathPost (t : Int) (L : List M) (d : List UInt8) (T : List Sig) (w : World) (e : Ending) (w' : World) : Prop :=
  ∃ z, e = .returned (.tuple #[.agg #[.string ⟨(Ct.gatherP t L d T).1.dig.toArray⟩, z], .int .i64 (Ct.gatherP t L d T).2]) ∧ Strs w' z (Ct.gatherP t L d T).1.sig ∧ Below w.heap.size w w'

set_option maxRecDepth 100000 in
set_option maxHeartbeats 4000000 in
theorem rGather_any (t : Int) (L : List M) (v : Value) (D : List UInt8) (T : List Sig) (l : Value) (w : World) (hv : Mems w v L) (hl : Sgs w l T) (hT : Ora.Rising T) (hlt : T.length ≤ 2000) :
    Calls Tryd.prog 18 #[.int .i64 t, v, .string ⟨D.toArray⟩, l] w (GathPost t L D T w) := by
  unfold GathPost
  have HV := Lib.hid hv
  have HL := Lib.hid hl
  have HT := Lib.hid hT
  have HLT := Lib.hid hlt
  have HTG := Lib.hid (fun w => rTag_any t w)
  have HCK := Lib.hid (fun w hv => rcheck_any L v w hv)
  have HCC := Lib.hid (fun N s w hv hs hl hls => rCheckC_any t L v ⟨D, N⟩ s T l w hv hs hl hT hlt hls)
  obtain ⟨A, cap, rfl⟩ := hv.form
  obtain ⟨G, hG⟩ : ∃ G, Ct.gatherP t L D T = G := ⟨_, rfl⟩
  have HGG := Lib.hid hG
  rw [hG]
  clear hG
  have hb0 : Below w.heap.size w (w.alloc (.cells #[.string ⟨#[]⟩, .slice none 0 0] 28)) := (Below.refl _ w).alloc (Nat.le_refl _) _
  have HB0 := Lib.hid hb0
  cases ht : Ct.isT t with
  | false =>
    obtain rfl : G = (⟨[], []⟩, 1) := HGG.out.symm.trans (Ct.gather1 ht)
    rw [ht] at HTG
    clear hv hl hT hlt ht hb0
    go_enter Tryd.func18, Tryd.ntmps18
    go_wp2_with fail
    refine (HTG.out _).mono ?_
    rintro e w1 ⟨rfl, rfl⟩
    go_wp2
    refine bodyPost_ret (results_c1t rfl _ _ w.heap.size _ _ (0, 0) _ rfl (heap_new_at w _ _ rfl) Tryd.underlying28 rfl (by kernel_rfl)) rfl ⟨_, rfl, (Own.nil _ 0).strs, HB0.out⟩
  | true =>
    rw [ht] at HTG
    have HTT := Lib.hid ht
    clear hv hl hT hlt ht hb0
    go_enter Tryd.func18, Tryd.ntmps18
    go_wp2_with fail
    have HROW := Lib.hid (heap_new_at w (.cells #[.string ⟨#[]⟩, .slice none 0 0] 28) w.heap.size rfl)
    have hsz := lt_of_heap HROW.out
    obtain ⟨p, hp⟩ : ∃ p, w.heap.size = p := ⟨_, rfl⟩
    have HPW := Lib.hid hp
    rw [hp] at hsz HROW HB0 ⊢
    have HSZ := Lib.hid hsz
    generalize (w.alloc (.cells #[.string ⟨#[]⟩, .slice none 0 0] 28)) = w0 at *
    have HBW : Hid (∀ w', Below w0.heap.size w0 w' → Below w.heap.size w w') := Lib.hid (fun w' h => by rw [hp]; exact HB0.out.trans (h.mono (Nat.le_of_lt hsz)))
    have HBP : Hid (∀ w' x y, Below w0.heap.size w0 w' → Below w.heap.size w ((w'.setCell ⟨p, 0, none⟩ x).setCell ⟨p, 1, none⟩ y)) := Lib.hid (fun w' x y h => by rw [hp]; exact HB0.out.trans ((((Out.of (F := fun k => k = p) h).setCell (p := ⟨p, 0, none⟩) rfl x).setCell (p := ⟨p, 1, none⟩) rfl y).below (fun k hk => Nat.le_of_eq hk.symm) (Nat.le_of_lt hsz)))
    clear hsz hp
    refine (HTG.out _).mono ?_
    rintro e w1 ⟨rfl, hw1⟩
    obtain rfl : w0 = w1 := hw1.symm
    go_wp2_with fail
    refine (HCK.out _ (HV.out.below (HBW.out _ (Below.refl _ _)))).mono ?_
    rintro e w2 ⟨rfl, hb2⟩
    have HB2 := Lib.hid hb2
    have HROW2 := Lib.hid ((hb2.block p HSZ.out).trans HROW.out)
    clear hb2
    cases hok : Pw.okL L with
    | false =>
      rw [Pw.checkC_bad hok]
      obtain rfl : G = (⟨[], []⟩, 50) := HGG.out.symm.trans (Ct.gather50 HTT.out hok)
      clear hok
      obtain ⟨c0, c1, f0, f1⟩ := cells2 HROW2.out
      go_wp2
      refine bodyPost_ret (results_c1t rfl _ _ p _ _ (0, 0) _ rfl (set2 _ _ HROW2.out) Tryd.underlying28 rfl (by kernel_rfl)) rfl ⟨_, rfl, (Own.nil _ 0).strs, HBP.out _ _ _ HB2.out⟩
    | true =>
      rw [Pw.checkC_ok hok]
      have HOK := Lib.hid hok
      have hl7 := (Pw.okL_len hok).2
      clear hok
      by_cases hd : D.length = 32
      · have HMK := Lib.hid (rMark_any t D w2)
        have hmc : Ct.markC t D = 0 := by simp [Ct.markC, HTT.out, hd]
        have hmr : Ct.markR t D = Ct.markP t D := by simp [Ct.markR, hmc]
        rw [hmc, hmr] at HMK
        have hdi : (D.length : Int) = 32 := by omega
        have HGC := Lib.hid (HGG.out.symm.trans (Ct.gather_ok (T := T) HTT.out HOK.out hd))
        obtain ⟨m, hm⟩ : ∃ m, Ct.markP t D = m := ⟨_, rfl⟩
        have HM := Lib.hid hm
        rw [hm] at HMK
        obtain ⟨i0, hi, hz0, hz1, hz2⟩ := info_parts Tryd.infoStr
        clear hmc hmr hm
        go_wp2_with fail
        refine HMK.out.mono ?_
        rintro e w3 ⟨rfl, hb3⟩
        have HB3 := Lib.hid (HB2.out.trans (hb3.mono HB2.out.size))
        clear hb3
        go_wp2
        have HG0 := Lib.hid (heap_new_at w3 (.cells #[.string ⟨D.toArray⟩, .slice none 0 0] 28) w3.heap.size rfl)
        have HW4 : Hid (Below w3.heap.size w3 (w3.alloc (.cells #[.string ⟨D.toArray⟩, .slice none 0 0] 28))) := Lib.hid ((Below.refl _ w3).alloc (Nat.le_refl _) _)
        obtain ⟨g, hg⟩ : ∃ g, w3.heap.size = g := ⟨_, rfl⟩
        have HGW := Lib.hid hg
        rw [hg] at HG0 HW4 ⊢
        generalize (w3.alloc (.cells #[.string ⟨D.toArray⟩, .slice none 0 0] 28)) = w4 at *
        have HBG : Hid (∀ w', Below g w3 w' → Below w0.heap.size w0 w') := Lib.hid (fun w' h => HB3.out.trans (h.mono (by rw [← hg]; exact HB3.out.size)))
        clear hg
        go_loopw [13] (fun i wr => ∃ (k : Nat) (z : Value), k ≤ L.length ∧ i = .int .i64 k ∧ wr.heap[g]? = some (.cells #[.string ⟨D.toArray⟩, z] 28 (0, 0)) ∧ Own wr (g + 1) z (Ct.gatherS t (L.take k) D T) ∧ Below g w3 wr) (fun i _ => L.length - (intOf i).toNat)
        case atStart => exact ⟨0, _, Nat.zero_le _, rfl, HG0.out, Own.nil _ _, HW4.out⟩
        case round =>
          obtain ⟨k, z, hk, rfl, hrow, hown, hb⟩ := hrel
          have HBk := Lib.hid hb
          have HOW := Lib.hid hown
          have HRW := Lib.hid hrow
          by_cases hlt : k < L.length
          · have h1 : (k : Int) < (L.length : Int) := by omega
            have h0 : (0 : Int) ≤ (k : Int) := by omega
            have h2 : (k : Int) ≤ 7 := by omega
            obtain ⟨b, o, rfl, c0, -⟩ := HV.out.at (HBW.out _ (HBG.out _ hb)) k hlt
            have HST := Lib.hid (Ct.gather_take t L D T k hlt)
            have hln : (Ct.gatherS t (L.take k) D T).length ≤ 7 := by
              have := Ct.gather_len t (L.take k) D T
              simp at this
              omega
            have HSG := Lib.hid (fun x => rSigned_any T l (x, m) wr (HL.out.below (HBW.out _ (HBG.out _ hb))) HT.out (by have := HLT.out; omega))
            obtain ⟨⟨x, q⟩, hm⟩ : ∃ m, L[k] = m := ⟨_, rfl⟩
            rw [hm] at c0 HST
            dsimp only at c0 HST
            have HH := HSG.out x
            have hsb : Ct.signedBy t D T x = (Ora.look T (x, m)).isSome := by unfold Ct.signedBy; rw [HM.out]
            obtain ⟨bb, hbb⟩ : ∃ b, (Ora.look T (x, m)).isSome = b := ⟨_, rfl⟩
            rw [hbb] at hsb HH
            rw [hsb] at HST
            have HH' := Lib.hid HH
            obtain ⟨O, hO⟩ : ∃ O, Ct.gatherS t (L.take k) D T = O := ⟨_, rfl⟩
            rw [hO] at HOW HST hln
            have HSZr : Hid (g + 1 ≤ wr.heap.size) := Lib.hid (lt_of_heap hrow)
            have HLN := Lib.hid hln
            obtain ⟨g0, g1, e0, e1⟩ := cells2 hrow
            clear hm hO hown hln HH hsb hbb hb hrow
            cases bb with
            | true =>
              rw [if_pos rfl] at HST
              go_wp2_with fail
              refine HH'.out.mono ?_
              rintro e w7 ⟨rfl, hw7⟩
              obtain rfl : wr = w7 := hw7.symm
              go_wp2_with fail
              have HST5 : Hid (∀ w5 z', (wr.alloc (.cells #[.string ⟨x.toArray⟩] 9)).drew.grownBy w5 z.ownBlock → Own w5 (g + 1) z' (O ++ [x]) → _) := Lib.hid (fun w5 z' h5 o5 => gath_step (z' := z') HRW.out HOW.out HBk.out h5 o5)
              obtain ⟨a0, a1, -, -⟩ := cells2 (heap_old_at (.cells #[.string ⟨x.toArray⟩] 9) HRW.out)
              have cA := (Out.alloc (Out.refl (fun _ => False) wr) (.cells #[.string ⟨x.toArray⟩] 9)).cell c0 (fun h => h)
              go_region_law ((refine step_append_lies _ rfl (.tmp 49) (.tmp 55) 26 rfl (g + 1) 9 i0 (.string ⟨#[]⟩) 1 16 Tryd.underlying26 hi hz0 hz1 hz2 rfl (by decide) z O.length (scells O) (by simp [Act.eval]) ((World.ownsRow.alloc HOW.out _).drew) ⟨wr.heap.size, 0, none⟩ 1 1 (scells [x]) (by simp [Act.eval]) rfl (World.news_of_block (heap_new_at _ _ _ (by simp))) (by simp [scells, Value.oneCell']) (by decide) (by have := HLN.out; unfold maxLen; omega) (by have := HLN.out; omega) (by have := HSZr.out; simp; omega) (wr.heap.size + 1) (by simp) ?_; intro g' cap' w5 hown5 hgrow5 hat5 hlt5); (have hS5 := HST5.out w5 _ hgrow5 (by unfold Own; rw [scells_append, List.length_append]; exact hown5)); (have HS5 := Lib.hid hS5); obtain ⟨-, k1, -, kf⟩ := cells2 hS5.1)
              all_goals
                clear hown5 hgrow5 hat5 hlt5 hS5
                go_wp2
                refine ⟨⟨k + 1, _, by omega, by go_num, HS5.out.2.1, by rw [HST.out]; exact HS5.out.2.2.1, HS5.out.2.2.2⟩, by simp [intOf]; omega⟩
            | false =>
              rw [if_neg (by simp)] at HST
              go_wp2_with fail
              refine HH'.out.mono ?_
              rintro e w7 ⟨rfl, hw7⟩
              obtain rfl : wr = w7 := hw7.symm
              go_wp2
              refine ⟨⟨k + 1, z, by omega, by go_num, HRW.out, by rw [HST.out]; exact HOW.out, HBk.out⟩, by simp [intOf]; omega⟩
          · have h1 : ¬ ((k : Int) < (L.length : Int)) := by omega
            obtain rfl : k = L.length := by omega
            obtain ⟨g0, g1, e0, e1⟩ := cells2 hrow
            rw [List.take_length] at hown
            have HOW := Lib.hid hown
            have HGP : Hid (p < g + 1) := Lib.hid (by have h1 := HSZ.out; have h2 := (HBG.out _ (Below.refl _ w3)).size; have h3 := HGW.out; omega)
            have HBk := Lib.hid (HBG.out _ hb)
            have HRW := Lib.hid hrow
            have HRP := Lib.hid ((HBk.out.block p HSZ.out).trans HROW.out)
            have hNl : (Ct.gatherS t L D T).length ≤ 1000000 := by
              have := Ct.gather_len t L D T
              omega
            obtain ⟨N, hN⟩ : ∃ N, Ct.gatherS t L D T = N := ⟨_, rfl⟩
            rw [hN] at HOW HGC hNl
            obtain ⟨Az, cz, rfl⟩ := own_form HOW.out
            have HCL := Lib.hid (fun w' (h : Below w0.heap.size w0 w') (hs : Strs w' (.slice Az N.length cz) N) => HCC.out N (.slice Az N.length cz) w' (HV.out.below (HBW.out _ h)) hs (HL.out.below (HBW.out _ h)) hNl)
            obtain ⟨R, hR⟩ : ∃ R, Ct.checkP t L ⟨D, N⟩ T = R := ⟨_, rfl⟩
            have hR2 : R = 0 ∨ R = 71 := by
              rw [← hR, ← hN, Ct.gather_check HTT.out HOK.out hd]
              split
              · exact Or.inr rfl
              · exact Or.inl rfl
            rw [hR] at HCL HGC
            have HR8 : Hid (∀ w8, Below wr.heap.size wr w8 → w8.heap[g]? = some (.cells #[.string ⟨D.toArray⟩, .slice Az N.length cz] 28 (0, 0)) ∧ w8.heap[p]? = some (.cells #[.string ⟨#[]⟩, .slice none 0 0] 28 (0, 0))) := Lib.hid (fun w8 h => ⟨(h.block g (lt_of_heap HRW.out)).trans HRW.out, (h.block p (lt_of_heap HRP.out)).trans HRP.out⟩)
            have HF8 : Hid (∀ w8 x y, Below wr.heap.size wr w8 → Strs ((w8.setCell ⟨p, 0, none⟩ x).setCell ⟨p, 1, none⟩ y) (.slice Az N.length cz) N ∧ Below w.heap.size w ((w8.setCell ⟨p, 0, none⟩ x).setCell ⟨p, 1, none⟩ y)) := Lib.hid (fun w8 x y h => ⟨((HOW.out.below h).out (((Out.refl _ w8).setCell (p := ⟨p, 0, none⟩) HGP.out x).setCell (p := ⟨p, 1, none⟩) HGP.out y)).strs, HBP.out w8 x y (HBk.out.trans (h.mono HBk.out.size))⟩)
            clear hb hown hrow hN hNl hR hk hlt hd
            go_wp2_with fail
            refine (HCL.out _ HBk.out HOW.out.strs).mono ?_
            rintro e w8 ⟨rfl, hb8⟩
            have HB8 := Lib.hid hb8
            obtain ⟨q0, q1, q2, q3⟩ := cells2 (HR8.out _ hb8).1
            obtain ⟨r0, r1, r2, r3⟩ := cells2 (HR8.out _ hb8).2
            clear hb8
            rcases hR2 with rfl | rfl
            · obtain rfl : G = (⟨D, N⟩, 0) := HGC.out.trans (if_pos rfl)
              go_wp2
              refine bodyPost_ret (results_c1t rfl _ _ p _ _ (0, 0) _ rfl (set2 _ _ (HR8.out _ HB8.out).2) Tryd.underlying28 rfl (by kernel_rfl)) rfl ⟨_, rfl, (HF8.out _ _ _ HB8.out).1, (HF8.out _ _ _ HB8.out).2⟩
            · obtain rfl : G = (⟨[], []⟩, 71) := HGC.out.trans (if_neg (by decide))
              go_wp2
              refine bodyPost_ret (results_c1t rfl _ _ p _ _ (0, 0) _ rfl (set2 _ _ (HR8.out _ HB8.out).2) Tryd.underlying28 rfl (by kernel_rfl)) rfl ⟨_, rfl, (Own.nil _ 0).strs, (HF8.out _ _ _ HB8.out).2⟩
      · obtain rfl : G = (⟨[], []⟩, 3) := HGG.out.symm.trans (Ct.gather3 HTT.out HOK.out hd)
        have hdi : ((D.length : Int) == 32) = false := by simp; omega
        have hdi2 : ¬ ((D.length : Int) = 32) := by omega
        clear hd
        obtain ⟨c0, c1, f0, f1⟩ := cells2 HROW2.out
        go_wp2
        refine bodyPost_ret (results_c1t rfl _ _ p _ _ (0, 0) _ rfl (set2 _ _ HROW2.out) Tryd.underlying28 rfl (by kernel_rfl)) rfl ⟨_, rfl, (Own.nil _ 0).strs, HBP.out _ _ _ HB2.out⟩
end Go.Proofs.YtojpkodmpjibkaaDoor
namespace Go.Proofs.YtojpkodmpjibkaaDoor
open Go.RowKit Go.ChangeShapes Go.WideShapes
open Go.Proofs.YtojpkodmpjibkaaDoor.Ct (C)
open Go.Proofs.YtojpkodmpjibkaaDoor.Pw (M)
open Go.Proofs.YtojpkodmpjibkaaDoor.Ora (Sig)

/-- What cert.Gather tells: the certificate with signers of its own, the code. -/
def CGathPost (t : Int) (L : List M) (d : List UInt8) (T : List Sig) (w : World) (e : Ending) (w' : World) : Prop :=
  ∃ z, e = .returned (.tuple #[.agg #[.string ⟨(Ct.gatherP t L d T).1.dig.toArray⟩, z], .int .i64 (Ct.gatherP t L d T).2]) ∧ Own w' w.heap.size z (Ct.gatherP t L d T).1.sig ∧ Below w.heap.size w w'

theorem Own.low {w : World} {B B' : Nat} {s : Value} {L : List (List UInt8)} (h : Own w B s L) (hB : B' ≤ B) : Own w B' s L := by
  refine ⟨h.1, ?_⟩
  rcases h.2 with hn | ⟨k, cap, cur, hv, hb, hk, hr⟩
  · exact Or.inl hn
  · exact Or.inr ⟨k, cap, cur, hv, Nat.le_trans hB hb, hk, hr⟩

set_option maxRecDepth 100000 in
set_option maxHeartbeats 2000000 in
theorem cgather_any (t : Int) (L : List M) (v : Value) (D : List UInt8) (g m : Nat) (T : List Sig) (w : World) (hv : Mems w v L) (hT : TabAt w g m T) (hTab : Tab w) :
    Calls Tryd.prog 17 #[.int .i64 t, v, .string ⟨D.toArray⟩, .pointer (some ⟨g, 0, none⟩)] w (CGathPost t L D T w) := by
  unfold CGathPost
  have HV := Lib.hid hv
  have HT := Lib.hid hT
  have HTA := Lib.hid hTab
  have HTG := Lib.hid (fun w => cis_any t w)
  have HCK := Lib.hid (fun w hv => check_any L v w hv)
  obtain ⟨A, cap, rfl⟩ := hv.form
  obtain ⟨G, hG⟩ : ∃ G, Ct.gatherP t L D T = G := ⟨_, rfl⟩
  have HGG := Lib.hid hG
  rw [hG]
  clear hG
  have hb0 : Below w.heap.size w (w.alloc (.cells #[.string ⟨#[]⟩, .slice none 0 0] 28)) := (Below.refl _ w).alloc (Nat.le_refl _) _
  have HB0 := Lib.hid hb0
  cases ht : Ct.isT t with
  | false =>
    obtain rfl : G = (⟨[], []⟩, 1) := HGG.out.symm.trans (Ct.gather1 ht)
    rw [ht] at HTG
    clear hv hT hTab ht hb0
    go_enter Tryd.func17, Tryd.ntmps17
    go_wp2_with fail
    refine (HTG.out _).mono ?_
    rintro e w1 ⟨rfl, rfl⟩
    go_wp2
    refine bodyPost_ret (results_c1t rfl _ _ w.heap.size _ _ (0, 0) _ rfl (heap_new_at w _ _ rfl) Tryd.underlying28 rfl (by kernel_rfl)) rfl ⟨_, rfl, Own.nil _ _, HB0.out⟩
  | true =>
    rw [ht] at HTG
    have HTT := Lib.hid ht
    clear hv hT hTab ht hb0
    go_enter Tryd.func17, Tryd.ntmps17
    go_wp2_with fail
    have HROW := Lib.hid (heap_new_at w (.cells #[.string ⟨#[]⟩, .slice none 0 0] 28) w.heap.size rfl)
    have hsz := lt_of_heap HROW.out
    obtain ⟨p, hp⟩ : ∃ p, w.heap.size = p := ⟨_, rfl⟩
    have HPW := Lib.hid hp
    rw [hp] at hsz HROW HB0 ⊢
    have HSZ := Lib.hid hsz
    generalize (w.alloc (.cells #[.string ⟨#[]⟩, .slice none 0 0] 28)) = w0 at *
    have HBW : Hid (∀ w', Below w0.heap.size w0 w' → Below w.heap.size w w') := Lib.hid (fun w' h => by rw [hp]; exact HB0.out.trans (h.mono (Nat.le_of_lt hsz)))
    have HBP : Hid (∀ w' x y, Below w0.heap.size w0 w' → Below w.heap.size w ((w'.setCell ⟨p, 0, none⟩ x).setCell ⟨p, 1, none⟩ y)) := Lib.hid (fun w' x y h => by rw [hp]; exact HB0.out.trans ((((Out.of (F := fun k => k = p) h).setCell (p := ⟨p, 0, none⟩) rfl x).setCell (p := ⟨p, 1, none⟩) rfl y).below (fun k hk => Nat.le_of_eq hk.symm) (Nat.le_of_lt hsz)))
    clear hsz hp
    refine (HTG.out _).mono ?_
    rintro e w1 ⟨rfl, hw1⟩
    obtain rfl : w0 = w1 := hw1.symm
    go_wp2_with fail
    refine (HCK.out _ (HV.out.below (HBW.out _ (Below.refl _ _)))).mono ?_
    rintro e w2 ⟨rfl, hb2⟩
    have HB2 := Lib.hid hb2
    have HROW2 := Lib.hid ((hb2.block p HSZ.out).trans HROW.out)
    clear hb2
    cases hok : Pw.okL L with
    | false =>
      rw [Pw.checkC_bad hok]
      obtain rfl : G = (⟨[], []⟩, 50) := HGG.out.symm.trans (Ct.gather50 HTT.out hok)
      clear hok
      obtain ⟨c0, c1, f0, f1⟩ := cells2 HROW2.out
      go_wp2
      refine bodyPost_ret (results_c1t rfl _ _ p _ _ (0, 0) _ rfl (set2 _ _ HROW2.out) Tryd.underlying28 rfl (by kernel_rfl)) rfl ⟨_, rfl, Own.nil _ _, HBP.out _ _ _ HB2.out⟩
    | true =>
      rw [Pw.checkC_ok hok]
      have HOK := Lib.hid hok
      have hl7 := (Pw.okL_len hok).2
      have HNX : Hid (∀ x ∈ Ct.names L, x.length ≤ 140737488351232) := Lib.hid (fun x hx => by
        obtain ⟨m, hm, rfl⟩ := Ct.names_mem.1 hx
        exact Nat.le_trans (Pw.okL_mem hok m hm).2.1 (by omega))
      have HNL : Hid ((Ct.names L).length ≤ 7) := Lib.hid (by simp [Ct.names]; omega)
      clear hok
      by_cases hd : D.length = 32
      · have hdi : (D.length : Int) = 32 := by omega
        have HD := Lib.hid hd
        have HGC := Lib.hid (HGG.out.symm.trans (Ct.gather_ok (T := T) HTT.out HOK.out hd))
        rw [Ct.gather_check HTT.out HOK.out hd] at HGC
        have HCL := Lib.hid (dclone_any D w2 (by omega))
        clear hd
        go_wp2_with fail
        refine HCL.out.mono ?_
        rintro e w3 ⟨rfl, hb3⟩
        have HB3 := Lib.hid (HB2.out.trans (hb3.mono HB2.out.size))
        have HNM := Lib.hid (cnames_any L (.slice A L.length cap) w3 (HV.out.below (HBW.out _ HB3.out)) hl7)
        clear hb3
        go_wp2_with fail
        refine HNM.out.mono ?_
        rintro e w4 ⟨z4, rfl, hown4, hb4⟩
        have HB4 := Lib.hid (HB3.out.trans (hb4.mono HB3.out.size))
        have HSGN := Lib.hid (csigners_any t D (Ct.names L) z4 g m T w4 HTT.out HD.out hown4.strs (HT.out.below (HBW.out _ HB4.out)) HNL.out HNX.out (HTA.out.below (HBW.out _ HB4.out)))
        obtain ⟨A4, cap4, rfl⟩ := own_form hown4
        clear hown4 hb4
        go_wp2_with fail
        refine HSGN.out.mono ?_
        rintro e w5 ⟨z, rfl, hown, hb5⟩
        have HB5 := Lib.hid (HB4.out.trans (hb5.mono HB4.out.size))
        change Own w5 w4.heap.size z (Ct.gatherS t L D T) at hown
        have hNl : (Ct.gatherS t L D T).length ≤ 7 := by
          have := Ct.gather_len t L D T
          omega
        have HNX2 : Hid (∀ x ∈ Ct.gatherS t L D T, x.length ≤ 140737488351232) := Lib.hid (fun x hx => HNX.out x (List.mem_filter.1 hx).1)
        obtain ⟨N, hN⟩ : ∃ N, Ct.gatherS t L D T = N := ⟨_, rfl⟩
        rw [hN] at HGC hown hNl HNX2
        have HOW := Lib.hid (hown.low (B' := p + 1) (by have h1 := HSZ.out; have h2 := HB4.out.size; omega))
        have HHP5 := Lib.hid ((HB5.out.block p HSZ.out).trans HROW.out)
        obtain ⟨Az, cz, rfl⟩ := own_form hown
        have hsc : w5.heap.size < (w5.alloc (.cells #[.string ⟨D.toArray⟩, .slice Az N.length cz] 28)).heap.size := lt_of_heap (heap_new_at w5 _ _ rfl)
        have HEN := Lib.hid (fun w' (h : Below w0.heap.size w0 w') (hs : Strs w' (.slice Az N.length cz) N) => cenough_any L (.slice A L.length cap) N (.slice Az N.length cz) w' (HV.out.below (HBW.out _ h)) hs HNX2.out (by omega) HOK.out)
        have HB6 : Hid (Below w0.heap.size w0 (w5.alloc (.cells #[.string ⟨D.toArray⟩, .slice Az N.length cz] 28))) := Lib.hid (HB5.out.alloc HB5.out.size _)
        have HW6 : Hid (Below w5.heap.size w5 (w5.alloc (.cells #[.string ⟨D.toArray⟩, .slice Az N.length cz] 28))) := Lib.hid ((Below.refl _ w5).alloc (Nat.le_refl _) _)
        have HRC := Lib.hid (heap_new_at w5 (.cells #[.string ⟨D.toArray⟩, .slice Az N.length cz] 28) w5.heap.size rfl)
        have hc := cells2 HRC.out
        obtain ⟨c0, c1, -, -⟩ := hc
        clear hN hown hb5 hNl
        go_wp2_with fail
        refine (HEN.out _ HB6.out (HOW.out.below HW6.out).strs).mono ?_
        rintro e w8 ⟨rfl, hb8⟩
        have HB8 := Lib.hid (HB6.out.trans (hb8.mono HB6.out.size))
        have HRC8 := Lib.hid ((hb8.block w5.heap.size hsc).trans HRC.out)
        have HRP8 := Lib.hid ((HB8.out.block p HSZ.out).trans HROW.out)
        have HOW8 := Lib.hid ((HOW.out.below HW6.out).below hb8)
        have HF8 : Hid (∀ x y, Own ((w8.setCell ⟨p, 0, none⟩ x).setCell ⟨p, 1, none⟩ y) w.heap.size (.slice Az N.length cz) N) := Lib.hid (fun x y => by rw [HPW.out]; exact (HOW8.out.out (((Out.refl _ w8).setCell (p := ⟨p, 0, none⟩) (Nat.lt_succ_self p) x).setCell (p := ⟨p, 1, none⟩) (Nat.lt_succ_self p) y)).low (Nat.le_succ p))
        obtain ⟨q0, q1, q2, q3⟩ := cells2 HRC8.out
        obtain ⟨r0, r1, r2, r3⟩ := cells2 HRP8.out
        clear hb8 c0 c1
        by_cases hle : 3 * Pw.ofL L N ≤ 2 * Pw.tot L
        · rw [if_pos hle] at HGC ⊢
          obtain rfl : G = (⟨[], []⟩, 71) := HGC.out.trans (if_neg (by decide))
          clear hle
          go_wp2
          refine bodyPost_ret (results_c1t rfl _ _ p _ _ (0, 0) _ rfl (set2 _ _ HRP8.out) Tryd.underlying28 rfl (by kernel_rfl)) rfl ⟨_, rfl, Own.nil _ _, HBP.out _ _ _ HB8.out⟩
        · rw [if_neg hle] at HGC ⊢
          obtain rfl : G = (⟨D, N⟩, 0) := HGC.out.trans (if_pos rfl)
          clear hle
          go_wp2
          refine bodyPost_ret (results_c1t rfl _ _ p _ _ (0, 0) _ rfl (set2 _ _ HRP8.out) Tryd.underlying28 rfl (by kernel_rfl)) rfl ⟨_, rfl, HF8.out _ _, HBP.out _ _ _ HB8.out⟩
      · obtain rfl : G = (⟨[], []⟩, 3) := HGG.out.symm.trans (Ct.gather3 HTT.out HOK.out hd)
        have hdi : ((D.length : Int) == 32) = false := by simp; omega
        have hdi2 : ¬ ((D.length : Int) = 32) := by omega
        clear hd
        obtain ⟨c0, c1, f0, f1⟩ := cells2 HROW2.out
        go_wp2
        refine bodyPost_ret (results_c1t rfl _ _ p _ _ (0, 0) _ rfl (set2 _ _ HROW2.out) Tryd.underlying28 rfl (by kernel_rfl)) rfl ⟨_, rfl, Own.nil _ _, HBP.out _ _ _ HB2.out⟩
end Go.Proofs.YtojpkodmpjibkaaDoor
namespace Go.Proofs.YtojpkodmpjibkaaDoor
open Go.RowKit

def Code.few (L : List (List UInt8)) (n e : Nat) : Bool := decide (L.length ≤ n) && L.all fun s => decide (s.length ≤ e)
theorem Code.few_iff (L : List (List UInt8)) (n e : Nat) : Code.few L n e = true ↔ L.length ≤ n ∧ ∀ s ∈ L, s.length ≤ e := by simp [Code.few]
theorem Code.all_snoc (L : List (List UInt8)) (e k : Nat) (h : k < L.length) : ((L.take (k + 1)).all fun s => decide (s.length ≤ e)) = (((L.take k).all fun s => decide (s.length ≤ e)) && decide (L[k].length ≤ e)) := by
  rw [List.take_succ_eq_append_getElem h, List.all_append]
  simp only [List.all_cons, List.all_nil, Bool.and_true]

set_option maxHeartbeats 400000 in
theorem few_any (L : List (List UInt8)) (v : Value) (n e : Nat) (w : World) (hs : Strs w v L) (hl : L.length ≤ maxLen) :
    Calls Tryd.prog 9 #[v, .int .i64 n, .int .i64 e] w fun x w' => x = .returned (.bool (Code.few L n e)) ∧ w' = w := by
  obtain ⟨A, cap, rfl, hc⟩ := hs
  unfold maxLen at hl
  by_cases hbig : L.length > n
  · have hf : Code.few L n e = false := by rw [Code.few, decide_eq_false (by omega)]; rfl
    rw [hf]
    clear hf hc
    have hb : (L.length : Int) > n := by omega
    go_enter Tryd.func9, Tryd.ntmps9
    go_wp2
    go_ret
    exact ⟨rfl, rfl⟩
  · have hf : Code.few L n e = L.all fun s => decide (s.length ≤ e) := by rw [Code.few, decide_eq_true (by omega)]; rfl
    have HF := Lib.hid hf
    have hb : ¬ ((L.length : Int) > n) := by omega
    clear hbig hf
    go_enter Tryd.func9, Tryd.ntmps9
    go_wp2
    go_loop [7] (fun i => ∃ k : Nat, k ≤ L.length ∧ i = .int .i64 k ∧ ((L.take k).all fun s => decide (s.length ≤ e)) = true) (fun i => L.length - (intOf i).toNat)
    case atStart => exact ⟨0, Nat.zero_le _, rfl, rfl⟩
    case round =>
      obtain ⟨k, hk, rfl, hall⟩ := hrel
      have HA := Lib.hid hall
      clear hall
      by_cases hlt : k < L.length
      · have h1 : (k : Int) < (L.length : Int) := by omega
        obtain ⟨a, rfl, hcell⟩ := hc k hlt
        clear hc
        have hsn := Lib.hid (Code.all_snoc L e k hlt)
        have hmem := Lib.hid (List.getElem_mem hlt)
        obtain ⟨t, ht⟩ : ∃ t, L[k] = t := ⟨_, rfl⟩
        rw [ht] at hcell hsn hmem
        clear ht
        by_cases hte : t.length ≤ e
        · have h2 : ¬ ((t.length : Int) > (e : Int)) := by omega
          go_wp2
          go_round
          case rel => exact ⟨k + 1, by omega, by go_num, by rw [hsn.out, HA.out, decide_eq_true hte]; rfl⟩
          case measure => simp [intOf]; omega
        · have h2 : (t.length : Int) > (e : Int) := by omega
          have hno : (L.all fun s => decide (s.length ≤ e)) = false := by
            rw [List.all_eq_false]
            exact ⟨t, hmem.out, by simpa using hte⟩
          have HN := Lib.hid hno
          clear hno
          go_wp2
          go_ret
          refine ⟨?_, rfl⟩
          rw [HF.out, HN.out]
          rfl
      · go_wp2
        go_ret
        refine ⟨?_, rfl⟩
        have HB := HA.out
        rw [List.take_of_length_le (by omega)] at HB
        rw [HF.out, HB]
        rfl

theorem Code.take_snoc_eq {L M : List (List UInt8)} {k : Nat} (h1 : k < L.length) (h2 : k < M.length) : L.take (k + 1) = M.take (k + 1) ↔ L.take k = M.take k ∧ L[k] = M[k] := by
  rw [List.take_succ_eq_append_getElem h1, List.take_succ_eq_append_getElem h2]
  constructor
  · intro h
    have := List.append_inj' h rfl
    exact ⟨this.1, by simpa using this.2⟩
  · rintro ⟨a, b⟩
    rw [a, b]

set_option maxHeartbeats 400000 in
theorem same_any (L M : List (List UInt8)) (u v : Value) (w : World) (hu : Strs w u L) (hv : Strs w v M) (hl : L.length ≤ 100000000) (hm : M.length ≤ maxLen) :
    Calls Tryd.prog 36 #[u, v] w fun x w' => x = .returned (.bool (decide (L = M))) ∧ Below w.heap.size w w' := by
  obtain ⟨A, cap, rfl, hc⟩ := hu
  obtain ⟨B, cap2, rfl, hd⟩ := hv
  unfold maxLen at hm
  by_cases he : L.length = M.length
  · have h0 : ((L.length : Int) == (M.length : Int)) = true := by rw [beq_iff_eq]; omega
    have he' := Lib.hid he
    go_enter Tryd.func36, Tryd.ntmps36
    go_wp2
    go_loopw [5, 6] (fun s i wr => ∃ k : Nat, k ≤ L.length ∧ s = .bool (decide (L.take k = M.take k)) ∧ i = .int .i64 k ∧ Below w.heap.size w wr ∧ (L.take k ≠ M.take k → L ≠ M)) (fun _ i _ => L.length - (intOf i).toNat)
    case atStart => exact ⟨0, Nat.zero_le _, by simp, rfl, Below.refl _ _, by simp⟩
    case round =>
      obtain ⟨k, hk, rfl, rfl, hbel, hno⟩ := hrel
      have HN := Lib.hid hno
      clear hno
      rcases htk : decide (L.take k = M.take k) with _ | _
      · have HT := Lib.hid htk
        clear htk
        go_wp2
        go_ret
        refine ⟨?_, hbel⟩
        have h := HN.out (of_decide_eq_false HT.out)
        rw [decide_eq_false h]
        rfl
      · have HT := Lib.hid htk
        clear htk
        by_cases hlt : k < L.length
        · have h1 : (k : Int) < (L.length : Int) := by omega
          have h2 : (k : Int) < (M.length : Int) := by omega
          obtain ⟨a, rfl, hcell⟩ := hc k hlt
          obtain ⟨b, rfl, hdell⟩ := hd k (by omega)
          have hcell1 := (hbel.cell (World.block_lt_of_cell? _ _ hcell)).trans hcell
          have hdell1 := (hbel.cell (World.block_lt_of_cell? _ _ hdell)).trans hdell
          have hsn := Lib.hid (Code.take_snoc_eq hlt (show k < M.length by omega))
          clear hc hd hcell hdell
          obtain ⟨s, hs⟩ : ∃ s, L[k] = s := ⟨_, rfl⟩
          obtain ⟨t, ht⟩ : ∃ t, M[k] = t := ⟨_, rfl⟩
          rw [hs] at hcell1 hsn
          rw [ht] at hdell1 hsn
          clear hs ht
          go_wp2
          go_quiet (fail)
          go_wp2
          go_roundw
          case rel =>
            refine ⟨k + 1, by omega, ?_, by go_num, bel_drewN hbel _, ?_⟩
            · have e := hsn.out
              have e1 := of_decide_eq_true HT.out
              by_cases hst : s = t
              · rw [decide_eq_true (e.2 ⟨e1, hst⟩)]; simp [hst]
              · rw [decide_eq_false (fun h => hst (e.1 h).2)]; simp [hst]
            · intro h hLM
              subst hLM
              exact h rfl
          case measure => simp [intOf]; omega
        · go_wp2
          go_ret
          refine ⟨?_, hbel⟩
          have e := of_decide_eq_true HT.out
          have he2 := he'.out
          rw [List.take_of_length_le (by omega), List.take_of_length_le (by omega)] at e
          rw [decide_eq_true e]
          rfl
  · have h0 : ((L.length : Int) == (M.length : Int)) = false := by rw [beq_eq_false_iff_ne]; omega
    have hne : decide (L = M) = false := decide_eq_false (fun h => he (by rw [h]))
    rw [hne]
    clear he hc hd hne
    go_enter Tryd.func36, Tryd.ntmps36
    go_wp2
    go_loop [5, 6] (fun s i => s = .bool false ∧ i = .int .i64 0) (fun _ _ => 0)
    case atStart => exact ⟨rfl, rfl⟩
    case round =>
      obtain ⟨rfl, rfl⟩ := hrel
      go_wp2
      go_ret
      exact ⟨rfl, Below.refl _ _⟩

end Go.Proofs.YtojpkodmpjibkaaDoor
