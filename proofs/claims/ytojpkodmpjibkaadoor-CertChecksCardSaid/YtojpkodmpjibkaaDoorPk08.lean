/- CertSign, CertCheck, PowRef, OraRef -/
import Derived.Test.YtojpkodmpjibkaaDoorPk07
import Derived.Test.YtojpkodmpjibkaaDoorPk06
import Derived.Test.YtojpkodmpjibkaaDoorPk01
import Derived.BigQuiet
namespace Go.Proofs.YtojpkodmpjibkaaDoor
open Go.RowKit Go.ChangeShapes Go.WideShapes
open Go.Proofs.YtojpkodmpjibkaaDoor.Ct (C)
open Go.Proofs.YtojpkodmpjibkaaDoor.Pw (M)
open Go.Proofs.YtojpkodmpjibkaaDoor.Ora (Sig)

theorem Ct.names_take' (L : List M) (k : Nat) (h : k < L.length) : Ct.names (L.take (k + 1)) = Ct.names (L.take k) ++ [L[k].name] := by
  unfold Ct.names
  rw [List.take_succ_eq_append_getElem h, List.map_append]
  rfl
def NamesPost (L : List M) (w : World) (e : Ending) (w' : World) : Prop := ∃ z, e = .returned z ∧ Own w' w.heap.size z (Ct.names L) ∧ Below w.heap.size w w'
set_option maxRecDepth 100000 in
set_option maxHeartbeats 1000000 in
theorem cnames_any (L : List M) (v : Value) (w : World) (hv : Mems w v L) (hl : L.length ≤ 7) :
    Calls Tryd.prog 43 #[v] w (NamesPost L w) := by
  have HV := Lib.hid hv
  have HL := Lib.hid hl
  obtain ⟨A, cap, rfl⟩ := hv.form
  obtain ⟨i0, hi, hz0, hz1, hz2⟩ := info_parts Tryd.infoStr
  clear hv hl
  go_enter Tryd.func43, Tryd.ntmps43
  go_wp2
  go_loopw [3, 8] (fun sl i wr => ∃ (k : Nat) (z : Value), z = sl ∧ k ≤ L.length ∧ i = .int .i64 k ∧ Own wr w.heap.size z (Ct.names (L.take k)) ∧ Below w.heap.size w wr) (fun _ i _ => L.length - (intOf i).toNat)
  case atStart => exact ⟨0, _, rfl, Nat.zero_le _, rfl, Own.nil _ _, Below.refl _ _⟩
  case round =>
    obtain ⟨k, z, rfl, hk, rfl, hown, hb⟩ := hrel
    have HBk := Lib.hid hb
    have HOW := Lib.hid hown
    by_cases hlt : k < L.length
    · have h1 : (k : Int) < (L.length : Int) := by omega
      have h0 : (0 : Int) ≤ (k : Int) := by omega
      have h2 : (k : Int) ≤ 7 := by have := HL.out; omega
      obtain ⟨b, o, rfl, n0, n1⟩ := HV.out.at hb k hlt
      have HST := Lib.hid (Ct.names_take' L k hlt)
      obtain ⟨⟨x, q⟩, hm⟩ : ∃ m, L[k] = m := ⟨_, rfl⟩
      rw [hm] at n0 n1 HST
      dsimp only at n0 n1 HST
      have hln : (Ct.names (L.take k)).length ≤ 7 := by have := HL.out; simp [Ct.names]; omega
      obtain ⟨O, hO⟩ : ∃ O, Ct.names (L.take k) = O := ⟨_, rfl⟩
      rw [hO] at HOW HST hln
      have HSZ : Hid (w.heap.size ≤ wr.heap.size) := Lib.hid hb.size
      have HLN := Lib.hid hln
      clear hm hO hown hln hb
      go_wp2_with (at_builtin; refine wpList_append_lies _ rfl _ _ _ rfl w.heap.size 9 i0 (.string ⟨#[]⟩) 1 16 Tryd.underlying26 hi hz0 hz1 hz2 rfl (by decide) z O.length (scells O) (by rfl) (World.ownsRow.alloc (World.ownsRow.alloc HOW.out _) _) ⟨wr.heap.size + 1, 0, none⟩ 1 1 (scells [x]) (by rfl) rfl (World.news_of_block (heap_new_at _ _ _ (by simp))) (by simp [scells, Value.oneCell']) (by decide) (by have := HLN.out; unfold maxLen; omega) (by have := HLN.out; omega) (by have := HSZ.out; simp; omega) (wr.heap.size + 2) (by simp) ?_; intro g' cap' w5 hown5 hgrow5 hat5 hlt5)
      have hB5 : Below w.heap.size w w5 := HBk.out.trans (((Out.of (((Below.refl _ wr).alloc (Nat.le_refl _) _).alloc (by simp) _)).trans (Out.grown hgrow5 (F := fun j => z.ownBlock = some j) (fun j e => e))).below (fun j hj => (HOW.out.lt j hj).1) HSZ.out)
      refine ⟨⟨k + 1, _, rfl, by omega, by go_num, ?_, hB5⟩, by simp [intOf]; omega⟩
      rw [HST.out]
      unfold Own
      rw [scells_append, List.length_append]
      exact hown5
    · have h1 : ¬ ((k : Int) < (L.length : Int)) := by omega
      obtain rfl : k = L.length := by omega
      rw [List.take_length] at HOW
      clear hown hb
      go_wp2
      go_ret
      exact ⟨z, rfl, HOW.out, HBk.out⟩

theorem Ct.sign_take (t : Int) (D : List UInt8) (T : List Sig) (N : List (List UInt8)) (k : Nat) (hk : k < N.length) : (N.take (k + 1)).filter (fun s => Ct.signedBy t D T s) = if Ct.signedBy t D T N[k] then (N.take k).filter (fun s => Ct.signedBy t D T s) ++ [N[k]] else (N.take k).filter (fun s => Ct.signedBy t D T s) := by
  rw [List.take_succ_eq_append_getElem hk, List.filter_append]
  cases h : Ct.signedBy t D T N[k] <;> simp [h]
def SgnPost (t : Int) (D : List UInt8) (N : List (List UInt8)) (T : List Sig) (w : World) (e : Ending) (w' : World) : Prop := ∃ z, e = .returned z ∧ Own w' w.heap.size z (N.filter fun s => Ct.signedBy t D T s) ∧ Below w.heap.size w w'
set_option maxRecDepth 100000 in
set_option maxHeartbeats 1000000 in
theorem csigners_any (t : Int) (D : List UInt8) (N : List (List UInt8)) (s : Value) (g m : Nat) (T : List Sig) (w : World) (ht : Ct.isT t = true) (hD : D.length = 32) (hs : Strs w s N) (hT : TabAt w g m T) (hN : N.length ≤ 7) (hx : ∀ x ∈ N, x.length ≤ 140737488351232) (hTab : Tab w) :
    Calls Tryd.prog 45 #[.int .i64 t, .string ⟨D.toArray⟩, s, .pointer (some ⟨g, 0, none⟩)] w (SgnPost t D N T w) := by
  have HS := Lib.hid hs
  have HT := Lib.hid hT
  have HX := Lib.hid hx
  have HN := Lib.hid hN
  have HMK := Lib.hid (cmark_any t D w hTab)
  have hmc : Ct.markC t D = 0 := by simp [Ct.markC, ht, hD]
  have hmr : Ct.markR t D = Ct.markP t D := by simp [Ct.markR, hmc]
  rw [hmc, hmr] at HMK
  obtain ⟨A, cap, rfl, -⟩ := hs
  obtain ⟨i0, hi, hz0, hz1, hz2⟩ := info_parts Tryd.infoStr
  have hml : (Ct.markP t D).length = 32 := Sha.sumP_length _
  obtain ⟨mk, hm⟩ : ∃ m, Ct.markP t D = m := ⟨_, rfl⟩
  have HM := Lib.hid hm
  rw [hm] at HMK hml
  have HML := Lib.hid hml
  clear hx hN hmc hmr hm hml ht hD hT hTab
  go_enter Tryd.func45, Tryd.ntmps45
  go_wp2_with fail
  refine HMK.out.mono ?_
  rintro e w1 ⟨rfl, hb1⟩
  have HB1 := Lib.hid hb1
  clear hb1
  go_wp2
  go_loopw [12, 23] (fun sl i wr => ∃ (k : Nat) (z : Value), z = sl ∧ k ≤ N.length ∧ i = .int .i64 k ∧ Own wr w.heap.size z ((N.take k).filter fun s => Ct.signedBy t D T s) ∧ Below w.heap.size w wr) (fun _ i _ => N.length - (intOf i).toNat)
  case atStart => exact ⟨0, _, rfl, Nat.zero_le _, rfl, Own.nil _ _, HB1.out⟩
  case round =>
    obtain ⟨k, z, rfl, hk, rfl, hown, hb⟩ := hrel
    have HBk := Lib.hid hb
    have HOW := Lib.hid hown
    by_cases hlt : k < N.length
    · have h1 : (k : Int) < (N.length : Int) := by omega
      have h0 : (0 : Int) ≤ (k : Int) := by omega
      have h2 : (k : Int) ≤ 7 := by have := HN.out; omega
      obtain ⟨A3, cap3, hv3, hc3⟩ := HS.out.below hb
      obtain ⟨rfl, rfl⟩ : A = A3 ∧ cap = cap3 := by simpa using hv3
      obtain ⟨q, rfl, n0⟩ := hc3 k hlt
      have HST := Lib.hid (Ct.sign_take t D T N k hlt)
      have HXx := Lib.hid (HX.out N[k] (List.getElem_mem hlt))
      obtain ⟨x, hx⟩ : ∃ x, N[k] = x := ⟨_, rfl⟩
      rw [hx] at n0 HST HXx
      have HSG := Lib.hid (fun w ht => signed_any g m T (x, mk) w ht ⟨HXx.out, by have := HML.out; dsimp only; omega⟩)
      have hsb : Ct.signedBy t D T x = (Ora.look T (x, mk)).isSome := by unfold Ct.signedBy; rw [HM.out]
      obtain ⟨bb, hbb⟩ : ∃ b, (Ora.look T (x, mk)).isSome = b := ⟨_, rfl⟩
      rw [hbb] at hsb HSG
      rw [hsb] at HST
      have HLN : Hid (((N.take k).filter fun s => Ct.signedBy t D T s).length ≤ 7) := Lib.hid (by
        have := List.length_filter_le (fun s => Ct.signedBy t D T s) (N.take k)
        have h2 := HN.out
        simp at this
        omega)
      obtain ⟨O, hO⟩ : ∃ O, (N.take k).filter (fun s => Ct.signedBy t D T s) = O := ⟨_, rfl⟩
      rw [hO] at HOW HST HLN
      have HSZ : Hid (w.heap.size ≤ wr.heap.size) := Lib.hid hb.size
      have HTw := Lib.hid (HT.out.below hb)
      clear hx hv3 hc3 hO hown hb hbb hsb
      dsimp only at HSG
      cases bb with
      | true =>
        rw [if_pos rfl] at HST
        have HCL := Lib.hid (fun w => dclone_any x w HXx.out)
        go_wp2_with fail
        refine (HSG.out _ HTw.out).mono ?_
        rintro e w2 ⟨rfl, hb2⟩
        have HB2 := Lib.hid hb2
        clear hb2
        go_wp2_with fail
        refine (HCL.out _).mono ?_
        rintro e w3 ⟨rfl, hb3⟩
        have HB3 := Lib.hid (HB2.out.trans (hb3.mono HB2.out.size))
        have HOW3 := Lib.hid (HOW.out.below HB3.out)
        have HSZ3 : Hid (w.heap.size ≤ w3.heap.size) := Lib.hid (Nat.le_trans HSZ.out HB3.out.size)
        clear hb3
        go_wp2_with (at_builtin; refine wpList_append_lies _ rfl _ _ _ rfl w.heap.size 9 i0 (.string ⟨#[]⟩) 1 16 Tryd.underlying26 hi hz0 hz1 hz2 rfl (by decide) z O.length (scells O) (by rfl) (World.ownsRow.alloc HOW3.out _) ⟨w3.heap.size, 0, none⟩ 1 1 (scells [x]) (by rfl) rfl (World.news_of_block (heap_new_at _ _ _ rfl)) (by simp [scells, Value.oneCell']) (by decide) (by have := HLN.out; unfold maxLen; omega) (by have := HLN.out; omega) (by have := HSZ3.out; simp; omega) (w3.heap.size + 1) (by simp) ?_; intro g' cap' w5 hown5 hgrow5 hat5 hlt5)
        have hB5 : Below w.heap.size w w5 := (HBk.out.trans (HB3.out.mono HSZ.out)).trans (((Out.of ((Below.refl _ w3).alloc (Nat.le_refl _) _)).trans (Out.grown hgrow5 (F := fun j => z.ownBlock = some j) (fun j e => e))).below (fun j hj => (HOW3.out.lt j hj).1) HSZ3.out)
        refine ⟨⟨k + 1, _, rfl, by omega, by go_num, ?_, hB5⟩, by simp [intOf]; omega⟩
        rw [HST.out]
        unfold Own
        rw [scells_append, List.length_append]
        exact hown5
      | false =>
        rw [if_neg (by simp)] at HST
        go_wp2_with fail
        refine (HSG.out _ HTw.out).mono ?_
        rintro e w2 ⟨rfl, hb2⟩
        have HB2 := Lib.hid hb2
        clear hb2
        go_wp2
        exact ⟨⟨k + 1, _, rfl, by omega, by go_num, by rw [HST.out]; exact HOW.out.below HB2.out, HBk.out.trans (HB2.out.mono HSZ.out)⟩, by simp [intOf]; omega⟩
    · have h1 : ¬ ((k : Int) < (N.length : Int)) := by omega
      obtain rfl : k = N.length := by omega
      rw [List.take_length] at HOW
      clear hown hb
      go_wp2
      go_ret
      exact ⟨z, rfl, HOW.out, HBk.out⟩

set_option maxRecDepth 8000 in
set_option maxHeartbeats 400000 in
theorem cenough_any (L : List M) (v : Value) (N : List (List UInt8)) (u : Value) (w : World) (hv : Mems w v L) (hu : Strs w u N) (hN : ∀ s ∈ N, s.length ≤ 140737488351232) (hlen : N.length ≤ 1000000) (hL : Pw.okL L = true) :
    Calls Tryd.prog 46 #[v, u] w fun e w' => e = .returned (.int .i64 (if 3 * Pw.ofL L N ≤ 2 * Pw.tot L then 71 else 0)) ∧ Below w.heap.size w w' := by
  have HV := Lib.hid hv
  have HOF := Lib.hid (of_any L v N u w hv hu hN hlen)
  have HQ := Lib.hid (fun w hv => quorum_any L v w hv)
  have htr := (Pw.tot_range L).1
  have hpos : 1 ≤ Pw.tot L := ((Pw.tot_range L).2.1 hL).1
  have hq : Pw.quo L = 2 * Pw.tot L / 3 + 1 := by unfold Pw.quo; rw [if_neg (by omega)]
  have hof := Pw.pick_le_tot hL N
  obtain ⟨A, cap, rfl⟩ := hv.form
  obtain ⟨A2, cap2, rfl, -⟩ := hu
  obtain ⟨a, ha⟩ : ∃ a, Pw.ofL L N = a := ⟨_, rfl⟩
  obtain ⟨b, hb⟩ : ∃ b, Pw.tot L = b := ⟨_, rfl⟩
  obtain ⟨c, hc⟩ : ∃ c, Pw.quo L = c := ⟨_, rfl⟩
  rw [ha] at HOF hof ⊢
  rw [hb] at hq hof htr hpos ⊢
  rw [hc] at HQ hq
  by_cases hle : 3 * a ≤ 2 * b
  · have h1 : (a : Int) < (c : Int) := by omega
    rw [if_pos hle]
    clear ha hb hc hle hq hof hpos htr hv
    go_enter Tryd.func46, Tryd.ntmps46
    go_wp2_with fail
    refine HOF.out.mono ?_
    rintro e w1 ⟨rfl, hb1⟩
    go_wp2_with fail
    refine (HQ.out _ (HV.out.below hb1)).mono ?_
    rintro e w2 ⟨rfl, hb2⟩
    go_wp2
    go_ret
    exact ⟨rfl, bchain hb1 hb2⟩
  · have h1 : ¬ ((a : Int) < (c : Int)) := by omega
    rw [if_neg hle]
    clear ha hb hc hle hq hof hpos htr hv
    go_enter Tryd.func46, Tryd.ntmps46
    go_wp2_with fail
    refine HOF.out.mono ?_
    rintro e w1 ⟨rfl, hb1⟩
    go_wp2_with fail
    refine (HQ.out _ (HV.out.below hb1)).mono ?_
    rintro e w2 ⟨rfl, hb2⟩
    go_wp2
    go_ret
    exact ⟨rfl, bchain hb1 hb2⟩
end Go.Proofs.YtojpkodmpjibkaaDoor
namespace Go.Proofs.YtojpkodmpjibkaaDoor
open Go.RowKit Go.ChangeShapes Go.WideShapes
open Go.Proofs.YtojpkodmpjibkaaDoor.Ct (C)
open Go.Proofs.YtojpkodmpjibkaaDoor.Pw (M)
open Go.Proofs.YtojpkodmpjibkaaDoor.Ora (Sig)

theorem Ct.all_signed {t : Int} {D : List UInt8} {T : List Sig} {N : List (List UInt8)} (h : ∀ s ∈ N, Ct.signedBy t D T s = true) : (N.filter fun s => Ct.signedBy t D T s).length = N.length := by
  rw [List.filter_eq_self.2 h]
theorem Ct.some_unsigned {t : Int} {D : List UInt8} {T : List Sig} {N : List (List UInt8)} (h : ¬ ∀ s ∈ N, Ct.signedBy t D T s = true) : (N.filter fun s => Ct.signedBy t D T s).length < N.length ∧ ∃ s ∈ N, Ct.signedBy t D T s = false := by
  have h' : ∃ s ∈ N, Ct.signedBy t D T s = false := by
    false_or_by_contra
    rename_i h2
    refine h (fun s hs => ?_)
    cases hb : Ct.signedBy t D T s
    · exact absurd ⟨s, hs, hb⟩ h2
    · rfl
  exact ⟨List.length_filter_lt_length_iff_exists.2 (by simpa using h'), h'⟩

set_option maxRecDepth 100000 in
set_option maxHeartbeats 1000000 in
theorem ccheck_any (t : Int) (L : List M) (v : Value) (c : C) (s : Value) (g m : Nat) (T : List Sig) (w : World) (hv : Mems w v L) (hs : Strs w s c.sig) (hT : TabAt w g m T) (hTab : Tab w) :
    Calls Tryd.prog 15 #[.int .i64 t, v, .agg #[.string ⟨c.dig.toArray⟩, s], .pointer (some ⟨g, 0, none⟩)] w fun e w' => e = .returned (.int .i64 (Ct.checkP t L c T)) ∧ Below w.heap.size w w' := by
  obtain ⟨D, N⟩ := c
  dsimp only at hs ⊢
  have HV := Lib.hid hv
  have HS := Lib.hid hs
  have HT := Lib.hid hT
  have HTA := Lib.hid hTab
  have HIS := Lib.hid (fun w => cis_any t w)
  have HCK := Lib.hid (fun w hv => check_any L v w hv)
  have HMY := Lib.hid (fun w hs => cmay_any ⟨D, N⟩ s w hs)
  obtain ⟨A, cap, rfl⟩ := hv.form
  obtain ⟨A2, cap2, rfl, -⟩ := hs
  dsimp only at HMY
  have hb0 : Below w.heap.size w (w.alloc (.cells #[.string ⟨D.toArray⟩, .slice A2 N.length cap2] 28)) := (Below.refl _ w).alloc (Nat.le_refl _) _
  obtain ⟨g0, g1, -, -⟩ := cells2 (heap_new_at w (.cells #[.string ⟨D.toArray⟩, .slice A2 N.length cap2] 28) w.heap.size rfl)
  cases ht : Ct.isT t with
  | false =>
    rw [Ct.check1 ht]
    rw [ht] at HIS
    clear hv hT hTab ht g0 g1
    go_enter Tryd.func15, Tryd.ntmps15
    go_wp2_with fail
    refine (HIS.out _).mono ?_
    rintro e w1 ⟨rfl, rfl⟩
    go_wp2
    go_ret
    exact ⟨rfl, hb0⟩
  | true =>
    rw [ht] at HIS
    have HTT := Lib.hid ht
    obtain ⟨R, hR⟩ : ∃ R, Ct.checkP t L ⟨D, N⟩ T = R := ⟨_, rfl⟩
    have HR := Lib.hid hR
    rw [hR]
    have HB0 := Lib.hid hb0
    clear hv hT hTab ht hR g0 g1 hb0
    go_enter Tryd.func15, Tryd.ntmps15
    go_wp2_with fail
    obtain ⟨g0, g1, -, -⟩ := cells2 (heap_new_at w (.cells #[.string ⟨D.toArray⟩, .slice A2 N.length cap2] 28) w.heap.size rfl)
    have hsz := lt_of_heap (heap_new_at w (.cells #[.string ⟨D.toArray⟩, .slice A2 N.length cap2] 28) w.heap.size rfl)
    have HROW := Lib.hid (heap_new_at w (.cells #[.string ⟨D.toArray⟩, .slice A2 N.length cap2] 28) w.heap.size rfl)
    obtain ⟨p, hp⟩ : ∃ p, w.heap.size = p := ⟨_, rfl⟩
    have HPW := Lib.hid hp
    rw [hp] at g0 g1 hsz HROW ⊢
    generalize (w.alloc (.cells #[.string ⟨D.toArray⟩, .slice A2 N.length cap2] 28)) = w0 at *
    have HG : Hid (∀ w', Below w0.heap.size w0 w' → w'.cell? ⟨p, 0, none⟩ = some (.string ⟨D.toArray⟩) ∧ w'.cell? ⟨p, 1, none⟩ = some (.slice A2 N.length cap2)) := Lib.hid (fun w' h => ⟨(h.cell hsz).trans g0, (h.cell hsz).trans g1⟩)
    have HBW : Hid (∀ w', Below w0.heap.size w0 w' → Below w.heap.size w w') := Lib.hid (fun w' h => HB0.out.trans (h.mono (by rw [hp]; exact Nat.le_of_lt hsz)))
    clear g0 g1 hsz hp
    refine (HIS.out _).mono ?_
    rintro e w1 ⟨rfl, hw1⟩
    obtain rfl : w0 = w1 := hw1.symm
    go_wp2_with fail
    refine (HCK.out _ (HV.out.below (HBW.out _ (Below.refl _ _)))).mono ?_
    rintro e w2 ⟨rfl, hb2⟩
    have HB2 := Lib.hid hb2
    obtain ⟨g0, g1⟩ := HG.out _ hb2
    clear hb2
    cases hok : Pw.okL L with
    | false =>
      rw [Pw.checkC_bad hok]
      obtain rfl : R = 50 := by rw [← HR.out]; exact Ct.check50 HTT.out hok
      clear hok
      go_wp2
      go_ret
      exact ⟨rfl, HBW.out _ HB2.out⟩
    | true =>
      rw [Pw.checkC_ok hok]
      have HOK := Lib.hid hok
      have hl7 := (Pw.okL_len hok).2
      clear hok
      go_wp2_with fail
      refine (HMY.out _ (HS.out.below (HBW.out _ HB2.out))).mono ?_
      rintro e w3 ⟨rfl, hb3⟩
      have HB3 := Lib.hid (HB2.out.trans (hb3.mono HB2.out.size))
      clear hb3 g0 g1
      obtain ⟨g0, g1⟩ := HG.out _ HB3.out
      cases hmy : Ct.may ⟨D, N⟩ with
      | false =>
        obtain rfl : R = 3 := by rw [← HR.out]; exact Ct.check3 HTT.out HOK.out hmy
        clear hmy
        go_wp2
        go_ret
        exact ⟨rfl, HBW.out _ HB3.out⟩
      | true =>
        have HMM := Lib.hid hmy
        have hN7 := (Ct.may_len hmy).2.1
        have hD32 := (Ct.may_len hmy).1
        dsimp only at hN7 hD32
        have HXN : Hid (∀ x ∈ N, x.length ≤ 140737488351232) := Lib.hid (fun x hx => Nat.le_trans (Ct.okNs_mem (Ct.may_len hmy).2.2 x hx).2 (by omega))
        have HNM := Lib.hid (cnames_any L (.slice A L.length cap) w3 (HV.out.below (HBW.out _ HB3.out)) hl7)
        clear hmy
        go_wp2_with fail
        refine HNM.out.mono ?_
        rintro e w4 ⟨z, rfl, hown, hb4⟩
        have HB4 := Lib.hid (HB3.out.trans (hb4.mono HB3.out.size))
        have HNS := Lib.hid hown.strs
        have hnl : (Ct.names L).length ≤ 1000000 := by simp [Ct.names]; omega
        have HHAS := Lib.hid (fun x => contains_any (Ct.names L) z x w4 hown.strs hnl)
        obtain ⟨A4, cap4, rfl⟩ := own_form hown
        clear hown hb4 hnl g0 g1
        obtain ⟨g0, g1⟩ := HG.out _ HB4.out
        have HSO := Lib.hid (HS.out.below (HBW.out _ HB4.out))
        go_wp2
        go_loopw [29] (fun i wr => ∃ k : Nat, k ≤ N.length ∧ i = .int .i64 k ∧ Hid (∀ s ∈ N.take k, s ∈ Ct.names L) ∧ wr = w4) (fun i _ => N.length - (intOf i).toNat)
        case atStart => exact ⟨0, Nat.zero_le _, rfl, Lib.hid (fun s hs => by simp at hs), rfl⟩
        case round =>
          obtain ⟨k, hk, rfl, HK, rfl⟩ := hrel
          by_cases hlt : k < N.length
          · have h1 : (k : Int) < (N.length : Int) := by omega
            have h0 : (0 : Int) ≤ (k : Int) := by omega
            have h2 : (k : Int) ≤ 7 := by omega
            obtain ⟨A3, cap3, hv3, hc3⟩ := HSO.out
            obtain ⟨rfl, rfl⟩ : A2 = A3 ∧ cap2 = cap3 := by simpa using hv3
            obtain ⟨q, rfl, n0⟩ := hc3 k hlt
            have HMEM := Lib.hid (List.getElem_mem hlt)
            have HTK := Lib.hid (List.take_succ_eq_append_getElem hlt)
            obtain ⟨x, hx⟩ : ∃ x, N[k] = x := ⟨_, rfl⟩
            rw [hx] at n0 HMEM HTK
            clear hx hv3 hc3
            by_cases hin : x ∈ Ct.names L
            · have HH := HHAS.out x
              rw [decide_eq_true hin] at HH
              have HH' := Lib.hid HH
              have HK' : Hid (∀ s ∈ N.take (k + 1), s ∈ Ct.names L) := Lib.hid (fun s hs => by
                rw [HTK.out] at hs
                rcases List.mem_append.1 hs with hs | hs
                · exact HK.out s hs
                · obtain rfl : s = x := by simpa using hs
                  exact hin)
              clear hin HH
              go_wp2_with fail
              refine HH'.out.mono ?_
              rintro e w6 ⟨rfl, hw6⟩
              obtain rfl : wr = w6 := hw6.symm
              go_wp2
              exact ⟨⟨k + 1, by omega, by go_num, HK', trivial⟩, by simp [intOf]; omega⟩
            · have HH := HHAS.out x
              rw [decide_eq_false hin] at HH
              have HH' := Lib.hid HH
              obtain rfl : R = 5 := by rw [← HR.out]; exact Ct.check5 HTT.out HOK.out HMM.out HMEM.out hin
              clear hin HH
              go_wp2_with fail
              refine HH'.out.mono ?_
              rintro e w6 ⟨rfl, hw6⟩
              obtain rfl : wr = w6 := hw6.symm
              go_wp2
              go_ret
              exact ⟨rfl, HBW.out _ HB4.out⟩
          · have h1 : ¬ ((k : Int) < (N.length : Int)) := by omega
            obtain rfl : k = N.length := by omega
            have HALL : Hid (∀ s ∈ N, s ∈ Ct.names L) := Lib.hid (by have := HK.out; rwa [List.take_length] at this)
            have HSGN := Lib.hid (fun w' (h : Below w0.heap.size w0 w') => csigners_any t D N (.slice A2 N.length cap2) g m T w' HTT.out hD32 (HS.out.below (HBW.out _ h)) (HT.out.below (HBW.out _ h)) hN7 HXN.out (HTA.out.below (HBW.out _ h)))
            have HBD : Hid (Below w0.heap.size w0 wr.drew) := Lib.hid HB4.out.drew
            have HEN := Lib.hid (fun w' (h : Below w0.heap.size w0 w') => cenough_any L (.slice A L.length cap) N (.slice A2 N.length cap2) w' (HV.out.below (HBW.out _ h)) (HS.out.below (HBW.out _ h)) HXN.out (by omega) HOK.out)
            clear hk hlt HK
            by_cases hal : ∀ s ∈ N, Ct.signedBy t D T s = true
            · have hq := Ct.all_signed hal
              have hrv : R = if 3 * Pw.ofL L N ≤ 2 * Pw.tot L then 71 else 0 := by rw [← HR.out]; exact Ct.check71 HTT.out HOK.out HMM.out HALL.out hal
              rw [← hrv] at HEN
              clear hrv hal
              unfold SgnPost at HSGN
              obtain ⟨F, hF⟩ : ∃ F, N.filter (fun s => Ct.signedBy t D T s) = F := ⟨_, rfl⟩
              rw [hF] at HSGN hq
              have hlss : ¬ ((F.length : Int) < (N.length : Int)) := by omega
              clear hF
              go_wp2
              go_region_held3 (fun w' => w'.cell? ⟨p, 0, none⟩ = some (.string ⟨D.toArray⟩) ∧ w'.cell? ⟨p, 1, none⟩ = some (.slice A2 N.length cap2))
                ((refine HG.out _ ?_; with_reducible (first | exact hB6 | exact HBD.out | fail)))
                ((go_at_call 45; refine (HSGN.out _ HBD.out).mono ?_; rintro e w6 ⟨z6, rfl, hown6, hb6⟩; (have hB6 : Below w0.heap.size w0 w6 := HBD.out.trans (hb6.mono HBD.out.size)); (obtain ⟨A6, cap6, rfl⟩ := own_form hown6); clear hown6 hb6))
              all_goals
                obtain ⟨g0, g1⟩ := HG.out _ hB6
                go_wp2_with fail
                refine (HEN.out _ hB6).mono ?_
                rintro e w7 ⟨rfl, hb7⟩
                have hB7 := hB6.trans (hb7.mono hB6.size)
                go_wp2
                go_ret
                exact ⟨rfl, HBW.out _ hB7⟩
            · obtain ⟨hq, x, hx, hxs⟩ := Ct.some_unsigned hal
              obtain rfl : R = 70 := by rw [← HR.out]; exact Ct.check70 HTT.out HOK.out HMM.out HALL.out hx hxs
              clear hal hx hxs HEN
              unfold SgnPost at HSGN
              obtain ⟨F, hF⟩ : ∃ F, N.filter (fun s => Ct.signedBy t D T s) = F := ⟨_, rfl⟩
              rw [hF] at HSGN hq
              have hlss : ((F.length : Int) < (N.length : Int)) := by omega
              clear hF
              go_wp2
              go_region_held3 (fun w' => w'.cell? ⟨p, 0, none⟩ = some (.string ⟨D.toArray⟩) ∧ w'.cell? ⟨p, 1, none⟩ = some (.slice A2 N.length cap2))
                ((refine HG.out _ ?_; with_reducible (first | exact hB6 | exact HBD.out | fail)))
                ((go_at_call 45; refine (HSGN.out _ HBD.out).mono ?_; rintro e w6 ⟨z6, rfl, hown6, hb6⟩; (have hB6 : Below w0.heap.size w0 w6 := HBD.out.trans (hb6.mono HBD.out.size)); (obtain ⟨A6, cap6, rfl⟩ := own_form hown6); clear hown6 hb6))
              all_goals
                go_wp2
                go_ret
                exact ⟨rfl, HBW.out _ hB6⟩
end Go.Proofs.YtojpkodmpjibkaaDoor
namespace Go.Proofs.YtojpkodmpjibkaaDoor
open Go.RowKit
open Go.Proofs.YtojpkodmpjibkaaDoor.Pw (M)

theorem Pw.lastOf_succ (L : List M) (j : Nat) (h : j < L.length) : Pw.lastOf [] (L.take (j + 1)) = L[j].name := Pw.lastOf_take L j h

set_option maxRecDepth 8000 in
set_option maxHeartbeats 2000000 in
theorem rcheck_any (L : List M) (v : Value) (w : World) (hv : Mems w v L) :
    Calls Tryd.prog 47 #[v] w fun e w' => e = .returned (.int .i64 (Pw.checkC L)) ∧ Below w.heap.size w w' := by
  have HV := Lib.hid hv
  obtain ⟨A, cap, rfl, -⟩ := hv
  obtain ⟨C, hC⟩ : ∃ C, Pw.checkC L = C := ⟨_, rfl⟩
  rw [hC]
  have HC := Lib.hid hC
  clear hC
  by_cases h0 : L.length = 0
  · obtain rfl : C = 50 := by rw [← HC.out]; simp [Pw.checkC, Pw.okL, h0]
    rw [h0]
    go_enter Tryd.func47, Tryd.ntmps47
    go_wp2
    go_ret
    exact ⟨rfl, Below.refl _ _⟩
  by_cases h7 : 7 < L.length
  · obtain rfl : C = 50 := by rw [← HC.out]; simp [Pw.checkC, Pw.okL]; intros; omega
    have h0' : ¬ ((L.length : Int) < 1) := by omega
    have h7' : (7 : Int) < (L.length : Int) := by omega
    go_enter Tryd.func47, Tryd.ntmps47
    go_wp2
    go_ret
    exact ⟨rfl, Below.refl _ _⟩
  have h0' : ¬ ((L.length : Int) < 1) := by omega
  have h7' : ¬ ((7 : Int) < (L.length : Int)) := by omega
  have HL : Hid (1 ≤ L.length ∧ L.length ≤ 7) := Lib.hid (by omega)
  clear h0 h7
  go_enter Tryd.func47, Tryd.ntmps47
  go_wp2
  go_loopw [3] (fun i wr => ∃ k : Nat, k ≤ L.length ∧ i = .int .i64 k ∧ Pw.okFrom [] (L.take k) = true ∧ Below w.heap.size w wr) (fun i _ => L.length - (intOf i).toNat)
  case atStart => exact ⟨0, Nat.zero_le _, rfl, rfl, Below.refl _ _⟩
  case round =>
    obtain ⟨k, hk, rfl, hok, hb⟩ := hrel
    have HB := Lib.hid hb
    have HOK := Lib.hid hok
    clear hok hb
    by_cases hlt : k < L.length
    · have h1 : (k : Int) < (L.length : Int) := by omega
      have h0 : (0 : Int) ≤ (k : Int) := by omega
      obtain ⟨b, o, rfl, n0, n1⟩ := HV.out.at HB.out k hlt
      have HT := Lib.hid (Pw.okFrom_take L k hlt)
      have HBAD := Lib.hid (Pw.okFrom_bad L k hlt)
      have HP := Lib.hid (fun j (hj : j < L.length) => Pw.lastOf_succ L j hj)
      have HPC : Hid (∀ j (hj : j < L.length), wr.cell? ⟨b, o + j * 2, none⟩ = some (.string ⟨L[j].name.toArray⟩)) := Lib.hid (fun j hj => by
        obtain ⟨b', o', e, m0, _⟩ := HV.out.at HB.out j hj
        obtain ⟨rfl, rfl⟩ : b = b' ∧ o = o' := by simpa using e
        exact m0)
      obtain ⟨p, hp⟩ : ∃ p, Pw.lastOf [] (L.take k) = p := ⟨_, rfl⟩
      have HPP := Lib.hid hp
      obtain ⟨⟨x, q⟩, hm⟩ : ∃ m, L[k] = m := ⟨_, rfl⟩
      rw [hp, hm] at HT HBAD
      rw [hm] at n0 n1
      clear hp hm
      dsimp only at n0 n1
      have HFAIL : Hid (Pw.okM p ⟨x, q⟩ = false → C = 50) := Lib.hid (fun h => by rw [← HC.out]; simp [Pw.checkC, Pw.okL, HBAD.out h])
      by_cases hx0 : x.length < 1
      · obtain rfl : C = 50 := HFAIL.out (by
          obtain rfl : x = [] := List.eq_nil_of_length_eq_zero (by omega)
          simp [Pw.okM])
        have hx0' : (x.length : Int) < 1 := by omega
        go_wp2
        go_ret
        exact ⟨rfl, HB.out⟩
      have hx0' : ¬ ((x.length : Int) < 1) := by omega
      by_cases h6 : 6 < x.length
      · obtain rfl : C = 50 := HFAIL.out (by simp [Pw.okM]; intros; omega)
        have h6' : (6 : Int) < (x.length : Int) := by omega
        go_wp2
        go_ret
        exact ⟨rfl, HB.out⟩
      have h6' : ¬ ((6 : Int) < (x.length : Int)) := by omega
      by_cases hq1 : q < 1
      · obtain rfl : C = 50 := HFAIL.out (by simp [Pw.okM]; intros; omega)
        go_wp2
        go_ret
        exact ⟨rfl, HB.out⟩
      by_cases hq2 : 1000 < q
      · obtain rfl : C = 50 := HFAIL.out (by simp [Pw.okM]; intros; omega)
        go_wp2
        go_ret
        exact ⟨rfl, HB.out⟩
      have HM : Hid (p < x → Pw.okM p ⟨x, q⟩ = true) := Lib.hid (fun hA => by simp [Pw.okM, hA]; omega)
      have HX0 := Lib.hid hx0
      cases k with
      | zero =>
        have hA : p < x := by
          rw [← HPP.out]
          refine (Pw.lt_nil x).2 ?_
          rintro rfl
          exact HX0.out (by simp)
        have HN : Hid (Pw.okFrom [] (L.take (0 + 1)) = true) := Lib.hid (by rw [HT.out, HOK.out, HM.out hA]; rfl)
        simp only [Nat.zero_mul, Nat.add_zero] at n0 n1
        clear hA
        go_wp2
        go_quiet (fail)
        go_wp2
        go_roundw
        case rel => exact ⟨0 + 1, by omega, by go_num, HN.out, bel_drewN HB.out _⟩
        case measure => simp [intOf]; omega
      | succ j =>
        have hpj : p = (L[j]'(by omega)).name := by rw [← HPP.out]; exact HP.out j (by omega)
        have m0 := HPC.out j (by omega)
        rw [← hpj] at m0
        have hj1 : ((j + 1 : Nat) : Int) - 1 = (j : Int) := by omega
        have hjp : (0 : Int) < ((j + 1 : Nat) : Int) := by omega
        have hjl : (j : Int) < (L.length : Int) := by omega
        have hj0 : (0 : Int) ≤ (j : Int) := by omega
        clear hpj
        by_cases hA : p < x
        · have HN : Hid (Pw.okFrom [] (L.take (j + 1 + 1)) = true) := Lib.hid (by rw [HT.out, HOK.out, HM.out hA]; rfl)
          have e1 : Op.bytesLess x p = false := by rw [less_lt]; simpa using List.le_of_lt hA
          have e2 : (x == p) = false := by rw [beq_eq_false_iff_ne]; rintro rfl; exact absurd hA (List.lt_irrefl _)
          clear hA
          go_wp2
          go_quiet (fail)
          go_wp2
          go_roundw
          case rel => exact ⟨j + 1 + 1, by omega, by go_num, HN.out, bel_drewN HB.out _⟩
          case measure => simp [intOf]; omega
        · obtain rfl : C = 50 := HFAIL.out (by simp [Pw.okM, hA])
          have hle : x ≤ p := List.not_lt.1 hA
          clear hA
          rcases List.le_iff_lt_or_eq.1 hle with hA | rfl
          · have e1 : Op.bytesLess x p = true := by rw [less_lt]; simpa using hA
            clear hA hle
            go_wp2
            go_quiet (fail)
            go_wp2
            go_ret
            exact ⟨rfl, bel_drewN HB.out _⟩
          · have e1 : Op.bytesLess x x = false := by rw [less_lt]; simp
            clear hle
            go_wp2
            go_quiet (fail)
            go_wp2
            go_ret
            exact ⟨rfl, bel_drewN HB.out _⟩
    · have h1 : ¬ ((k : Int) < (L.length : Int)) := by omega
      obtain rfl : k = L.length := by omega
      obtain rfl : C = 0 := by
        rw [← HC.out]
        have := HOK.out
        rw [List.take_length] at this
        have hL := HL.out
        simp [Pw.checkC, Pw.okL, this]
        omega
      go_wp2
      go_ret
      exact ⟨rfl, HB.out⟩

set_option maxRecDepth 8000 in
set_option maxHeartbeats 1000000 in
theorem rtotal_any (L : List M) (v : Value) (w : World) (hv : Mems w v L) :
    Calls Tryd.prog 52 #[v] w fun e w' => e = .returned (.int .i64 (Pw.tot L : Nat)) ∧ Below w.heap.size w w' := by
  have HV := Lib.hid hv
  obtain ⟨A, cap, rfl, -⟩ := hv
  have HCK := Lib.hid (rcheck_any L _ w HV.out)
  cases hok : Pw.okL L with
  | false =>
    rw [Pw.checkC_bad hok] at HCK
    rw [(Pw.tot_range L).2.2 hok]
    clear hok
    go_enter Tryd.func52, Tryd.ntmps52
    go_wp2_with fail
    refine HCK.out.mono ?_
    rintro e w1 ⟨rfl, hb⟩
    go_wp2
    go_ret
    exact ⟨rfl, hb⟩
  | true =>
    rw [Pw.checkC_ok hok] at HCK
    have HR := Lib.hid (fun k => Pw.sumP_take_range hok k)
    have hl7 := (Pw.okL_len hok).2
    have HT := Lib.hid ((Pw.tot_range L).2.1 hok).2
    obtain ⟨T, hT⟩ : ∃ T, Pw.tot L = T := ⟨_, rfl⟩
    rw [hT] at HT ⊢
    clear hok hT
    go_enter Tryd.func52, Tryd.ntmps52
    go_wp2_with fail
    refine HCK.out.mono ?_
    rintro e w1 ⟨rfl, hb⟩
    have HB1 := Lib.hid hb
    clear hb
    go_wp2
    go_loopw [3, 4] (fun s i wr => ∃ k : Nat, k ≤ L.length ∧ i = .int .i64 k ∧ s = .int .i64 (Pw.sumP (L.take k)) ∧ Below w.heap.size w wr) (fun _ i _ => L.length - (intOf i).toNat)
    case atStart => exact ⟨0, Nat.zero_le _, rfl, rfl, HB1.out⟩
    case round =>
      obtain ⟨k, hk, rfl, rfl, hb⟩ := hrel
      have HB := Lib.hid hb
      clear hb
      by_cases hlt : k < L.length
      · have h1 : (k : Int) < (L.length : Int) := by omega
        have h0 : (0 : Int) ≤ (k : Int) := by omega
        obtain ⟨b, o, rfl, n0, n1⟩ := HV.out.at HB.out k hlt
        have HS := Lib.hid (Pw.sumP_take L k hlt)
        have r1 := HR.out k
        have r2 := HR.out (k + 1)
        obtain ⟨S, hS⟩ : ∃ S, Pw.sumP (L.take k) = S := ⟨_, rfl⟩
        obtain ⟨⟨x, q⟩, hm⟩ : ∃ m, L[k] = m := ⟨_, rfl⟩
        rw [hS, hm] at HS
        rw [hS] at r1 ⊢
        rw [hm] at n0 n1
        rw [HS.out] at r2
        dsimp only at n0 n1 r2
        clear hS hm
        go_wp2
        refine ⟨⟨k + 1, by omega, by go_num, by rw [HS.out], HB.out⟩, by simp [intOf]; omega⟩
      · have h1 : ¬ ((k : Int) < (L.length : Int)) := by omega
        obtain rfl : k = L.length := by omega
        go_wp2
        go_ret
        exact ⟨ret_i64 HT.out.symm, HB.out⟩

set_option maxRecDepth 8000 in
set_option maxHeartbeats 1000000 in
theorem rhas_any (N : List (List UInt8)) (u : Value) (s : List UInt8) (w : World) (hu : Strs w u N) (hlen : N.length ≤ 1000000) :
    Calls Tryd.prog 49 #[u, .string ⟨s.toArray⟩] w fun e w' => e = .returned (.bool (decide (s ∈ N))) ∧ w' = w := by
  obtain ⟨A, cap, rfl, hc⟩ := hu
  have HC := Lib.hid hc
  clear hc
  go_enter Tryd.func49, Tryd.ntmps49
  go_wp2
  go_loop [5] (fun i => ∃ k : Nat, k ≤ N.length ∧ i = .int .i64 k ∧ s ∉ N.take k) (fun i => N.length - (intOf i).toNat)
  case atStart => exact ⟨0, Nat.zero_le _, rfl, by simp⟩
  case round =>
    obtain ⟨k, hk, rfl, hn⟩ := hrel
    have HN := Lib.hid hn
    clear hn
    by_cases hlt : k < N.length
    · have h1 : (k : Int) < (N.length : Int) := by omega
      obtain ⟨a, rfl, n0⟩ := HC.out k hlt
      have HM := Lib.hid (List.getElem_mem hlt)
      have HT : Hid (s ∈ N.take (k + 1) ↔ s ∈ N.take k ∨ s = N[k]) := Lib.hid (by rw [List.take_succ_eq_append_getElem hlt, List.mem_append, List.mem_singleton])
      obtain ⟨x, hx⟩ : ∃ x, N[k] = x := ⟨_, rfl⟩
      rw [hx] at n0 HM HT
      clear hx
      by_cases e : x = s
      · subst e
        have HD : Hid (decide (x ∈ N) = true) := Lib.hid (decide_eq_true HM.out)
        go_wp2
        go_ret
        exact ⟨by rw [HD.out]; rfl, rfl⟩
      · have e1 : (x == s) = false := by rw [beq_eq_false_iff_ne]; exact e
        have HE := Lib.hid e
        clear e
        go_wp2
        go_round
        case rel => exact ⟨k + 1, by omega, by go_num, fun h => (HT.out.1 h).elim HN.out (fun e => HE.out e.symm)⟩
        case measure => simp [intOf]; omega
    · have h1 : ¬ ((k : Int) < (N.length : Int)) := by omega
      have HD : Hid (decide (s ∈ N) = false) := Lib.hid (decide_eq_false (by have := HN.out; rwa [List.take_of_length_le (by omega)] at this))
      go_wp2
      go_ret
      exact ⟨by rw [HD.out]; rfl, rfl⟩

theorem Pw.pick_take (L : List M) (N : List (List UInt8)) (k : Nat) (h : k < L.length) : Pw.sumP (Pw.pick (L.take (k + 1)) N) = if L[k].name ∈ N then Pw.sumP (Pw.pick (L.take k) N) + L[k].power else Pw.sumP (Pw.pick (L.take k) N) := by
  unfold Pw.pick
  rw [List.take_succ_eq_append_getElem h, List.filter_append, Pw.sumP_append]
  by_cases e : L[k].name ∈ N
  · rw [if_pos e]; simp [Pw.sumP, e]
  · rw [if_neg e]; simp [Pw.sumP, e]
theorem Pw.pick_take_range {L : List M} (h : Pw.okL L = true) (N : List (List UInt8)) (k : Nat) : 0 ≤ Pw.sumP (Pw.pick (L.take k) N) ∧ Pw.sumP (Pw.pick (L.take k) N) ≤ 7000 := by
  have hnn : ∀ m ∈ L.take k, 0 ≤ m.power := fun m hm => by have := (Pw.okL_mem h m (List.mem_of_mem_take hm)).2.2; omega
  have h1 := Pw.sumP_nonneg (L := Pw.pick (L.take k) N) (fun m hm => hnn m (List.mem_filter.1 hm).1)
  have h2 := Pw.sumP_filter_split (L.take k) (fun m => decide (m.name ∈ N))
  have h3 := Pw.sumP_nonneg (L := (L.take k).filter fun m => !decide (m.name ∈ N)) (fun m hm => hnn m (List.mem_filter.1 hm).1)
  have h4 := (Pw.sumP_take_range h k).2
  refine ⟨h1, ?_⟩
  unfold Pw.pick
  omega

set_option maxRecDepth 8000 in
set_option maxHeartbeats 1000000 in
theorem rof_any (L : List M) (v : Value) (N : List (List UInt8)) (u : Value) (w : World) (hv : Mems w v L) (hu : Strs w u N) (hlen : N.length ≤ 1000000) :
    Calls Tryd.prog 51 #[v, u] w fun e w' => e = .returned (.int .i64 (Pw.ofL L N : Nat)) ∧ Below w.heap.size w w' := by
  have HV := Lib.hid hv
  have HU := Lib.hid hu
  obtain ⟨A, cap, rfl⟩ := hv.form
  obtain ⟨A2, cap2, rfl, -⟩ := hu
  have HCK := Lib.hid (rcheck_any L _ w HV.out)
  cases hok : Pw.okL L with
  | false =>
    rw [Pw.checkC_bad hok] at HCK
    rw [show Pw.ofL L N = 0 by simp [Pw.ofL, hok]]
    clear hok hv
    go_enter Tryd.func51, Tryd.ntmps51
    go_wp2_with fail
    refine HCK.out.mono ?_
    rintro e w1 ⟨rfl, hb⟩
    go_wp2
    go_ret
    exact ⟨rfl, hb⟩
  | true =>
    rw [Pw.checkC_ok hok] at HCK
    have HT : Hid ((Pw.ofL L N : Nat) = Pw.sumP (Pw.pick L N)) := Lib.hid (by
      have := (Pw.pick_take_range hok N L.length).1
      rw [List.take_length] at this
      simp only [Pw.ofL, hok, if_true]; omega)
    have HR := Lib.hid (Pw.pick_take_range hok N)
    obtain ⟨T, hT⟩ : ∃ T, Pw.ofL L N = T := ⟨_, rfl⟩
    rw [hT] at HT ⊢
    have hl7 := (Pw.okL_len hok).2
    clear hT hok hv
    go_enter Tryd.func51, Tryd.ntmps51
    go_wp2_with fail
    refine HCK.out.mono ?_
    rintro e w1 ⟨rfl, hb⟩
    have HB1 := Lib.hid hb
    clear hb
    go_wp2
    go_loopw [5, 6] (fun t i wr => ∃ k : Nat, k ≤ L.length ∧ i = .int .i64 k ∧ t = .int .i64 (Pw.sumP (Pw.pick (L.take k) N)) ∧ Below w.heap.size w wr) (fun _ i _ => L.length - (intOf i).toNat)
    case atStart => exact ⟨0, Nat.zero_le _, rfl, rfl, HB1.out⟩
    case round =>
      obtain ⟨k, hk, rfl, rfl, hb⟩ := hrel
      have HB := Lib.hid hb
      clear hb HB1
      by_cases hlt : k < L.length
      · have h1 : (k : Int) < (L.length : Int) := by omega
        have h0 : (0 : Int) ≤ (k : Int) := by omega
        obtain ⟨b, o, rfl, n0, n1⟩ := HV.out.at HB.out k hlt
        have HS := Lib.hid (Pw.pick_take L N k hlt)
        have r1 := HR.out k
        have r2 := HR.out (k + 1)
        obtain ⟨S, hS⟩ : ∃ S, Pw.sumP (Pw.pick (L.take k) N) = S := ⟨_, rfl⟩
        obtain ⟨⟨x, q⟩, hm⟩ : ∃ m, L[k] = m := ⟨_, rfl⟩
        rw [hS, hm] at HS
        rw [hS] at r1 ⊢
        rw [hm] at n0 n1
        rw [HS.out] at r2
        dsimp only at n0 n1 r2 HS
        have HH := Lib.hid (rhas_any N _ x wr (HU.out.below HB.out) hlen)
        clear hS hm
        go_wp2_with fail
        refine HH.out.mono ?_
        rintro e w3 ⟨rfl, rfl⟩
        by_cases hx : x ∈ N
        · rw [if_pos hx] at r2
          have HX : Hid (Pw.sumP (Pw.pick (L.take (k + 1)) N) = S + q) := Lib.hid (by rw [HS.out, if_pos hx])
          rw [decide_eq_true hx]
          clear hx
          go_wp2
          exact ⟨⟨k + 1, by omega, by go_num, by rw [HX.out], HB.out⟩, by simp [intOf]; omega⟩
        · have HX : Hid (Pw.sumP (Pw.pick (L.take (k + 1)) N) = S) := Lib.hid (by rw [HS.out, if_neg hx])
          rw [decide_eq_false hx]
          clear hx r2
          go_wp2
          exact ⟨⟨k + 1, by omega, by go_num, by rw [HX.out], HB.out⟩, by simp [intOf]; omega⟩
      · have h1 : ¬ ((k : Int) < (L.length : Int)) := by omega
        obtain rfl : k = L.length := by omega
        go_wp2
        go_ret
        exact ⟨ret_i64 HT.out.symm, HB.out⟩
end Go.Proofs.YtojpkodmpjibkaaDoor
namespace Go.Proofs.YtojpkodmpjibkaaDoor
open Go.RowKit
open Go.Proofs.YtojpkodmpjibkaaDoor.Ora (K Sig)

namespace Ora
/-- The place of a signature, or of the first one behind it; whether it is there. -/
def atP : List Sig → K → Nat × Bool
  | [], _ => (0, false)
  | a :: r, k => if k = a.1 then (0, true) else if kLt k a.1 then (0, false) else ((atP r k).1 + 1, (atP r k).2)
theorem at_look {S : List Sig} (hS : Rising S) (k : K) : (atP S k).2 = (look S k).isSome := by
  induction S with
  | nil => rfl
  | cons a r ih =>
    obtain ⟨h1, h2⟩ := List.pairwise_cons.1 hS
    rw [atP, look]
    split
    · rfl
    · rename_i e
      split
      · rename_i l
        rw [look_none_of fun b hb q => kLt_ne (kLt_trans l (h1 b hb)) q.symm]
        rfl
      · exact ih h2
theorem at_drop (S : List Sig) (k : K) (i : Nat) (hi : i < S.length) :
    atP (S.drop i) k = if k = S[i].1 then (0, true) else if kLt k S[i].1 then (0, false) else ((atP (S.drop (i + 1)) k).1 + 1, (atP (S.drop (i + 1)) k).2) := by
  rw [List.drop_eq_getElem_cons hi, atP]
end Ora

theorem lt_of_not {a b : List UInt8} (h : ¬ b < a) (e : a ≠ b) : a < b := (List.le_iff_lt_or_eq.1 (List.not_lt.1 h)).elim id (fun q => absurd q e)

set_option maxRecDepth 8000 in
set_option maxHeartbeats 1000000 in
theorem rAt_any (S : List Sig) (v : Value) (k : K) (w : World) (hv : Sgs w v S) (hl : S.length ≤ 1000000) :
    Calls Tryd.prog 71 #[v, .string ⟨k.1.toArray⟩, .string ⟨k.2.toArray⟩] w fun e w' => e = .returned (.tuple #[.int .i64 ((Ora.atP S k).1 : Nat), .bool (Ora.atP S k).2]) ∧ w' = w := by
  obtain ⟨u, m⟩ := k
  have HV := Lib.hid hv
  obtain ⟨A, cap, rfl, -⟩ := hv.form
  obtain ⟨⟨P, T⟩, hP⟩ : ∃ z, Ora.atP S (u, m) = z := ⟨_, rfl⟩
  have HP := Lib.hid hP
  rw [hP]
  dsimp only
  clear hv hP
  go_enter Tryd.func71, Tryd.ntmps71
  go_wp2
  go_loopw [8] (fun i wr => ∃ i0 : Nat, i0 ≤ S.length ∧ i = .int .i64 i0 ∧ Hid (P = i0 + (Ora.atP (S.drop i0) (u, m)).1 ∧ T = (Ora.atP (S.drop i0) (u, m)).2) ∧ wr = w) (fun i _ => S.length - (intOf i).toNat)
  case atStart => exact ⟨0, Nat.zero_le _, rfl, Lib.hid (by rw [List.drop_zero, HP.out]; simp), rfl⟩
  case round =>
    obtain ⟨i, hi, rfl, HA, rfl⟩ := hrel
    by_cases hlt : i < S.length
    · have h1 : (i : Int) < (S.length : Int) := by omega
      have h0 : (0 : Int) ≤ (i : Int) := by omega
      obtain ⟨b, o, rfl, c0, c1, -⟩ := HV.out.at (Below.refl _ wr) i hlt
      have HD := Lib.hid (Ora.at_drop S (u, m) i hlt)
      obtain ⟨⟨⟨x, d⟩, h⟩, hs⟩ : ∃ s, S[i] = s := ⟨_, rfl⟩
      rw [hs] at c0 c1 HD
      dsimp only at c0 c1 HD
      clear hs
      by_cases ex : x = u
      · have e1 : (x == u) = true := by simpa using ex
        by_cases ed : d = m
        · have e2 : (d == m) = true := by simpa using ed
          have hPT : P = i ∧ T = true := by
            have := HA.out
            rw [HD.out, if_pos (by rw [ex, ed])] at this
            simpa using this
          obtain ⟨rfl, rfl⟩ := hPT
          clear ex ed
          go_wp2
          go_ret2
          exact ⟨rfl, rfl⟩
        · have e2 : (d == m) = false := by simpa using ed
          have e3 : Op.bytesLess x u = false := by rw [less_lt, ex]; simp
          by_cases el : m < d
          · have e4 : Op.bytesLess d m = false := by rw [less_lt]; simpa using List.le_of_lt el
            have hPT : P = i ∧ T = false := by
              have := HA.out
              rw [HD.out, if_neg (fun q => ed (by cases q; rfl)), if_pos ((Ora.kLt_iff _ _).2 (Or.inr ⟨ex.symm, el⟩))] at this
              simpa using this
            obtain ⟨rfl, rfl⟩ := hPT
            clear ex ed el
            go_wp2
            go_ret2
            exact ⟨rfl, rfl⟩
          · have e4 : Op.bytesLess d m = true := by rw [less_lt, decide_eq_true_eq]; exact lt_of_not el ed
            have HA' : Hid (P = i + 1 + (Ora.atP (S.drop (i + 1)) (u, m)).1 ∧ T = (Ora.atP (S.drop (i + 1)) (u, m)).2) := Lib.hid (by
              have := HA.out
              rw [HD.out, if_neg (fun q => ed (by cases q; rfl)), if_neg (fun q => by rcases (Ora.kLt_iff _ _).1 q with q | ⟨_, q⟩; (· dsimp only at q; rw [ex] at q; exact List.lt_irrefl _ q); (· exact el q))] at this
              exact ⟨by rw [this.1]; omega, this.2⟩)
            clear ex ed el
            go_wp2
            exact ⟨⟨i + 1, by omega, by go_num, HA', trivial⟩, by simp [intOf]; omega⟩
      · have e1 : (x == u) = false := by simpa using ex
        by_cases el : u < x
        · have e3 : Op.bytesLess x u = false := by rw [less_lt]; simpa using List.le_of_lt el
          have hPT : P = i ∧ T = false := by
            have := HA.out
            rw [HD.out, if_neg (fun q => ex (by cases q; rfl)), if_pos ((Ora.kLt_iff _ _).2 (Or.inl el))] at this
            simpa using this
          obtain ⟨rfl, rfl⟩ := hPT
          clear ex el
          go_wp2
          go_ret2
          exact ⟨rfl, rfl⟩
        · have e3 : Op.bytesLess x u = true := by rw [less_lt, decide_eq_true_eq]; exact lt_of_not el ex
          have HA' : Hid (P = i + 1 + (Ora.atP (S.drop (i + 1)) (u, m)).1 ∧ T = (Ora.atP (S.drop (i + 1)) (u, m)).2) := Lib.hid (by
            have := HA.out
            rw [HD.out, if_neg (fun q => ex (by cases q; rfl)), if_neg (fun q => by rcases (Ora.kLt_iff _ _).1 q with q | ⟨q, _⟩; (· exact el q); (· exact ex q.symm))] at this
            exact ⟨by rw [this.1]; omega, this.2⟩)
          clear ex el
          go_wp2
          exact ⟨⟨i + 1, by omega, by go_num, HA', trivial⟩, by simp [intOf]; omega⟩
    · have h1 : ¬ ((i : Int) < (S.length : Int)) := by omega
      obtain rfl : i = S.length := by omega
      have hPT : P = S.length ∧ T = false := by
        have := HA.out
        rw [List.drop_length] at this
        simpa [Ora.atP] using this
      obtain ⟨rfl, rfl⟩ := hPT
      go_wp2
      go_ret2
      exact ⟨rfl, rfl⟩

set_option maxRecDepth 8000 in
set_option maxHeartbeats 400000 in
theorem rSigned_any (S : List Sig) (v : Value) (k : K) (w : World) (hv : Sgs w v S) (hS : Ora.Rising S) (hl : S.length ≤ 1000000) :
    Calls Tryd.prog 50 #[v, .string ⟨k.1.toArray⟩, .string ⟨k.2.toArray⟩] w fun e w' => e = .returned (.bool (Ora.look S k).isSome) ∧ w' = w := by
  have HA := Lib.hid (rAt_any S v k w hv hl)
  rw [Ora.at_look hS] at HA
  obtain ⟨P, hP⟩ : ∃ P, (Ora.atP S k).1 = P := ⟨_, rfl⟩
  obtain ⟨T, hT⟩ : ∃ T, (Ora.look S k).isSome = T := ⟨_, rfl⟩
  rw [hP, hT] at HA
  rw [hT]
  clear hv hP hT
  go_enter Tryd.func50, Tryd.ntmps50
  go_wp2_with fail
  refine HA.out.mono ?_
  rintro e w1 ⟨rfl, rfl⟩
  go_wp2
  go_ret
  exact ⟨rfl, rfl⟩

end Go.Proofs.YtojpkodmpjibkaaDoor
