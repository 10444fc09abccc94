/- The law ExecOnce, walked. -/
import Derived.Test.YtlckcfpdiigjiaaDoorPk15
import Derived.Test.YtlckcfpdiigjiaaDoorPk16
namespace Go.Proofs.YtlckcfpdiigjiaaDoor
open Go.RowKit
open Sto (T St)
open Go.Proofs.YtlckcfpdiigjiaaDoor.Pw (M)
open Go.Proofs.YtlckcfpdiigjiaaDoor.Txn (X)
open Go.Proofs.YtlckcfpdiigjiaaDoor.Exc (A)
theorem TrAt.root_ne {w : World} {g : Nat} {S : St} (h : TrAt w g S) (hne : S ≠ []) : rootS S ≠ [] := by
  obtain ⟨top, t, h1, h2, h3⟩ := h
  unfold rootS
  rw [treeS_of h3]
  have hn : ¬ t.isNil := fun e => by
    have ht := h3.tree.2.2
    rw [Tri.isNil_eq e] at ht
    have h5 := congrArg List.length ht
    simp [Tri.Tr.items, Tri.paths] at h5
    exact hne (List.eq_nil_of_length_eq_zero h5.symm)
  exact h3.ok.sum_ne hn
theorem Exc.done_ne {S R : St} {x : X} (hS : Sto.Rising S) (h : Exc.doP S x = (R, 0)) : R ≠ [] := fun e => by
  have hd := Exc.do_done h
  have hl : Sto.look R (Exc.aK x.frm) = some (Exc.valS (Exc.kindP S x (Exc.acc S x.frm).1 (Exc.acc S x.dst).1).2.2 (x.seq + 1)) := by rw [hd.put, Tri.look_put _ _ _ _ (hd.amt hS).1, if_pos rfl]
  rw [e] at hl
  cases hl
set_option maxRecDepth 100000 in
set_option maxHeartbeats 16000000 in
theorem execOnce_walk (C : List A) (N : List M) (I : St) (za zm zi : Value) (L : List X) (v : Value) (w : World) (ha : AccIn w za C) (hm : Mems w zm N) (hi : ItIn w zi I) (lC : C.length ≤ maxLen) (lN : N.length ≤ maxLen) (lI : I.length ≤ maxLen) (hu : Txs w v L) (lL : L.length ≤ maxLen) (hT : Tab w) :
    Calls Tryd.prog 4 #[.agg #[za, zm, zi], v] w fun r w' => r = .returned (.bool true) ∧ Below w.heap.size w w' := by
  obtain ⟨w0, hw0, hb0, rs⟩ := start_box za zm zi w
  have HB0 := Lib.hid hb0
  have HTB := Lib.hid hT
  obtain ⟨q0, hq0⟩ : ∃ q, w.heap.size = q := ⟨_, rfl⟩
  rw [hq0] at rs
  have HQ0 := Lib.hid hq0
  have HW0 := Lib.hid hw0
  have HS0 := Lib.hid rs
  have HWK := Lib.hid (eworks_any w0 (hT.below hb0))
  have HGE : Hid (∀ w', Below w.heap.size w w' → Calls Tryd.prog 7 #[.agg #[za, zm, zi]] w' (GPost C N w')) := Lib.hid (fun w' h => egen_any C N za zm zi w' (RowsIn.below ha h) (hm.below h) (hT.below h))
  have HBG : Hid (∀ w', Below w.heap.size w w' → Calls Tryd.prog 8 #[.agg #[za, zm, zi], v] w' (EBigPost w' C N I L)) := Lib.hid (fun w' h => ebig_any C N I L za zm zi v w' (RowsIn.below ha h) (hm.below h) (RowsIn.below hi h) (hu.below h) lC lN lI lL)
  have HUU : Hid (∀ w', Below w.heap.size w w' → Txs w' v L) := Lib.hid (fun w' h => hu.below h)
  have HGG := Lib.hid (fun h => Exc.genP_good (L := C) (set := N) h)
  unfold GPost at HGE
  unfold EBigPost at HBG
  obtain ⟨⟨S, c⟩, hS⟩ : ∃ p, Exc.genP C N = p := ⟨_, rfl⟩
  rw [hS] at HGE HGG
  dsimp only at HGE HGG
  obtain ⟨A1, cap1, rfl, -, -⟩ := RowsIn.form ha
  obtain ⟨A2, cap2, rfl⟩ := hm.form
  obtain ⟨A3, cap3, rfl, -, -⟩ := RowsIn.form hi
  obtain ⟨Au, capu, rfl⟩ := hu.form
  clear ha hm hi lC lN lI hu lL hT hb0 rs hq0 hw0 hS
  go_enter Tryd.func4, Tryd.ntmps4
  go_upto_region 1 with fail
  try rw [HW0.out]
  try rw [HQ0.out]
  go_wp2_with fail
  refine HWK.out.mono ?_
  rintro r w1 ⟨rfl, hb⟩
  have HB1 := Lib.hid (bchain HB0.out hb)
  have HS1 := Lib.hid (HS0.out.below hb)
  clear hb
  obtain ⟨p0, p1, p2⟩ := HS1.out.cells
  go_wp2_with fail
  refine (HGE.out _ HB1.out).mono ?_
  rintro r w2 ⟨z, rfl, h1, h2, hb⟩
  obtain ⟨pz, rfl⟩ := tri_form h1 h2
  have HZ1 := Lib.hid h1
  have HZ2 : Hid (c ≠ 0 → pz = none) := Lib.hid (fun h => by have := h2 h; unfold nilp at this; injection this)
  clear h1 h2 p0 p1 p2
  have HB2 := Lib.hid (bchain HB1.out hb)
  have HS2 := Lib.hid (HS1.out.below hb)
  clear hb
  obtain ⟨p0, p1, p2⟩ := HS2.out.cells
  go_wp2_with fail
  refine (HBG.out _ HB2.out).mono ?_
  rintro r w3 ⟨bb, rfl, hfit, hb⟩
  have HFIT := Lib.hid hfit
  have HZ3 : Hid (c = 0 → ∃ g, Value.pointer pz = ptr g ∧ TrAt w3 g S) := Lib.hid (fun h => by obtain ⟨g, e, h2⟩ := HZ1.out h; exact ⟨g, e, h2.below hb⟩)
  clear hfit HZ1 p0 p1 p2
  have HB3 := Lib.hid (bchain HB2.out hb)
  have HS3 := Lib.hid (HS2.out.below hb)
  clear hb
  cases bb with
  | true =>
    go_wp2
    go_ret
    exact ⟨rfl, HB3.out⟩
  | false =>
  have HFI := Lib.hid (HFIT.out rfl)
  clear HFIT
  by_cases hc : c = 0
  case neg =>
    obtain rfl := HZ2.out hc
    clear hc
    go_wp2
    go_ret
    exact ⟨rfl, HB3.out⟩
  subst hc
  obtain ⟨g, hg, ht⟩ := HZ3.out rfl
  have HT3 := Lib.hid ht
  obtain ⟨hri, hgd, hln⟩ := HGG.out rfl
  have HRI := Lib.hid hri
  have HGD := Lib.hid hgd
  have HLN := Lib.hid hln
  unfold ptr at hg
  rw [hg]
  clear hg ht hri hgd hln HZ2 HZ3 HGG HGE HBG
  go_wp2
  go_loopw [5, 28] (fun tv iv wr => ∃ (k g : Nat) (S : St), tv = .pointer (some ⟨g, 0, none⟩) ∧ iv = .int .i64 k ∧ k ≤ L.length ∧ TrAt wr g S ∧ Below w.heap.size w wr) (fun _ iv _ => L.length - (intOf iv).toNat)
  case atStart => exact ⟨0, g, S, rfl, rfl, Nat.zero_le _, HT3.out, HB3.out⟩
  case round =>
    obtain ⟨k, g, S, rfl, rfl, hk, ht, hb⟩ := hrel
    have HT4 := Lib.hid ht
    have HB4 := Lib.hid hb
    have HRI := Lib.hid ht.rise
    clear ht hb HT3
    by_cases hlt : k < L.length
    · have h1 : (k : Int) < (L.length : Int) := by omega
      have h0 : (0 : Int) ≤ (k : Int) := by omega
      have hk9 : (k : Int) ≤ 20 := by have := HFI.out.nL; omega
      obtain ⟨b, o, zx, hA, ca, hma⟩ := (HUU.out _ HB4.out).at k hlt
      subst hA
      obtain ⟨x, hx⟩ : ∃ x, L[k] = x := ⟨_, rfl⟩
      rw [hx] at ca hma
      clear hx
      obtain ⟨Az, capz, rfl⟩ := hma.form
      have c0 : wr.cell? ⟨b, o + k * 8, none⟩ = some (.int .i64 x.kind) := ca 0 _ rfl
      have c1 := ca 1 _ rfl
      have c2 := ca 2 _ rfl
      have c3 := ca 3 _ rfl
      have c4 := ca 4 _ rfl
      have c5 := ca 5 _ rfl
      have c6 := ca 6 _ rfl
      have c7 := ca 7 _ rfl
      have HM4 := Lib.hid hma
      obtain ⟨w5, hw5, hb, rx⟩ := tx_box x (.slice Az x.mem.length capz) wr
      obtain ⟨q5, hq⟩ : ∃ q, wr.heap.size = q := ⟨_, rfl⟩
      rw [hq] at rx
      have HW5 := Lib.hid hw5
      have HQ5 := Lib.hid hq
      have HX5 := Lib.hid rx
      clear ca hma hw5 hq rx
      have HB5 := Lib.hid (bchain HB4.out hb)
      have HT5 := Lib.hid (HT4.out.below hb)
      have HM5 := Lib.hid (HM4.out.below hb)
      clear hb
      go_upto_region 9 with fail
      try rw [HW5.out]
      try rw [HQ5.out]
      clear c0 c1 c2 c3 c4 c5 c6 c7
      have HRT := Lib.hid (fun w' h => sroot_any (g := g) (S := S) w' h)
      unfold ptr at HRT
      obtain ⟨R0, hR0⟩ : ∃ R, rootS S = R := ⟨_, rfl⟩
      rw [hR0] at HRT
      clear hR0
      go_wp2_with fail
      refine (HRT.out _ HT5.out).mono ?_
      rintro r w6 ⟨rfl, hb⟩
      have HB6 := Lib.hid (bchain HB5.out hb)
      have HT6 := Lib.hid (HT5.out.below hb)
      have HM6 := Lib.hid (HM5.out.below hb)
      have HX6 := Lib.hid (HX5.out.below hb)
      clear hb
      have HDO := Lib.hid (fun w' h h2 h3 => edo_any (g := g) S x (.slice Az x.mem.length capz) w' h h2 h3)
      have HAG := Lib.hid (fun R (h : Exc.doP S x = (R, 0)) => Exc.do_again HRI.out h)
      have HNE := Lib.hid (fun R (h : Exc.doP S x = (R, 0)) => Exc.done_ne HRI.out h)
      obtain ⟨⟨R, c⟩, hR⟩ : ∃ p, Exc.doP S x = p := ⟨_, rfl⟩
      rw [hR] at HDO HAG HNE
      dsimp only at HDO
      unfold xval ptr at HDO
      clear hR
      obtain ⟨a0, a1, a2, a3, a4, a5, a6, a7⟩ := HX6.out.cells
      go_wp2_with fail
      refine (HDO.out _ HT6.out (HTB.out.below HB6.out) HM6.out).mono ?_
      rintro r w7 ⟨zo, rfl, h1, h2, hb⟩
      obtain ⟨po, rfl⟩ := tri_form h1 h2
      have HZ1 := Lib.hid h1
      have HZ2 : Hid (c ≠ 0 → po = none) := Lib.hid (fun h => by have := h2 h; unfold nilp at this; injection this)
      clear h1 h2 a0 a1 a2 a3 a4 a5 a6 a7
      have HB7 := Lib.hid (bchain HB6.out hb)
      have HT7 := Lib.hid (HT6.out.below hb)
      have HM7 := Lib.hid (HM6.out.below hb)
      have HX7 := Lib.hid (HX6.out.below hb)
      clear hb
      obtain ⟨a0, a1, a2, a3, a4, a5, a6, a7⟩ := HX7.out.cells
      by_cases hc : c = 0
      case pos =>
        subst hc
        obtain ⟨g', hg', hr'⟩ := HZ1.out rfl
        have HR7 := Lib.hid hr'
        unfold ptr at hg'
        rw [hg']
        clear hg' hr' HZ1 HZ2
        have HD2 := Lib.hid (edo_any (g := g') R x (.slice Az x.mem.length capz) w7 HR7.out (HTB.out.below HB7.out) HM7.out)
        rw [HAG.out R rfl] at HD2
        unfold xval ptr at HD2
        dsimp only at HD2
        have HRN := Lib.hid (HR7.out.root_ne (HNE.out R rfl))
        go_wp2_with fail
        refine HD2.out.mono ?_
        rintro r w8 ⟨zo, rfl, -, h2, hb⟩
        obtain rfl := h2 (by decide)
        clear h2 a0 a1 a2 a3 a4 a5 a6 a7
        have HB8 := Lib.hid (bchain HB7.out hb)
        have HR8 := Lib.hid (HR7.out.below hb)
        clear hb
        have HRX := Lib.hid (sroot_any (g := g') (S := R) w8 HR8.out)
        unfold ptr at HRX
        obtain ⟨Z, hZ⟩ : ∃ Z, rootS R = Z := ⟨_, rfl⟩
        rw [hZ] at HRX HRN
        clear hZ
        have s1 : (Z == []) = false := beq_eq_false_iff_ne.2 HRN.out
        go_wp2_with fail
        refine HRX.out.mono ?_
        rintro r w9 ⟨rfl, hb⟩
        have HB9 := Lib.hid (bchain HB8.out hb)
        have HR9 := Lib.hid (HR8.out.below hb)
        clear hb
        go_wp2
        go_roundw
        case rel => exact ⟨k + 1, g', R, rfl, by go_num, by omega, HR9.out, HB9.out⟩
        case measure => simp [intOf]; omega
      obtain rfl := HZ2.out hc
      have s1 : (c == 0) = false := beq_eq_false_iff_ne.2 hc
      clear hc HZ1 HZ2
      go_wp2_with fail
      refine (HDO.out _ HT7.out (HTB.out.below HB7.out) HM7.out).mono ?_
      rintro r w8 ⟨zo, rfl, h1, h2, hb⟩
      obtain ⟨p2, rfl⟩ := tri_form h1 h2
      clear h1 h2 a0 a1 a2 a3 a4 a5 a6 a7
      have HB8 := Lib.hid (bchain HB7.out hb)
      have HT8 := Lib.hid (HT7.out.below hb)
      clear hb
      have s2 : (c != c) = false := bne_self_eq_false _
      have s3 : (R0 != R0) = false := bne_self_eq_false _
      have s4 : (R0 == R0) = true := beq_self_eq_true _
      go_wp2_with fail
      refine (HRT.out _ HT8.out).mono ?_
      rintro r w9 ⟨rfl, hb⟩
      have HB9 := Lib.hid (bchain HB8.out hb)
      have HT9 := Lib.hid (HT8.out.below hb)
      clear hb
      go_wp2
      go_roundw
      case rel => exact ⟨k + 1, g, S, rfl, by go_num, by omega, HT9.out, HB9.out⟩
      case measure => simp [intOf]; omega
    · have h1 : ¬ ((k : Int) < (L.length : Int)) := by omega
      go_wp2
      go_ret
      exact ⟨rfl, HB4.out⟩
theorem execOnce_law (za : Value) (C : List A) (zm : Value) (N : List M) (zi : Value) (I : St) (v : Value) (L : List X) (w : World) (ha : AccIn w za C) (hC : C.length ≤ maxLen ∧ ∀ a ∈ C, (Lit.int .i64 a.amt).wf = true ∧ (Lit.int .i64 a.seq).wf = true) (hm : Mems w zm N) (hN : N.length * 24 ≤ reachBytes) (hi : ItIn w zi I) (hI : I.length ≤ maxLen) (hu : Txs w v L) (hL : L.length ≤ maxLen) (_ : ∀ x ∈ L, OkX x) (hT : Tab w) :
    Calls Tryd.prog 4 #[.agg #[za, zm, zi], v] w fun r w' => r = .returned (.bool true) ∧ Below w.heap.size w w' :=
  execOnce_walk C N I za zm zi L v w ha hm hi hC.1 (by unfold maxLen; unfold reachBytes at hN; omega) hI hu hL hT
end Go.Proofs.YtlckcfpdiigjiaaDoor
