/- ExecRefAll, ExecOwn, ExecGen -/
import Derived.Test.YtlckcfpdiigjiaaGreatDoorPk20
import Derived.Test.YtlckcfpdiigjiaaGreatDoorPk18
import Derived.Test.YtlckcfpdiigjiaaGreatDoorPk07
import Derived.Test.YtlckcfpdiigjiaaGreatDoorPk16
import Derived.Test.YtlckcfpdiigjiaaGreatDoorPk19
import Derived.Test.YtlckcfpdiigjiaaGreatDoorPk04
import Derived.Test.YtlckcfpdiigjiaaGreatDoorPk02
namespace Go.Proofs.YtlckcfpdiigjiaaGreatDoor
open Go.RowKit
open Sto (T St)
open Go.Proofs.YtlckcfpdiigjiaaGreatDoor.Pw (M)
open Go.Proofs.YtlckcfpdiigjiaaGreatDoor.Txn (X)
open Go.Proofs.YtlckcfpdiigjiaaGreatDoor.Exc (Rc Al)

theorem Exc.fines_take {L : List X} {k : Nat} (hk : k < L.length) (h : Txn.fines (L.take k) = true) : Txn.fines (L.take (k + 1)) = Txn.fine L[k] := by
  rw [List.take_succ_eq_append_getElem hk]
  unfold Txn.fines at h ⊢
  rw [List.all_append, h]
  simp
theorem own_keep {G : Nat → Prop} {w w' : World} {B : Nat} {e : TypeId} {z : Nat} {s : Value} {n : Nat} {xs : List Value} (h : w.ownsRow B e z s n xs) (ho : Out G w w') (hd : ∀ k, s.ownBlock = some k → ¬ G k) : w'.ownsRow B e z s n xs := by
  refine ⟨h.1, ?_⟩
  rcases h.2 with hn | ⟨k, cap, cur, hv, hb, hk, hr⟩
  · exact Or.inl hn
  · exact Or.inr ⟨k, cap, cur, hv, hb, ho.heap hk (hd k (by rw [hv]; rfl)), hr⟩
theorem own_typ {w : World} {B : Nat} {e T : TypeId} {z : Nat} {s : Value} {n : Nat} {xs : List Value} (h : w.ownsRow B e z s n xs) (hT : e ≠ T) : ∀ k cs f, s.ownBlock = some k → w.heap[k]? ≠ some (.cells cs T f) := by
  intro k cs f hk
  rcases h.2 with ⟨hn, _⟩ | ⟨j, cap, cur, hv, hb, hj, hr⟩
  · rw [hn] at hk; cases hk
  · rw [hv] at hk
    cases hk
    exact fun e2 => typ_no hj hT e2
/-- A state, receipts, members in block q. -/
def DoneAt (w : World) (q : Nat) (zs zr zn : Value) : Prop := w.heap[q]? = some (.cells #[zs, zr, zn] 38 (0, 0))
theorem DoneAt.below {w w' : World} {q : Nat} {zs zr zn : Value} (h : DoneAt w q zs zr zn) (hb : Below w.heap.size w w') : DoneAt w' q zs zr zn := (hb.block q (lt_of_heap h)).trans h
theorem DoneAt.cells {w : World} {q : Nat} {zs zr zn : Value} (h : DoneAt w q zs zr zn) : w.cell? ⟨q, 0, none⟩ = some zs ∧ w.cell? ⟨q, 1, none⟩ = some zr ∧ w.cell? ⟨q, 2, none⟩ = some zn :=
  ⟨by rw [cell_of_row _ _ 0 _ _ _ h]; rfl, by rw [cell_of_row _ _ 1 _ _ _ h]; rfl, by rw [cell_of_row _ _ 2 _ _ _ h]; rfl⟩
theorem DoneAt.free {w : World} {q : Nat} {zs zr zn : Value} (h : DoneAt w q zs zr zn) (i : Nat) : w.frozen? ⟨q, i, none⟩ = false := frozen_of_row _ _ _ _ _ h
theorem DoneAt.set0 {w : World} {q : Nat} {zs zr zn : Value} (h : DoneAt w q zs zr zn) (u : Value) : DoneAt (w.setCell ⟨q, 0, none⟩ u) q u zr zn := by
  have := heap_setCell_same _ _ 0 _ _ u h
  simpa [DoneAt] using this
theorem DoneAt.set1 {w : World} {q : Nat} {zs zr zn : Value} (h : DoneAt w q zs zr zn) (u : Value) : DoneAt (w.setCell ⟨q, 1, none⟩ u) q zs u zn := by
  have := heap_setCell_same _ _ 1 _ _ u h
  simpa [DoneAt] using this
theorem DoneAt.set2 {w : World} {q : Nat} {zs zr zn : Value} (h : DoneAt w q zs zr zn) (u : Value) : DoneAt (w.setCell ⟨q, 2, none⟩ u) q zs zr u := by
  have := heap_setCell_same _ _ 2 _ _ u h
  simpa [DoneAt] using this
theorem done_box (zs zr zn : Value) (w : World) : ∃ w0, w.alloc (.cells #[zs, zr, zn] 38) = w0 ∧ Below w.heap.size w w0 ∧ DoneAt w0 w.heap.size zs zr zn :=
  ⟨_, rfl, (Below.refl _ w).alloc (Nat.le_refl _) _, heap_alloc_new w _⟩
set_option maxRecDepth 100000 in
theorem sizeDone : (Tryz.prog.info? 38).map (·.size) = some 3 := by kernel_rfl
set_option maxRecDepth 100000 in
theorem infoRc : (Tryz.prog.info? 78).map (fun i => (i.zero, i.size, i.bytes)) = some (some (.agg #[.int .i64 0, .string ⟨#[]⟩, .int .i64 0]), 3, 32) := by kernel_rfl
theorem ret_done {fn : Func} {p u : Tmp} (h : fn.results = #[.cell p 38, .tmp u]) (tmps : Array Value) (w : World) (q : Nat) {zs zr zn : Value} (hp : tmps.getD p undef = .pointer (some ⟨q, 0, none⟩)) (hx : DoneAt w q zs zr zn) :
    (results fn tmps).run Tryz.prog w = .ok (.tuple #[.agg #[zs, zr, zn], tmps.getD u undef]) w :=
  results_c1t h tmps w q _ _ (0, 0) _ hp hx Tryz.underlying38 rfl sizeDone
/-- What All answers. -/
def RAllPost (S : St) (L : List X) (w : World) (e : Ending) (w' : World) : Prop := ∃ zs zr zn, e = .returned (.tuple #[.agg #[zs, zr, zn], .int .i64 (Exc.allC L)]) ∧
  ItAt w' zs (if Exc.allC L = 0 then (Exc.runA ⟨S, [], []⟩ L).st else []) ∧ RcAt w' zr (if Exc.allC L = 0 then (Exc.runA ⟨S, [], []⟩ L).rc else []) ∧ Mems w' zn (if Exc.allC L = 0 then (Exc.runA ⟨S, [], []⟩ L).nx else []) ∧ Below w.heap.size w w'
theorem rallPost_bad {S : St} {L : List X} {w w' : World} {c : Int} (h : Exc.allC L = c) (hc : c ≠ 0) (hb : Below w.heap.size w w') : RAllPost S L w (.returned (.tuple #[.agg #[.slice none 0 0, .slice none 0 0, .slice none 0 0], .int .i64 c])) w' :=
  ⟨_, _, _, by rw [h], by rw [h, if_neg hc]; exact RowsAt.nil _ _ _ _, by rw [h, if_neg hc]; exact RowsAt.nil _ _ _ _, by rw [h, if_neg hc]; exact Mems.nil _, hb⟩
theorem Exc.allC_long {L : List X} (h : 8 < L.length) : Exc.allC L = 2 := if_pos h
theorem Exc.allC_ok {L : List X} (h : L.length ≤ 8) (hf : Txn.fines L = true) : Exc.allC L = 0 := by unfold Exc.allC; rw [if_neg (by omega), if_neg (by rw [hf]; decide)]
theorem Exc.allC_bad {L : List X} {k : Nat} (h : L.length ≤ 8) (hk : k < L.length) (hf : Txn.fine L[k] = false) : Exc.allC L = 150 := by
  unfold Exc.allC
  rw [if_neg (by omega), if_pos]
  rw [← Bool.not_eq_true]
  intro hh
  have := List.all_eq_true.1 hh L[k] (List.getElem_mem hk)
  rw [hf] at this
  cases this
set_option maxRecDepth 100000 in
set_option maxHeartbeats 8000000 in
theorem rall_long (S : St) (v u : Value) (L : List X) (w : World) (hu : Txs w u L) (h8 : 8 < L.length) :
    Calls Tryz.prog 10 #[v, u] w (RAllPost S L w) := by
  obtain ⟨Au, capu, rfl⟩ := hu.form
  have p1 : decide ((8 : Int) < (L.length : Int)) = true := decide_eq_true (by omega)
  have HE := Lib.hid (Exc.allC_long h8)
  have hq : DoneAt (w.alloc (.cells #[.slice none 0 0, .slice none 0 0, .slice none 0 0] 38)) w.heap.size (.slice none 0 0) (.slice none 0 0) (.slice none 0 0) := heap_alloc_new w _
  have HQ := Lib.hid hq
  have HB := Lib.hid ((Below.refl w.heap.size w).alloc (Nat.le_refl _) (.cells #[.slice none 0 0, .slice none 0 0, .slice none 0 0] 38))
  clear h8 hq hu
  go_enter Tryz.func10, Tryz.ntmps10
  go_wp2
  exact bodyPost_ret (ret_done rfl _ _ w.heap.size rfl HQ.out) rfl (rallPost_bad HE.out (by decide) HB.out)
/-- Behind k of them. -/
structure AllR (S : St) (L : List X) (q : Nat) (w w6 ws : World) (k : Nat) (zs zr zn : Value) : Prop where
  bel : Below q w6 ws
  don : DoneAt ws q zs zr zn
  st : ItAt ws zs (Exc.runA ⟨S, [], []⟩ (L.take k)).st
  rc : ws.ownsRow (q + 1) 78 3 zr k (rowsL rccl (Exc.runA ⟨S, [], []⟩ (L.take k)).rc)
  nx : Mems w zn (Exc.runA ⟨S, [], []⟩ (L.take k)).nx
theorem AllR.of {S : St} {L : List X} {q : Nat} {w w6 ws ws' : World} {k : Nat} {zs zr zn a b c : Value} {D : Al} (hb : Below q w6 ws) (ho : Only q ws ws') (hq : q ≤ ws.heap.size) (hd : DoneAt ws q a b c) (hd' : DoneAt ws' q zs zr zn)
    (hrun : Exc.runA ⟨S, [], []⟩ (L.take k) = D) (st : ItAt ws zs D.st) (rc : ws.ownsRow (q + 1) 78 3 zr k (rowsL rccl D.rc)) (nx : Mems w zn D.nx) : AllR S L q w w6 ws' k zs zr zn := by
  subst hrun
  exact ⟨hb.trans (ho.below (Nat.le_refl _) hq), hd', RowsAt.outF st (F := fun k => k = q) ho.out (fun k cs fl hk e => by rw [hk] at e; exact typ_no hd (by decide) e), own_keep (G := fun k => k = q) rc ho.out (fun j hj e => by have := (rc.lt j hj).1; omega), nx⟩
set_option maxRecDepth 100000 in
set_option maxHeartbeats 8000000 in
theorem rall_any (S : St) (v u : Value) (L : List X) (w : World) (hv : ItAt w v S) (hl : S.length ≤ 8000) (hS : Sto.Rising S) (hsm : Exc.Small S) (hu : Txs w u L) :
    Calls Tryz.prog 10 #[v, u] w (RAllPost S L w) := by
  by_cases h8 : 8 < L.length
  · exact rall_long S v u L w hu h8
  obtain ⟨i0, hi, hz0, hz1, hz2⟩ := info_parts infoRc
  obtain ⟨w0, hw0, hb0, rd⟩ := done_box (.slice none 0 0) (.slice none 0 0) (.slice none 0 0) w
  obtain ⟨q0, hq0⟩ : ∃ q0, w.heap.size = q0 := ⟨_, rfl⟩
  rw [hq0] at rd
  have HQ0 := Lib.hid hq0
  have HD0 := Lib.hid rd
  have HB0 := Lib.hid hb0
  have HV := Lib.hid hv
  have HU := Lib.hid hu
  have HL := Lib.hid hl
  have HS := Lib.hid hS
  have HSM := Lib.hid hsm
  have H8 : Hid (L.length ≤ 8) := Lib.hid (by omega)
  have p1 : decide ((8 : Int) < (L.length : Int)) = false := decide_eq_false (by omega)
  obtain ⟨Av, capv, rfl, -, -⟩ := hv.form
  obtain ⟨Au, capu, rfl⟩ := Txs.form hu
  clear h8 hv hu hl hS hsm rd
  go_enter Tryz.func10, Tryz.ntmps10
  go_upto_region 3 with fail
  try rw [hw0]
  try rw [HQ0.out]
  clear hw0 hb0 hq0
  go_wp2_with fail
  go_loopw [6] (fun i wr => ∃ k : Nat, i = .int .i64 k ∧ k ≤ L.length ∧ Txn.fines (L.take k) = true ∧ Below w0.heap.size w0 wr) (fun i _ => L.length - (intOf i).toNat)
  case atStart => exact ⟨0, rfl, Nat.zero_le _, rfl, Below.refl _ _⟩
  case round =>
    obtain ⟨k, rfl, hk, hfin, hb⟩ := hrel
    have HF := Lib.hid hfin
    have HB := Lib.hid hb
    have HBW := Lib.hid (bchain HB0.out hb)
    have HB' := Lib.hid hb
    clear hfin hb
    by_cases hlt : k < L.length
    · have h1 : (k : Int) < (L.length : Int) := by omega
      have h0 : (0 : Int) ≤ (k : Int) := by omega
      have hk8 : (k : Int) ≤ 8 := by have := H8.out; omega
      obtain ⟨b, o, zx, hA, ca, hma⟩ := (HU.out.below HBW.out).at k hlt
      subst hA
      have HFT := Lib.hid (Exc.fines_take hlt HF.out)
      have HBD : Hid (Txn.fine L[k] = false → Exc.allC L = 150) := Lib.hid (fun h => Exc.allC_bad H8.out hlt h)
      obtain ⟨x, hx⟩ : ∃ x, L[k] = x := ⟨_, rfl⟩
      rw [hx] at ca hma HFT HBD
      clear hx
      obtain ⟨Az, capz, rfl⟩ := hma.form
      have c0 : wr.cell? ⟨b, o + k * 8, none⟩ = some (.int .i64 x.kind) := ca 0 _ rfl
      have c1 := ca 1 _ rfl
      have c2 := ca 2 _ rfl
      have c3 := ca 3 _ rfl
      have c4 := ca 4 _ rfl
      have c5 := ca 5 _ rfl
      have c6 := ca 6 _ rfl
      have c7 := ca 7 _ rfl
      have HFI := Lib.hid (rFine_any x _ wr hma)
      unfold xval at HFI
      clear ca hma
      cases hf : Txn.fine x with
      | false =>
        have HE := Lib.hid (HBD.out hf)
        rw [hf] at HFI
        clear hf HFT HBD
        go_wp2_with fail
        refine HFI.out.mono ?_
        rintro r w3 ⟨rfl, hb3⟩
        have HD3 := Lib.hid (HD0.out.below (bchain HB.out hb3))
        have HB3 := Lib.hid (bchain HBW.out hb3)
        clear hb3 c0 c1 c2 c3 c4 c5 c6 c7
        obtain ⟨d0, d1, d2⟩ := HD3.out.cells
        have u0 := HD3.out.free 0
        have u1 := HD3.out.free 1
        have u2 := HD3.out.free 2
        go_wp2
        exact bodyPost_ret (ret_done rfl _ _ q0 rfl (((HD3.out.set0 _).set1 _).set2 _)) rfl (rallPost_bad HE.out (by decide) (HB3.out.trans (((((Only.refl q0 w3).setCell (p := ⟨q0, 0, none⟩) rfl _).setCell (p := ⟨q0, 1, none⟩) rfl _).setCell (p := ⟨q0, 2, none⟩) rfl _).below (Nat.le_of_eq HQ0.out) HB3.out.size)))
      | true =>
        rw [hf] at HFI
        rw [hf] at HFT
        clear hf HBD
        go_wp2_with fail
        refine HFI.out.mono ?_
        rintro r w2 ⟨rfl, hb2⟩
        have HB2 := Lib.hid (bchain HB.out hb2)
        clear hb2 c0 c1 c2 c3 c4 c5 c6 c7
        go_wp2
        go_roundw
        case rel => exact ⟨k + 1, by go_num, by omega, HFT.out, HB2.out⟩
        case measure => simp [intOf]; omega
    · have h1 : ¬ ((k : Int) < (L.length : Int)) := by omega
      obtain rfl : k = L.length := by omega
      rw [List.take_length] at HF
      have HE := Lib.hid (Exc.allC_ok H8.out HF.out)
      obtain ⟨w6, e6⟩ : ∃ w6, w6 = wr := ⟨_, rfl⟩
      subst e6
      obtain ⟨w7, hw7, hb7, rd⟩ := done_box (.slice Av S.length capv) (.slice none 0 0) (.slice none 0 0) w6
      obtain ⟨q7, hq7⟩ : ∃ q, w6.heap.size = q := ⟨_, rfl⟩
      rw [hq7] at rd hb7
      have HQ7 := Lib.hid hq7
      have HA7 : Hid (AllR S L q7 w w6 w7 0 (.slice Av S.length capv) (.slice none 0 0) (.slice none 0 0)) := Lib.hid ⟨hb7, rd, RowsAt.below (RowsAt.below HV.out HBW.out) (by rw [hq7]; exact hb7), World.ownsRow_nil _ _ _ _, Mems.nil _⟩
      have HW7 := Lib.hid hw7
      clear hk h1 rd hb7 hw7 hq7
      go_upto_region 9 with fail
      try rw [HW7.out]
      try rw [HQ7.out]
      go_wp2_with fail
      go_loopw [8] (fun i ws => ∃ (k : Nat) (zs zr zn : Value), i = .int .i64 k ∧ k ≤ L.length ∧ AllR S L q7 w w6 ws k zs zr zn) (fun i _ => L.length - (intOf i).toNat)
      case atStart => exact ⟨0, _, _, _, rfl, Nat.zero_le _, HA7.out⟩
      case round =>
        obtain ⟨k, zs, zr, zn, rfl, hk, hR⟩ := hrel
        obtain ⟨As, caps, rfl, -, -⟩ := RowsAt.form hR.st
        obtain ⟨Ar, capr, rfl⟩ := own_form hR.rc
        obtain ⟨An, capn, rfl⟩ := hR.nx.form
        have HR := Lib.hid hR
        clear hR
        have HB : Hid (Below w6.heap.size w6 wr) := Lib.hid (by rw [HQ7.out]; exact HR.out.bel)
        have HWR : Hid (Below w.heap.size w wr) := Lib.hid (bchain HBW.out HB.out)
        by_cases hlt : k < L.length
        · have h1 : (k : Int) < (L.length : Int) := by omega
          have h0 : (0 : Int) ≤ (k : Int) := by omega
          have hk8 : (k : Int) ≤ 8 := by have := H8.out; omega
          obtain ⟨b, o, zx, hA, ca, hma⟩ := HU.out.at k hlt
          subst hA
          have HSN := Lib.hid (Exc.run_snoc ⟨S, [], []⟩ L k hlt)
          have hst : (Exc.runA ⟨S, [], []⟩ (L.take k)).st.length ≤ 9000 := by
            have h := Exc.run_len ⟨S, [], []⟩ (L.take k)
            have := HL.out
            have := H8.out
            simp only [List.length_take] at h
            omega
          have hri := Exc.run_rise (d := ⟨S, [], []⟩) HS.out (L.take k)
          have hsm := Exc.run_small (d := ⟨S, [], []⟩) HS.out HSM.out (L.take k)
          obtain ⟨x, hx⟩ : ∃ x, L[k] = x := ⟨_, rfl⟩
          rw [hx] at ca hma HSN
          clear hx
          obtain ⟨Az, capz, rfl⟩ := hma.form
          have up : ∀ {p : Addr} {t : Value}, w.cell? p = some t → wr.cell? p = some t := fun c => (HWR.out.cell (World.block_lt_of_cell? _ _ c)).trans c
          have c0 : wr.cell? ⟨b, o + k * 8, none⟩ = some (.int .i64 x.kind) := up (ca 0 _ rfl)
          have c1 := up (ca 1 _ rfl)
          have c2 := up (ca 2 _ rfl)
          have c3 := up (ca 3 _ rfl)
          have c4 := up (ca 4 _ rfl)
          have c5 := up (ca 5 _ rfl)
          have c6 := up (ca 6 _ rfl)
          have c7 := up (ca 7 _ rfl)
          have HMW := Lib.hid hma
          obtain ⟨w1, hw1, hb1, rx⟩ := tx_box x (.slice Az x.mem.length capz) wr
          obtain ⟨q9, hq9⟩ : ∃ q, wr.heap.size = q := ⟨_, rfl⟩
          rw [hq9] at rx
          have HW1 := Lib.hid hw1
          have HQ9 := Lib.hid hq9
          have HX1 := Lib.hid rx
          have HD1 := Lib.hid (HR.out.don.below hb1)
          have HDO := Lib.hid (rdo_any _ _ x (.slice Az x.mem.length capz) w1 (RowsAt.below HR.out.st hb1) hst hri hsm (hma.below (bchain HWR.out hb1)))
          have HB1 : Hid (Below wr.heap.size wr w1) := Lib.hid hb1
          have HRC := Lib.hid (show wr.ownsRow (q7 + 1) 78 3 (.slice Ar k capr) k (rowsL rccl (Exc.runA ⟨S, [], []⟩ (L.take k)).rc) from HR.out.rc)
          have HNXM := Lib.hid HR.out.nx
          have HST := Lib.hid HR.out.st
          have HBEL := Lib.hid HR.out.bel
          have HDW := Lib.hid (lt_of_heap HR.out.don)
          unfold RDoPost at HDO
          unfold xval at HDO
          clear ca hma hst hri hsm hw1 hq9 hb1 rx
          obtain ⟨D, hD⟩ : ∃ D, Exc.runA ⟨S, [], []⟩ (L.take k) = D := ⟨_, rfl⟩
          rw [hD] at HDO HRC HNXM HST HSN HD1
          try simp only [hD]
          clear HR
          go_upto_region 13 with fail
          try rw [HW1.out]
          try rw [HQ9.out]
          clear c0 c1 c2 c3 c4 c5 c6 c7
          obtain ⟨x0, x1, x2, x3, x4, x5, x6, x7⟩ := HX1.out.cells
          have d0 := HD1.out.cells.1
          go_wp2_with fail
          refine HDO.out.mono ?_
          rintro r w2 ⟨zo, rfl, hio, hb2⟩
          obtain ⟨Ao, capo, rfl, -, -⟩ := RowsAt.form hio
          have HB2 := Lib.hid (bchain HB1.out hb2)
          have HD2 := Lib.hid (HD1.out.below hb2)
          have HX2 := Lib.hid (HX1.out.below hb2)
          have HRC2 := Lib.hid (own_keep (G := fun _ => False) HRC.out (Out.of HB2.out) (fun _ _ h => h))
          have HIO := Lib.hid hio
          have HST2 := Lib.hid (RowsAt.below HST.out HB2.out)
          obtain ⟨⟨R, c⟩, hRc⟩ : ∃ p, Exc.doP D.st x = p := ⟨_, rfl⟩
          have HSTEP : Hid (Exc.stepA D x = ⟨if c = 0 then R else D.st, D.rc ++ [⟨c, x.frm, x.seq⟩], if c = 0 ∧ x.kind = 4 then x.mem else D.nx⟩) := Lib.hid (by unfold Exc.stepA; rw [hRc])
          rw [hRc] at HIO
          rw [hRc]
          dsimp only at HIO ⊢
          have HQ7lt : Hid (q7 < wr.heap.size ∧ q7 < w2.heap.size ∧ q7 ≠ q9) := Lib.hid (by have h1 := lt_of_heap HD1.out; have h2 := lt_of_heap HD2.out; have h3 := HQ9.out; have h4 := (HBEL.out).size; have h5 := lt_of_heap HX1.out; have h6 := HQ7.out; have h7 := HDW.out; omega)
          have HRL := Lib.hid (HRC.out.lt)
          have HOUT : Hid (∀ w4 o, (w2.alloc o).grownBy w4 (Value.slice Ar k capr).ownBlock → Out (fun j => (Value.slice Ar k capr).ownBlock = some j) w2 w4) := Lib.hid (fun w4 o h => (Out.of ((Below.refl _ w2).alloc (Nat.le_refl _) _)).trans (Out.grown h (F := fun j => (Value.slice Ar k capr).ownBlock = some j) (fun j e => e)))
          have HDN : Hid (∀ w4 o, (w2.alloc o).grownBy w4 (Value.slice Ar k capr).ownBlock → DoneAt w4 q7 (.slice As D.st.length caps) (.slice Ar k capr) (.slice An D.nx.length capn)) := Lib.hid (fun w4 o h => (HOUT.out w4 o h).heap HD2.out (fun e => by have := (HRL.out q7 e).1; omega))
          have HXN : Hid (∀ w4 o, (w2.alloc o).grownBy w4 (Value.slice Ar k capr).ownBlock → TxAt w4 q9 x (.slice Az x.mem.length capz)) := Lib.hid (fun w4 o h => (HOUT.out w4 o h).heap HX2.out (fun e => by have := (HRL.out q9 e).2; have := HQ9.out; omega))
          have HSN2 : Hid (∀ w4 o, (w2.alloc o).grownBy w4 (Value.slice Ar k capr).ownBlock → ItAt w4 (.slice As D.st.length caps) D.st ∧ ItAt w4 (.slice Ao R.length capo) R) := Lib.hid (fun w4 o h => ⟨RowsAt.outF HST2.out (HOUT.out w4 o h) (fun j cs fl e => own_typ HRC2.out (by decide) j cs fl e), RowsAt.outF HIO.out (HOUT.out w4 o h) (fun j cs fl e => own_typ HRC2.out (by decide) j cs fl e)⟩)
          clear hio hb2 hRc x0 x1 x2 x3 x4 x5 x6 x7 d0
          have d1 := HD2.out.cells.2.1
          have x1 := HX2.out.cells.2.1
          have x2 := HX2.out.cells.2.2.1
          go_upto_region 15 with (at_builtin; refine wpList_append_lies _ rfl _ _ _ rfl (q7 + 1) 78 i0 (.agg #[.int .i64 0, .string ⟨#[]⟩, .int .i64 0]) 3 32 Tryz.underlying33 hi hz0 hz1 hz2 rfl (by decide) (.slice Ar k capr) k (rowsL rccl D.rc) (by rfl) (World.ownsRow.alloc HRC2.out _) ⟨w2.heap.size, 0, none⟩ 1 1 (rccl ⟨c, x.frm, x.seq⟩) (by rfl) rfl (World.news_of_block (heap_new_at _ _ _ rfl)) (by simp [rccl, Value.oneCell']) (by decide) (by have := H8.out; unfold maxLen; omega) (by have := H8.out; omega) (by have := HQ7lt.out.2; simp; omega) (w2.heap.size + 1) (by simp) ?_; intro g' cap' w4 hown4 hgr4 hat4 hlt4; have e1 := (HDN.out w4 _ hgr4).cells.2.1; have v1 := (HDN.out w4 _ hgr4).free 1)
          have HD4 := Lib.hid (HDN.out w4 _ hgr4)
          have HX4 := Lib.hid (HXN.out w4 _ hgr4)
          obtain ⟨hi4, hj4⟩ := HSN2.out w4 _ hgr4
          have HST4 := Lib.hid hi4
          have HIO4 := Lib.hid hj4
          have HO4 := Lib.hid (HOUT.out w4 _ hgr4)
          have HOW4 := Lib.hid hown4
          have HBE4 : Hid (Below q7 w6 w4) := Lib.hid (HBEL.out.trans (((Out.of (F := fun j => q7 ≤ j) HB2.out).trans (HO4.out.mono (fun j _ h => by have := (HRL.out j h).1; omega))).below (fun j h => h) (Nat.le_of_lt HQ7lt.out.1)))
          have hq4 := lt_of_heap HD4.out
          have HQ4 := Lib.hid (Nat.le_of_lt hq4)
          have HRW : Hid (rowsL rccl D.rc ++ rccl ⟨c, x.frm, x.seq⟩ = rowsL rccl (D.rc ++ [⟨c, x.frm, x.seq⟩])) := Lib.hid (by rw [rowsL_append]; simp [rowsL])
          rw [HRW.out] at HOW4
          have HD5 := Lib.hid (HD4.out.set1 (.slice (some ⟨g', 0, none⟩) (k + 1) cap'))
          have HO5 := Lib.hid ((Only.refl q7 w4).setCell (p := ⟨q7, 1, none⟩) rfl (.slice (some ⟨g', 0, none⟩) (k + 1) cap'))
          obtain ⟨w5, hw5⟩ : ∃ w5, w4.setCell ⟨q7, 1, none⟩ (.slice (some ⟨g', 0, none⟩) (k + 1) cap') = w5 := ⟨_, rfl⟩
          rw [hw5] at HD5 HO5
          try rw [hw5]
          have HX5 : Hid (TxAt w5 q9 x (.slice Az x.mem.length capz)) := Lib.hid ((HO5.out.block q9 (lt_of_heap HX4.out) (fun h => HQ7lt.out.2.2 h.symm)).trans HX4.out)
          clear hw5 e1 v1 d1 x1 x2 hi4 hj4 hown4 hgr4 hat4 hlt4 hq4
          by_cases hc0 : c = 0
          case neg =>
            have s1 : (c != 0) = true := by rw [bne_iff_ne]; exact hc0
            have HREL : Hid (AllR S L q7 w w6 w5 (k + 1) (.slice As D.st.length caps) (.slice (some ⟨g', 0, none⟩) (k + 1) cap') (.slice An D.nx.length capn)) := Lib.hid (AllR.of HBE4.out HO5.out HQ4.out HD4.out HD5.out (HSN.out.trans (HSTEP.out.trans (show _ = (⟨D.st, D.rc ++ [⟨c, x.frm, x.seq⟩], D.nx⟩ : Al) from by rw [if_neg hc0, if_neg (fun h => hc0 h.1)]))) HST4.out HOW4.out HNXM.out)
            clear hc0
            go_wp2
            go_roundw
            case rel => exact ⟨k + 1, _, _, _, by go_num, by omega, HREL.out⟩
            case measure => simp [intOf]; omega
          subst hc0
          have s1 : ((0 : Int) != 0) = false := rfl
          have HA5 : Hid (Below q7 w6 w5 ∧ ItAt w5 (.slice Ao R.length capo) R ∧ w5.ownsRow (q7 + 1) 78 3 (.slice (some ⟨g', 0, none⟩) (k + 1) cap') (k + 1) (rowsL rccl (D.rc ++ [⟨0, x.frm, x.seq⟩]))) := Lib.hid
            (⟨HBE4.out.trans (HO5.out.below (Nat.le_refl _) HQ4.out), RowsAt.outF HIO4.out (F := fun k => k = q7) HO5.out.out (fun k cs fl hk e => by rw [hk] at e; exact typ_no HD4.out (by decide) e), own_keep (G := fun k => k = q7) HOW4.out HO5.out.out (fun j hj e => by have := (HOW4.out.lt j hj).1; omega)⟩)
          obtain ⟨hb5, hi5, ho5⟩ := HA5.out
          have HBE5 := Lib.hid hb5
          have HIO5 := Lib.hid hi5
          have HOW5 := Lib.hid ho5
          have HQ5 := Lib.hid (Nat.le_of_lt (lt_of_heap HD5.out))
          clear hb5 hi5 ho5
          have t0 := HD5.out.cells.1
          have v0 := HD5.out.free 0
          go_upto_region 17 with fail
          have HD8 := Lib.hid (HD5.out.set0 (.slice Ao R.length capo))
          have HO8 := Lib.hid ((Only.refl q7 w5).setCell (p := ⟨q7, 0, none⟩) rfl (.slice Ao R.length capo))
          obtain ⟨w8, hw8⟩ : ∃ w8, w5.setCell ⟨q7, 0, none⟩ (.slice Ao R.length capo) = w8 := ⟨_, rfl⟩
          rw [hw8] at HD8 HO8
          try rw [hw8]
          have HX8 : Hid (TxAt w8 q9 x (.slice Az x.mem.length capz)) := Lib.hid ((HO8.out.block q9 (lt_of_heap HX5.out) (fun h => HQ7lt.out.2.2 h.symm)).trans HX5.out)
          clear hw8 t0 v0
          have x0 := HX8.out.cells.1
          by_cases hk4 : x.kind = 4
          case neg =>
            have s2 : (x.kind == 4) = false := beq_eq_false_iff_ne.2 hk4
            have HREL : Hid (AllR S L q7 w w6 w8 (k + 1) (.slice Ao R.length capo) (.slice (some ⟨g', 0, none⟩) (k + 1) cap') (.slice An D.nx.length capn)) := Lib.hid (AllR.of HBE5.out HO8.out HQ5.out HD5.out HD8.out (HSN.out.trans (HSTEP.out.trans (show _ = (⟨R, D.rc ++ [⟨0, x.frm, x.seq⟩], D.nx⟩ : Al) from by rw [if_pos rfl, if_neg (fun h => hk4 h.2)]))) HIO5.out HOW5.out HNXM.out)
            clear hk4
            go_wp2
            go_roundw
            case rel => exact ⟨k + 1, _, _, _, by go_num, by omega, HREL.out⟩
            case measure => simp [intOf]; omega
          have s2 : (x.kind == 4) = true := beq_iff_eq.2 hk4
          have HA8 : Hid (Below q7 w6 w8 ∧ ItAt w8 (.slice Ao R.length capo) R ∧ w8.ownsRow (q7 + 1) 78 3 (.slice (some ⟨g', 0, none⟩) (k + 1) cap') (k + 1) (rowsL rccl (D.rc ++ [⟨0, x.frm, x.seq⟩]))) := Lib.hid
            ⟨HBE5.out.trans (HO8.out.below (Nat.le_refl _) HQ5.out), RowsAt.outF HIO5.out (F := fun k => k = q7) HO8.out.out (fun k cs fl hk e => by rw [hk] at e; exact typ_no HD5.out (by decide) e), own_keep (G := fun k => k = q7) HOW5.out HO8.out.out (fun j hj e => by have := (HOW5.out.lt j hj).1; omega)⟩
          have HO9 := Lib.hid ((Only.refl q7 w8).setCell (p := ⟨q7, 2, none⟩) rfl (.slice Az x.mem.length capz))
          have HREL : Hid (AllR S L q7 w w6 (w8.setCell ⟨q7, 2, none⟩ (.slice Az x.mem.length capz)) (k + 1) (.slice Ao R.length capo) (.slice (some ⟨g', 0, none⟩) (k + 1) cap') (.slice Az x.mem.length capz)) := Lib.hid (AllR.of HA8.out.1 HO9.out (Nat.le_of_lt (lt_of_heap HD8.out)) HD8.out (HD8.out.set2 _) (HSN.out.trans (HSTEP.out.trans (show _ = (⟨R, D.rc ++ [⟨0, x.frm, x.seq⟩], x.mem⟩ : Al) from by rw [if_pos rfl, if_pos ⟨rfl, hk4⟩]))) HA8.out.2.1 HA8.out.2.2 HMW.out)
          clear hk4
          have x7 := HX8.out.cells.2.2.2.2.2.2.2
          have t2 := HD8.out.cells.2.2
          have v2 := HD8.out.free 2
          go_wp2
          go_roundw
          case rel => exact ⟨k + 1, _, _, _, by go_num, by omega, HREL.out⟩
          case measure => simp [intOf]; omega
        · have h1 : ¬ ((k : Int) < (L.length : Int)) := by omega
          obtain rfl : k = L.length := by omega
          have HD := Lib.hid HR.out.don
          have HOB : Hid (q0 < q7) := Lib.hid (by have := lt_of_heap (HD0.out.below HB'.out); have := HQ7.out; omega)
          have HDq : Hid (DoneAt wr q0 (.slice none 0 0) (.slice none 0 0) (.slice none 0 0)) := Lib.hid ((HD0.out.below HB'.out).below HB.out)
          have HAL : Hid (Exc.allC L = 0) := HE
          have hR := HR.out
          obtain ⟨zs, hzs⟩ : ∃ z : Value, .slice As (Exc.runA ⟨S, [], []⟩ (L.take L.length)).st.length caps = z := ⟨_, rfl⟩
          obtain ⟨zr, hzr⟩ : ∃ z : Value, .slice Ar L.length capr = z := ⟨_, rfl⟩
          obtain ⟨zn, hzn⟩ : ∃ z : Value, .slice An (Exc.runA ⟨S, [], []⟩ (L.take L.length)).nx.length capn = z := ⟨_, rfl⟩
          have HFIN : Hid (∀ wz, Only q0 wr wz → RAllPost S L w (.returned (.tuple #[.agg #[zs, zr, zn], .int .i64 0])) wz) := Lib.hid (fun wz hO => by
            rw [hzs, hzr, hzn] at hR
            have h1 := hR.st
            have h2 := hR.rc
            have h3 := hR.nx
            rw [List.take_length] at h1 h2 h3
            have hbz : Below w.heap.size w wz := HWR.out.trans (hO.below (Nat.le_of_eq HQ0.out) HWR.out.size)
            have hrl := Exc.run_rc ⟨S, [], []⟩ L
            refine ⟨zs, zr, zn, by rw [HAL.out], ?_, ?_, ?_, hbz⟩
            · rw [if_pos HAL.out]
              exact RowsAt.outF h1 (F := fun k => k = q0) hO.out (fun k cs fl hk e => by rw [hk] at e; exact typ_no HDq.out (by decide) e)
            · rw [if_pos HAL.out]
              refine RowsAt.own rccl_len (B := q7 + 1) ?_
              rw [show (Exc.runA ⟨S, [], []⟩ L).rc.length = L.length by rw [hrl]; simp]
              exact own_keep (G := fun k => k = q0) h2 hO.out (fun j hj e => by have := (h2.lt j hj).1; have := HOB.out; omega)
            · rw [if_pos HAL.out]
              exact h3.below hbz)
          rw [← hzs, ← hzr, ← hzn] at HFIN
          rw [List.take_length] at HFIN
          clear hR hzs hzr hzn
          obtain ⟨d0, d1, d2⟩ := HD.out.cells
          obtain ⟨f0, f1, f2⟩ := HDq.out.cells
          have u0 := HDq.out.free 0
          have u1 := HDq.out.free 1
          have u2 := HDq.out.free 2
          go_wp2
          refine bodyPost_ret (ret_done rfl _ _ q0 rfl (((HDq.out.set0 _).set1 _).set2 _)) rfl ?_
          exact HFIN.out _ ((((Only.refl q0 wr).setCell (p := ⟨q0, 0, none⟩) rfl _).setCell (p := ⟨q0, 1, none⟩) rfl _).setCell (p := ⟨q0, 2, none⟩) rfl _)
end Go.Proofs.YtlckcfpdiigjiaaGreatDoor
namespace Go.Proofs.YtlckcfpdiigjiaaGreatDoor
open Go.RowKit
open Sto (T St)
open Go.Proofs.YtlckcfpdiigjiaaGreatDoor.Pw (M)
open Go.Proofs.YtlckcfpdiigjiaaGreatDoor.Txn (X)
open Go.Proofs.YtlckcfpdiigjiaaGreatDoor.Exc (Rc Al)

/-- A slice of things, whatever its capacity. -/
def RowsW {α : Type} (c : Nat) (f : α → List Value) (w : World) (v : Value) (S : List α) : Prop :=
  ∃ (A : Option Addr) (cap : Nat), v = .slice A S.length cap ∧ (0 < S.length → ∃ b o, A = some ⟨b, o, none⟩ ∧ b < w.heap.size ∧ ∀ i (h : i < S.length) j u, (f S[i])[j]? = some u → w.cell? ⟨b, o + i * c + j, none⟩ = some u)
theorem append_rowsW {α : Type} {f : α → List Value} {c : Nat} {w : World} {v s : Value} {S : List α} {B n : Nat} {xs : List Value} (sty ty : TypeId) (i0 : TypeInfo) (z : Value) (by_ : Nat)
    (hu : Tryz.prog.underlying sty = some (.slice ty)) (hsz : ∀ w, (sizeOf ty).run Tryz.prog w = .ok c w)
    (hi : Tryz.prog.info? ty = some i0) (hz0 : i0.zero = some z) (hz1 : i0.size = c) (hz2 : i0.bytes = by_) (hz : z.cells.size = c) (hc0 : 0 < c) (hby : by_ ≤ 1000)
    (hf : ∀ a, (f a).length = c) (h1 : ∀ a, ∀ u ∈ f a, u.oneCell' = true)
    (hv : RowsW c f w v S) (hs : w.ownsRow B ty c s n xs) (hl : n + S.length ≤ 1000000) (hB : B ≤ w.heap.size) :
    ∃ v' w', (Builtin.append_ #[sty, sty] sty #[s, v]).run Tryz.prog w = .ok v' w' ∧ w'.ownsRow B ty c v' (n + S.length) (xs ++ rowsL f S) ∧ w.grownBy w' s.ownBlock ∧ (v'.ownBlock = s.ownBlock ∨ v'.ownBlock = some w.heap.size) := by
  obtain ⟨A, cap, rfl, hc⟩ := hv
  cases A with
  | none =>
    have h0 : S.length = 0 := by
      by_cases h : S.length = 0
      · exact h
      · obtain ⟨b, o, ha, _⟩ := hc (by omega)
        cases ha
    obtain rfl : S = [] := List.eq_nil_of_length_eq_zero h0
    exact ⟨s, w, run_append_nothing_rows sty ty hu hsz w s n cap B xs hs _, by simpa [rowsL] using hs, ⟨rfl, rfl, rfl, Nat.le_refl _, fun _ _ _ => rfl⟩, Or.inl rfl⟩
  | some a =>
    have hbytes : (n + S.length) * by_ ≤ 140737488355328 := Nat.le_trans (Nat.mul_le_mul hl hby) (by omega)
    obtain ⟨v', w', h1, h2, h3, _, h5⟩ := run_append_own_at (P := Tryz.prog) w B sty sty ty i0 z c by_ hu hi hz0 hz1 hz2 hz hc0 s n xs hs a S.length cap (rowsL f S) (rowsL_length hf S)
      (fun j u hu => by
        have hj : j < S.length * c := by
          have := (List.getElem?_eq_some_iff.1 hu).1
          rwa [rowsL_length hf] at this
        have hS : 0 < S.length := Nat.pos_of_ne_zero fun e => by rw [e, Nat.zero_mul] at hj; omega
        obtain ⟨b, o, hb, _, hcell⟩ := hc hS
        cases hb
        have hi' : j / c < S.length := (Nat.div_lt_iff_lt_mul hc0).2 hj
        have hr : j % c < c := Nat.mod_lt _ hc0
        have hjj : j / c * c + j % c = j := by rw [Nat.mul_comm]; exact Nat.div_add_mod j c
        have e := rowsL_at hf S (j / c) (j % c) hi' hr
        rw [hjj, hu] at e
        have := hcell (j / c) hi' (j % c) u e.symm
        rw [Addr.add_mid]
        rw [Nat.add_assoc, hjj] at this
        exact this) (rowsL_one h1 S) (by unfold maxLen; omega) hbytes hB
    exact ⟨v', w', h1, h2, h3, h5⟩
def xcE (p : X × Option Addr × Nat × Nat) : List Value := xcl p.1 (.slice p.2.1 p.2.2.1 p.2.2.2)
theorem xcE_len (p : X × Option Addr × Nat × Nat) : (xcE p).length = 8 := rfl
theorem xcE_one (p : X × Option Addr × Nat × Nat) : ∀ u ∈ xcE p, u.oneCell' = true := by
  intro u hu
  simp only [xcE, xcl, List.mem_cons, List.not_mem_nil, or_false] at hu
  rcases hu with rfl | rfl | rfl | rfl | rfl | rfl | rfl | rfl <;> rfl
set_option maxRecDepth 100000 in
theorem infoTxp : (Tryz.prog.info? 46).map (fun i => (i.zero, i.size, i.bytes)) = some (some (.agg #[.int .i64 0, .string ⟨#[]⟩, .int .i64 0, .string ⟨#[]⟩, .int .i64 0, .string ⟨#[]⟩, .string ⟨#[]⟩, .slice none 0 0]), 8, 112) := by kernel_rfl
/-- 'append([]api.Tx{}, l...)'. -/
theorem own_txs {w : World} {v : Value} {L : List X} (hv : Txs w v L) (hl : L.length ≤ 1000) :
    ∃ v' w', (Builtin.append_ #[27, 27] 27 #[.slice (some ⟨w.heap.size, 0, none⟩) 0 0, v]).run Tryz.prog (w.alloc (.cells #[] 46)) = .ok v' w' ∧ Txs w' v' L ∧ Below w.heap.size w w' := by
  have hA : Below w.heap.size w (w.alloc (.cells #[] 46)) := (Below.refl _ w).alloc (Nat.le_refl _) _
  obtain ⟨A, cap, rfl, hc⟩ := hv
  have key : ∀ i, i < L.length → ∃ p : X × Option Addr × Nat × Nat, L[i]? = some p.1 ∧ Mems w (.slice p.2.1 p.2.2.1 p.2.2.2) p.1.mem ∧ ∃ b o, A = some ⟨b, o, none⟩ ∧ b < w.heap.size ∧ ∀ j u, (xcE p)[j]? = some u → w.cell? ⟨b, o + i * 8 + j, none⟩ = some u := fun i hi => by
    obtain ⟨b, o, hA, hlt, hcell⟩ := hc (by omega)
    obtain ⟨z, q1, q2⟩ := hcell i hi
    obtain ⟨A2, c2, rfl⟩ := q2.form
    exact ⟨(L[i], A2, L[i].mem.length, c2), List.getElem?_eq_getElem hi, q2, b, o, hA, hlt, q1⟩
  obtain ⟨F, hF⟩ := Go.Deep.choose_lt (fun i hi => key i hi)
  obtain ⟨P, hP⟩ : ∃ P, (List.range L.length).map F = P := ⟨_, rfl⟩
  have hPl : P.length = L.length := by rw [← hP]; simp
  have hPi : ∀ i (h : i < P.length), P[i] = F i := fun i h => by subst hP; simp
  have hPL : P.map (·.1) = L := by
    apply List.ext_getElem?
    intro i
    by_cases hi : i < L.length
    · rw [List.getElem?_map, List.getElem?_eq_getElem (show i < P.length by omega), hPi]
      exact (hF i hi).1.symm
    · rw [List.getElem?_eq_none (by simp; omega), List.getElem?_eq_none (by omega)]
  have hrow : RowsW 8 xcE (w.alloc (.cells #[] 46)) (.slice A L.length cap) P := ⟨A, cap, by rw [hPl], fun h0 => by
    obtain ⟨-, -, b, o, hA2, hlt, -⟩ := hF 0 (by omega)
    refine ⟨b, o, hA2, Nat.lt_of_lt_of_le hlt hA.size, fun i hi j u hu => ?_⟩
    obtain ⟨-, -, b2, o2, hA3, -, hcell⟩ := hF i (by omega)
    obtain ⟨rfl, rfl⟩ : b = b2 ∧ o = o2 := by rw [hA2] at hA3; simpa using hA3
    rw [hPi] at hu
    exact (hA.cell hlt).trans (hcell j u hu)⟩
  have h0 : (w.alloc (.cells #[] 46)).ownsRow w.heap.size 46 8 (.slice (some ⟨w.heap.size, 0, none⟩) 0 0) 0 [] := ⟨rfl, Or.inr ⟨w.heap.size, 0, _, rfl, Nat.le_refl _, heap_alloc_new w _, by decide, by simp [maxLen], rfl, rfl⟩⟩
  obtain ⟨i0, hi, hz0, hz1, hz2⟩ := info_parts infoTxp
  obtain ⟨v', w', h1, h2, h3, -⟩ := append_rowsW 27 46 i0 _ 112 Tryz.underlying27 Tryz.sizeOf46 hi hz0 hz1 hz2 rfl (by decide) (by decide) xcE_len xcE_one hrow h0 (by omega) (by simp)
  have hb : Below w.heap.size w w' := hA.trans ((Out.grown h3 (F := fun j => (some j : Option Nat) = (Value.slice (some ⟨w.heap.size, 0, none⟩) 0 0).ownBlock) (fun j e => e.symm)).below (fun j hj => by simp [Value.ownBlock] at hj; omega) (by simp))
  rw [Nat.zero_add, List.nil_append] at h2
  refine ⟨v', w', h1, ?_, hb⟩
  rcases h2.2 with ⟨hn, hz⟩ | ⟨g, cap', cur, hv', -, hh, -⟩
  · obtain rfl : L = [] := List.eq_nil_of_length_eq_zero (by omega)
    exact ⟨none, 0, by rw [hn]; rfl, fun h => absurd h (by simp)⟩
  · refine ⟨some ⟨g, 0, none⟩, cap', by rw [hv', hPl], fun _ => ⟨g, 0, rfl, lt_of_heap hh, fun i hi => ?_⟩⟩
    obtain ⟨e1, e2, -⟩ := hF i hi
    have e3 : (F i).1 = L[i] := by rw [List.getElem?_eq_getElem hi] at e1; simpa using e1.symm
    refine ⟨.slice (F i).2.1 (F i).2.2.1 (F i).2.2.2, fun j u hu => ?_, by rw [← e3]; exact e2.below hb⟩
    have hj : j < 8 := by
      have := (List.getElem?_eq_some_iff.1 hu).1
      simpa [xcl] using this
    have h9 := World.ownsRow.cells h2 (g := g) (by rw [hv']; rfl) (i * 8 + j) u (by
      rw [rowsL_at xcE_len P i j (by omega) hj, hPi]
      unfold xcE
      rw [e3]
      exact hu)
    rw [Addr.add_mid, ← Nat.add_assoc] at h9
    exact h9
set_option maxRecDepth 8000 in
set_option maxHeartbeats 1000000 in
theorem spoilMems_own (L : List M) (s : Value) (B : Nat) (w : World) (hs : OwnM w B s L) (hl : L.length ≤ 1000000) :
    Calls Tryz.prog 13 #[s] w fun e w' => e = .returned (.tuple #[]) ∧ Below B w w' ∧ Out (fun j => s.ownBlock = some j) w w' := by
  have HS := Lib.hid hs
  obtain ⟨A, cap, rfl⟩ := own_form hs
  clear hs
  go_enter Tryz.func13, Tryz.ntmps13
  go_wp2
  go_loopw [2] (fun i wr => ∃ (k : Nat) (K : List M), k ≤ L.length ∧ i = .int .i64 k ∧ K.length = L.length ∧ OwnM wr B (.slice A L.length cap) K ∧ Below B w wr ∧ Out (fun j => (Value.slice A L.length cap).ownBlock = some j) w wr) (fun i _ => L.length - (intOf i).toNat)
  case atStart => exact ⟨0, L, Nat.zero_le _, rfl, rfl, HS.out, Below.refl _ _, Out.of (Below.refl _ _)⟩
  case round =>
    obtain ⟨k, K, hk, rfl, hK, hown, hb, hO⟩ := hrel
    by_cases hlt : k < L.length
    · have h1 : (k : Int) < (L.length : Int) := by omega
      have h0 : (0 : Int) ≤ (k : Int) := by omega
      have hown' : wr.ownsRow B 71 2 (.slice A K.length cap) K.length (mrows K) := by have := hown; unfold OwnM at this; rw [← hK] at this; exact this
      obtain ⟨g, c, hv, hBg, _, n0, n1⟩ := mrow_cells hown' k (by omega)
      obtain ⟨rfl, rfl⟩ : A = some ⟨g, 0, none⟩ ∧ cap = c := by simpa using hv
      have f0 := World.ownsRow.frozenAt hown' (k * 2)
      have f1 := World.ownsRow.frozenAt hown' (k * 2 + 1)
      have HN := Lib.hid (hown.set (show k < K.length by omega) ⟨[97, 110, 111, 116, 104, 101, 114, 32, 111, 110, 101], 0⟩)
      have HB := Lib.hid ((hb.setCell (p := ⟨g, k * 2, none⟩) hBg (.string ⟨#[97, 110, 111, 116, 104, 101, 114, 32, 111, 110, 101]⟩)).setCell (p := ⟨g, k * 2 + 1, none⟩) hBg (.int .i64 0))
      have ho2 : Only g wr ((wr.setCell ⟨g, k * 2, none⟩ (.string ⟨#[97, 110, 111, 116, 104, 101, 114, 32, 111, 110, 101]⟩)).setCell ⟨g, k * 2 + 1, none⟩ (.int .i64 0)) := ((Only.refl g wr).setCell (p := ⟨g, k * 2, none⟩) rfl _).setCell (p := ⟨g, k * 2 + 1, none⟩) rfl _
      have HO := Lib.hid (hO.trans (ho2.out.mono (fun j _ hj => by show (Value.slice (some ⟨g, 0, none⟩) L.length cap).ownBlock = some j; rw [hj]; rfl)))
      have HKL := Lib.hid hK
      obtain ⟨⟨x, q⟩, hm⟩ : ∃ m, K[k]'(by omega) = m := ⟨_, rfl⟩
      rw [hm] at n0 n1
      dsimp only at n0 n1
      clear hv hown hown' hb hm hK hO ho2
      go_wp2
      exact ⟨⟨k + 1, _, by omega, by go_num, by rw [List.length_set]; exact HKL.out, HN.out, HB.out, HO.out⟩, by simp [intOf]; omega⟩
    · have h1 : ¬ ((k : Int) < (L.length : Int)) := by omega
      have HB := Lib.hid hb
      have HO := Lib.hid hO
      clear hown hb hO
      go_wp2
      go_end0
      exact ⟨rfl, HB.out, HO.out⟩
/-- The program's All, its receipts and members in one form. -/
theorem eall_form {g : Nat} (S : St) (u : Value) (L : List X) (w : World) (ht : TrAt w g S) (hT : Tab w) (hu : Txs w u L) :
    Calls Tryz.prog 9 #[ptr g, u] w fun e w' => ∃ p Ar cr An cn, e = .returned (.tuple #[.pointer p, .slice Ar (if Exc.allC L = 0 then (Exc.runA ⟨S, [], []⟩ L).rc else []).length cr, .slice An (if Exc.allC L = 0 then (Exc.runA ⟨S, [], []⟩ L).nx else []).length cn, .int .i64 (Exc.allC L)]) ∧
      (Exc.allC L = 0 → ∃ g', p = some ⟨g', 0, none⟩ ∧ TrAt w' g' (Exc.runA ⟨S, [], []⟩ L).st) ∧ (Exc.allC L ≠ 0 → p = none) ∧
      RcIn w' (.slice Ar (if Exc.allC L = 0 then (Exc.runA ⟨S, [], []⟩ L).rc else []).length cr) (if Exc.allC L = 0 then (Exc.runA ⟨S, [], []⟩ L).rc else []) ∧ OwnM w' w.heap.size (.slice An (if Exc.allC L = 0 then (Exc.runA ⟨S, [], []⟩ L).nx else []).length cn) (if Exc.allC L = 0 then (Exc.runA ⟨S, [], []⟩ L).nx else []) ∧ Below w.heap.size w w' := by
  refine (eall_any S u L w ht hT hu).mono ?_
  rintro e w' ⟨zs, zr, zn, rfl, h1, h2, hb⟩
  by_cases hc : Exc.allC L = 0
  · obtain ⟨g', rfl, q1, q2, q3⟩ := h1 hc
    rw [if_pos hc, if_pos hc]
    obtain ⟨Ar, cr, rfl⟩ := own_form q2
    obtain ⟨An, cn, rfl⟩ := q3.mems.form
    exact ⟨_, Ar, cr, An, cn, rfl, fun _ => ⟨g', rfl, q1⟩, fun e => absurd hc e, q2.rc.inn, q3, hb⟩
  · obtain ⟨rfl, rfl, rfl⟩ := h2 hc
    rw [if_neg hc, if_neg hc]
    exact ⟨none, none, 0, none, 0, rfl, fun e => absurd e hc, fun _ => rfl, (OwnR.nil w' 0).rc.inn, OwnM.nil _ _, hb⟩
end Go.Proofs.YtlckcfpdiigjiaaGreatDoor
namespace Go.Proofs.YtlckcfpdiigjiaaGreatDoor
open Go.RowKit
open Sto (T St)
open Go.Proofs.YtlckcfpdiigjiaaGreatDoor.Pw (M)
open Go.Proofs.YtlckcfpdiigjiaaGreatDoor.Exc (A)

theorem eGen_bad {L : List A} {set : List M} {w w' : World} {c : Int} (h : Exc.genP L set = ([], c)) (hc : c ≠ 0) (hb : Below w.heap.size w w') : TEnd (Exc.genP L set).2 (Exc.genP L set).1 w (.returned (.tuple #[.pointer none, .int .i64 c])) w' := by
  rw [h]
  exact TEnd.bad hc hb
set_option maxRecDepth 100000 in
set_option maxHeartbeats 8000000 in
theorem egenesis_any (L : List A) (v : Value) (set : List M) (u : Value) (w : World) (hv : AccIn w v L) (hu : Mems w u set) (hT : Tab w) :
    Calls Tryz.prog 26 #[v, u] w (TEnd (Exc.genP L set).2 (Exc.genP L set).1 w) := by
  have HV := Lib.hid hv
  have HU := Lib.hid hu
  have HT := Lib.hid hT
  have HNW := Lib.hid (tnew_any w)
  unfold ptr at HNW
  obtain ⟨A, cap, rfl, -, -⟩ := RowsIn.form hv
  obtain ⟨Au, capu, rfl⟩ := hu.form
  clear hv hu hT
  by_cases h8 : 8 < L.length
  · have p1 : decide ((8 : Int) < (L.length : Int)) = true := decide_eq_true (by omega)
    have HE := Lib.hid (Exc.genP_long (set := set) h8)
    clear h8
    go_enter Tryz.func26, Tryz.ntmps26
    go_wp2
    go_ret2
    exact eGen_bad HE.out (by decide) (Below.refl _ _)
  have p1 : decide ((8 : Int) < (L.length : Int)) = false := decide_eq_false (by omega)
  have H8 : Hid (¬ 8 < L.length) := Lib.hid h8
  clear h8
  go_enter Tryz.func26, Tryz.ntmps26
  go_wp2_with fail
  refine HNW.out.mono ?_
  rintro r w1 ⟨g0, rfl, ht0, -, hb1⟩
  have HB1 := Lib.hid hb1
  have HT0 := Lib.hid ht0
  clear ht0 hb1
  go_wp2
  go_loopw [6, 18] (fun tv i wr => ∃ (k g : Nat) (S : St), tv = .pointer (some ⟨g, 0, none⟩) ∧ i = .int .i64 k ∧ k ≤ L.length ∧ Exc.genF [] L = Exc.genF S (L.drop k) ∧ TrAt wr g S ∧ S.length ≤ k ∧ Below w.heap.size w wr) (fun _ i _ => L.length - (intOf i).toNat)
  case atStart => exact ⟨0, g0, [], rfl, rfl, Nat.zero_le _, by rw [List.drop_zero], HT0.out, Nat.le_refl _, HB1.out⟩
  case round =>
    obtain ⟨k, g, S, rfl, rfl, hk, hg, hi, hSl, hb⟩ := hrel
    have HG := Lib.hid hg
    have HI := Lib.hid hi
    have HSL := Lib.hid hSl
    have HB := Lib.hid hb
    clear hg hi hSl hb
    by_cases hlt : k < L.length
    · have h1 : (k : Int) < (L.length : Int) := by omega
      have h0 : (0 : Int) ≤ (k : Int) := by omega
      have hk8 : (k : Int) ≤ 8 := by have := H8.out; omega
      obtain ⟨b, o, hA, ca⟩ := RowsIn.at (RowsIn.below HV.out HB.out) k hlt
      subst hA
      have HGA := Lib.hid (HG.out.trans (Exc.genF_at hlt))
      have HFA : Hid (Exc.fitA L[k] = (Txn.nameB L[k].name && Exc.wi L[k].amt && Exc.wi L[k].seq)) := Lib.hid rfl
      have HK9 : Hid (k ≤ 8) := Lib.hid (by have := H8.out; omega)
      obtain ⟨a, ha⟩ : ∃ a, L[k] = a := ⟨_, rfl⟩
      rw [ha] at ca HGA HFA
      clear ha
      have c0 : wr.cell? ⟨b, o + k * 3, none⟩ = some (.string ⟨a.name.toArray⟩) := ca 0 _ rfl
      have c1 : wr.cell? ⟨b, o + k * 3 + 1, none⟩ = some (.int .i64 a.amt) := ca 1 _ rfl
      have c2 : wr.cell? ⟨b, o + k * 3 + 2, none⟩ = some (.int .i64 a.seq) := ca 2 _ rfl
      clear ca
      obtain ⟨wa, hwa, hba, ra⟩ := acc_box a wr
      obtain ⟨q, hq⟩ : ∃ q, wr.heap.size = q := ⟨_, rfl⟩
      rw [hq] at ra
      have HWA := Lib.hid hwa
      have HQE := Lib.hid hq
      have HA := Lib.hid ra
      have HBA := Lib.hid (bchain HB.out hba)
      have HIA := Lib.hid (HI.out.below hba)
      have HTA := Lib.hid (HT.out.below (bchain HB.out hba))
      clear ra hba hwa hq
      go_upto_region 7 with fail
      try rw [HWA.out]
      try rw [HQE.out]
      clear c0 c1 c2
      obtain ⟨c0, c1, c2⟩ := HA.out.cells
      go_wp2_with fail
      refine (eisName_any a.name wa).mono ?_
      rintro r w2 ⟨rfl, hw2⟩
      obtain rfl := hw2.symm
      cases hn : Txn.nameB a.name with
      | false =>
        have HE := Lib.hid (Exc.genP_bad (set := set) (c := 1) H8.out (by decide) (HGA.out.trans (by rw [HFA.out, hn]; rfl)))
        clear hn
        go_wp2
        go_ret2
        exact eGen_bad HE.out (by decide) HBA.out
      | true =>
      go_wp2_with fail
      refine (eisAmount_any a.amt wa).mono ?_
      rintro r w2 ⟨rfl, hw2⟩
      obtain rfl := hw2.symm
      cases h2 : Exc.wi a.amt with
      | false =>
        have HE := Lib.hid (Exc.genP_bad (set := set) (c := 1) H8.out (by decide) (HGA.out.trans (by rw [HFA.out, hn, h2]; rfl)))
        clear hn h2
        go_wp2
        go_ret2
        exact eGen_bad HE.out (by decide) HBA.out
      | true =>
      go_wp2_with fail
      refine (eisAmount_any a.seq wa).mono ?_
      rintro r w2 ⟨rfl, hw2⟩
      obtain rfl := hw2.symm
      cases h3 : Exc.wi a.seq with
      | false =>
        have HE := Lib.hid (Exc.genP_bad (set := set) (c := 1) H8.out (by decide) (HGA.out.trans (by rw [HFA.out, hn, h2, h3]; rfl)))
        clear hn h2 h3
        go_wp2
        go_ret2
        exact eGen_bad HE.out (by decide) HBA.out
      | true =>
      have HVL := Lib.hid (Exc.valS_len h2 h3)
      have hnl : a.name.length ≤ 6 := by simp only [Txn.nameB, Bool.and_eq_true, decide_eq_true_eq] at hn; exact hn.2
      rw [HFA.out, hn, h2, h3, if_neg (by decide)] at HGA
      have e1 := cat_mk [97, 58] a.name
      rw [show [97, 58] ++ a.name = Exc.aK a.name from rfl] at e1
      have hg : ¬ (9223372036854775807 < 2 + a.name.length) := by omega
      have HGT := Lib.hid (tget_any (Exc.aK a.name) wa HIA.out)
      have HGC := Lib.hid (Exc.getC_acc (S := S) hn)
      have HPU : Hid (∀ w', Below wa.heap.size wa w' → Calls Tryz.prog 54 #[ptr g, accval a] w' (TEnd 0 (Tri.put S (Exc.aK a.name) (Exc.valS a.amt a.seq)) w')) := Lib.hid (fun w' h => by
        have hc := Exc.putC_few (S := S) (Exc.keyed_aK hn) HVL.out.1 (by have := HVL.out.2; omega) (by have := HSL.out; have := HK9.out; omega)
        have h5 := eput_any (g := g) (S := S) a w' (HIA.out.below h) (HTA.out.below h) h2 h3 (by omega)
        rw [hc] at h5
        exact h5)
      unfold ptr at HGT HPU
      unfold accval at HPU
      obtain ⟨K, hK⟩ : ∃ K, Exc.aK a.name = K := ⟨_, rfl⟩
      obtain ⟨Y, hY⟩ : ∃ Y, Exc.valS a.amt a.seq = Y := ⟨_, rfl⟩
      rw [hK] at e1 HGA HGT HGC HPU
      rw [hY] at HVL HGA HPU
      clear hn h2 h3 hnl hK hY
      cases hl : Sto.look S K with
      | some y =>
        have HGE := HGC.out
        rw [hl] at HGE
        rw [HGE] at HGT
        have HE := Lib.hid (Exc.genP_bad (set := set) (c := 6) H8.out (by decide) (HGA.out.trans (by rw [hl]; rfl)))
        clear hl HGE
        go_wp2_with fail
        refine HGT.out.mono ?_
        rintro r w3 ⟨rfl, hb3⟩
        have HB3 := Lib.hid (bchain HBA.out hb3)
        clear hb3
        go_wp2
        go_ret2
        exact eGen_bad HE.out (by decide) HB3.out
      | none =>
      have HGE := HGC.out
      rw [hl] at HGE
      rw [HGE] at HGT
      have HGB : Hid (Exc.genF [] L = Exc.genF (Tri.put S K Y) (L.drop (k + 1))) := Lib.hid (HGA.out.trans (by rw [hl, if_neg (by decide)]))
      clear hl HGE
      go_wp2_with fail
      refine HGT.out.mono ?_
      rintro r w3 ⟨rfl, hb3⟩
      have HB3 := Lib.hid (bchain HBA.out hb3)
      have HA3 := Lib.hid (HA.out.below hb3)
      have HPV := Lib.hid (HPU.out _ hb3)
      clear hb3 c0 c1 c2 e1 hg
      obtain ⟨c0, c1, c2⟩ := HA3.out.cells
      go_wp2_with fail
      refine HPV.out.mono ?_
      rintro r w4 ⟨z, rfl, h5, -, hb4⟩
      obtain ⟨g4, rfl, ht4⟩ := h5 rfl
      have HB4 := Lib.hid (bchain HB3.out hb4)
      have HT4 := Lib.hid ht4
      clear h5 ht4 hb4
      unfold ptr
      go_wp2
      go_roundw
      case rel => exact ⟨k + 1, g4, _, rfl, by go_num, by omega, HGB.out, HT4.out, by rw [Tri.put_len]; have := HSL.out; split <;> omega, HB4.out⟩
      case measure => simp [intOf]; omega
    · have h1 : ¬ ((k : Int) < (L.length : Int)) := by omega
      obtain rfl : k = L.length := by omega
      have HGF : Hid (Exc.genF [] L = (S, 0)) := Lib.hid (HG.out.trans (by rw [List.drop_length]; rfl))
      have HCK := Lib.hid (check_any set (.slice Au set.length capu) wr (HU.out.below HB.out))
      have HDG := Lib.hid (fun w' h hT => digest_any set (.slice Au set.length capu) w' h hT)
      cases hs : Pw.okL set with
      | false =>
        have HE := Lib.hid (Exc.genP_set H8.out HGF.out hs)
        rw [Pw.checkC_bad hs] at HCK
        clear hs
        go_wp2_with fail
        refine HCK.out.mono ?_
        rintro r w2 ⟨rfl, hb2⟩
        have HB2 := Lib.hid (bchain HB.out hb2)
        clear hb2
        go_wp2
        go_ret2
        exact eGen_bad HE.out (by decide) HB2.out
      | true =>
        have HE := Lib.hid (Exc.genP_ok H8.out HGF.out hs)
        have HDL := Lib.hid (Exc.digL_len hs)
        rw [Pw.checkC_ok hs] at HCK
        obtain ⟨D, hD⟩ : ∃ D, Pw.digL set = D := ⟨_, rfl⟩
        rw [hD] at HE HDG HDL
        clear hs hD
        go_wp2_with fail
        refine HCK.out.mono ?_
        rintro r w2 ⟨rfl, hb2⟩
        have HB2 := Lib.hid (bchain HB.out hb2)
        have HI2 := Lib.hid (HI.out.below hb2)
        clear hb2
        go_wp2_with fail
        refine (HDG.out _ (HU.out.below HB2.out) (HT.out.below HB2.out)).mono ?_
        rintro r w3 ⟨rfl, hb3⟩
        have HB3 := Lib.hid (bchain HB2.out hb3)
        have HI3 := Lib.hid (HI2.out.below hb3)
        clear hb3
        have HPU : Hid (Calls Tryz.prog 28 #[.pointer (some ⟨g, 0, none⟩), .string ⟨#[115]⟩, .string ⟨D.toArray⟩] w3 (TEnd 0 (Tri.put S Exc.sK D) w3)) := Lib.hid (by
          have hc := Exc.putC_few (S := S) (v := D) Exc.keyed_sK (by have := HDL.out; omega) (by have := HDL.out; omega) (by have := HSL.out; have := H8.out; omega)
          have h2 := (tput_any Exc.sK D w3 HI3.out (HT.out.below HB3.out)).mono fun e w'' h => TEnd.ofPut h
          rw [hc] at h2
          exact h2)
        go_wp2_with fail
        refine HPU.out.mono ?_
        rintro r w4 ⟨z, rfl, h5, h6, hb4⟩
        have HZ : Hid (TEnd (Exc.genP L set).2 (Exc.genP L set).1 w (.returned (.tuple #[z, .int .i64 0])) w4) := Lib.hid (by rw [HE.out]; exact ⟨z, rfl, h5, h6, bchain HB3.out hb4⟩)
        clear h5 h6 hb4
        go_wp2
        go_ret2
        exact HZ.out
end Go.Proofs.YtlckcfpdiigjiaaGreatDoor
