/- TxDecAll, TxLaw, TxCodesWalk, ShaLaid, BookBelow -/
import Derived.Test.YtddjkiejekfekaaDoorPk12
import Derived.Test.YtddjkiejekfekaaDoorPk13
import Derived.Test.YtddjkiejekfekaaDoorPk10
import Derived.Deep.RegionWith
import Derived.Test.YtddjkiejekfekaaDoorRows
import Derived.Test.YtddjkiejekfekaaDoorPk03
import Derived.Lib.LaidU8
import Derived.LaidMore
import Derived.Stop.Joined
import Derived.ProofKit
import Derived.Test.YtddjkiejekfekaaDoorPk01
import Derived.Lib.Strings
namespace Go.Proofs.YtddjkiejekfekaaDoor
open Go.RowKit
open Go.Proofs.YtddjkiejekfekaaDoor.Pw (M)
open Go.Proofs.YtddjkiejekfekaaDoor.Txn (X)

namespace Txn
/-- The list that the program reads: by its own bound on a transaction's bytes. -/
def decAllE (e : Int) (s : List UInt8) : Option (List X) := if (Code.listR 8 e s).2.2 = 0 ∧ (Code.listR 8 e s).2.1 = [] then decs (Code.listR 8 e s).1 else none
theorem decAllE_ok {e : Int} {s : List UInt8} {L : List X} (h : decAllE e s = some L) : L.length ≤ 8 ∧ fines L = true ∧ Code.listL (L.map written) = s := by
  unfold decAllE at h
  split at h
  · rename_i q
    obtain ⟨h1, h2⟩ := decs_iff.1 h
    obtain ⟨h3, h4⟩ := Tm.list_ok 8 e s q.1
    rw [q.2, List.append_nil, ← h2] at h3
    rw [← h2, List.length_map] at h4
    exact ⟨by omega, h1, h3.symm⟩
  · cases h
theorem decAllE_list {e : Int} (he : 400 ≤ e) {L : List X} (hl : L.length ≤ 8) (h : fines L = true) : decAllE e (Code.listL (L.map written)) = some L := by
  have h1 := Code.list_list 8 e (L.map written) [] (by rw [List.length_map]; omega) (by rw [List.length_map]; omega) (fun t ht => by
    obtain ⟨x, hx, rfl⟩ := List.mem_map.1 ht
    have := written_len (List.all_eq_true.1 h x hx)
    omega)
  rw [List.append_nil] at h1
  unfold decAllE
  rw [h1, if_pos ⟨rfl, rfl⟩]
  exact decs_iff.2 ⟨h, rfl⟩
theorem decAllE_eq {e : Int} (he : 400 ≤ e) (s : List UInt8) : decAllE e s = decAll s := by
  cases h : decAll s with
  | some L =>
    obtain ⟨h1, h2, h3⟩ := decAll_ok h
    rw [← h3]
    exact decAllE_list he h1 h2
  | none =>
    cases h2 : decAllE e s with
    | none => rfl
    | some L =>
      rw [decAll_iff.2 (decAllE_ok h2)] at h
      cases h
theorem decs_none {l : List (List UInt8)} {k : Nat} (hk : k < l.length) (h : dec l[k] = none) : decs l = none := by
  cases hd : decs l with
  | none => rfl
  | some L =>
    obtain ⟨h1, h2⟩ := decs_iff.1 hd
    have hl : k < L.length := by rw [← h2, List.length_map] at hk; exact hk
    have e : l[k] = written L[k] := by
      have : (L.map written)[k]'(by rw [List.length_map]; exact hl) = l[k] := by simp only [h2]
      rw [← this, List.getElem_map]
    rw [e, dec_written (List.all_eq_true.1 h1 _ (List.getElem_mem hl))] at h
    cases h
theorem decs_snoc {l : List (List UInt8)} {k : Nat} (hk : k < l.length) {L : List X} {x : X} (h : decs (l.take k) = some L) (hx : dec l[k] = some x) : decs (l.take (k + 1)) = some (L ++ [x]) := by
  obtain ⟨h1, h2⟩ := decs_iff.1 h
  obtain ⟨h3, h4⟩ := dec_ok hx
  refine decs_iff.2 ⟨?_, ?_⟩
  · unfold fines at h1 ⊢
    rw [List.all_append, h1]
    simp [h3]
  · rw [List.map_append, h2, List.take_succ_eq_append_getElem hk]
    simp [h4]
def decAllX (s : List UInt8) : List X := (decAll s).getD []
def decAllC (s : List UInt8) : Int := if (decAll s).isSome then 0 else 150
end Txn
def xcS (p : X × Option Addr × Nat × Nat) : List Value := xcl p.1 (.slice p.2.1 p.2.2.1 p.2.2.2)
theorem xcS_len (p : X × Option Addr × Nat × Nat) : (xcS p).length = 8 := rfl
/-- Transactions of the call's own, in blocks from B on. -/
def OwnX (w : World) (B : Nat) (v : Value) (L : List X) : Prop := ∃ P : List (X × Option Addr × Nat × Nat), P.map (·.1) = L ∧ w.ownsRow B 24 8 v P.length (rowsL xcS P) ∧ ∀ p ∈ P, OwnM w B (.slice p.2.1 p.2.2.1 p.2.2.2) p.1.mem
theorem OwnX.nil (w : World) (B : Nat) : OwnX w B (.slice none 0 0) [] := ⟨[], rfl, ⟨rfl, Or.inl ⟨rfl, rfl⟩⟩, fun p hp => by simp at hp⟩
theorem OwnX.below {w w' : World} {B : Nat} {v : Value} {L : List X} (h : OwnX w B v L) (hb : Below w.heap.size w w') : OwnX w' B v L := by
  obtain ⟨P, h1, h2, h3⟩ := h
  exact ⟨P, h1, row_out (G := fun _ => False) h2 (Out.of hb) (fun _ _ _ _ hf => hf.elim), fun p hp => (h3 p hp).below hb⟩
theorem OwnX.form {w : World} {B : Nat} {v : Value} {L : List X} (h : OwnX w B v L) : ∃ A cap, v = .slice A L.length cap := by
  obtain ⟨P, rfl, h2, h3⟩ := h
  rw [List.length_map]
  exact own_form h2
theorem OwnX.from_ {w : World} {B B' : Nat} {v : Value} {L : List X} (h : OwnX w B v L) (hb : B' ≤ B) : OwnX w B' v L := by
  obtain ⟨P, h1, h2, h3⟩ := h
  refine ⟨P, h1, ⟨h2.1, ?_⟩, fun p hp => (h3 p hp).from_ hb⟩
  rcases h2.2 with hn | ⟨k, cap, cur, hv, hB, hk, hr⟩
  · exact Or.inl hn
  · exact Or.inr ⟨k, cap, cur, hv, Nat.le_trans hb hB, hk, hr⟩
theorem OwnX.txs {w : World} {B : Nat} {v : Value} {L : List X} (h : OwnX w B v L) : Txs w v L := by
  obtain ⟨P, rfl, h2, h3⟩ := h
  obtain ⟨A, cap, rfl, -, -, hc⟩ := RowsAt.own xcS_len h2
  refine ⟨A, cap, by rw [List.length_map], fun h0 => ?_⟩
  rw [List.length_map] at h0
  obtain ⟨b, o, rfl, ⟨cs, fl, hh⟩, hcell⟩ := hc h0
  refine ⟨b, o, rfl, lt_of_heap hh, fun i hi => ?_⟩
  have hi' : i < P.length := by rw [List.length_map] at hi; exact hi
  refine ⟨.slice P[i].2.1 P[i].2.2.1 P[i].2.2.2, fun j u hu => ?_, ?_⟩
  · rw [List.getElem_map] at hu
    exact hcell i hi' j u hu
  · rw [List.getElem_map]
    exact (h3 P[i] (List.getElem_mem hi')).mems
theorem OwnM.out {F : Nat → Prop} {w w' : World} {B : Nat} {s : Value} {L : List M} (h : OwnM w B s L) (ho : Out F w w') (hF : ∀ k cs fr, F k → w.heap[k]? ≠ some (.cells cs 44 fr)) : OwnM w' B s L := by
  refine ⟨h.1, ?_⟩
  rcases h.2 with hn | ⟨k, cap, cur, hv, hB, hk, hr⟩
  · exact Or.inl hn
  · exact Or.inr ⟨k, cap, cur, hv, hB, ho.heap hk (fun hf => hF k _ _ hf hk), hr⟩
theorem OwnX.append {w w0 w5 : World} {B : Nat} {P : List (X × Option Addr × Nat × Nat)} {v v' : Value} {p : X × Option Addr × Nat × Nat} (hrow : w.ownsRow B 24 8 v P.length (rowsL xcS P)) (hm : ∀ p ∈ P, OwnM w B (.slice p.2.1 p.2.2.1 p.2.2.2) p.1.mem) (hp : OwnM w B (.slice p.2.1 p.2.2.1 p.2.2.2) p.1.mem)
    (hb : Below w.heap.size w w0) (hg : w0.grownBy w5 v.ownBlock) (hown : w5.ownsRow B 24 8 v' (P.length + 1) (rowsL xcS P ++ xcS p)) : OwnX w5 B v' ((P ++ [p]).map (·.1)) := by
  have ho : Out (fun k => v.ownBlock = some k) w0 w5 := Out.grown hg (fun _ e => e)
  have hrow0 := row_out (G := fun _ => False) hrow (Out.of hb) (fun _ _ _ _ hf => hf.elim)
  have hF : ∀ k cs fr, v.ownBlock = some k → w0.heap[k]? ≠ some (.cells cs 44 fr) := fun k cs fr hk e => by
    rcases hrow0.2 with ⟨h0, _⟩ | ⟨g', cap', cur, hv, hB, hh, _⟩
    · rw [h0] at hk; cases hk
    · rw [hv] at hk
      obtain rfl : g' = k := by simpa [Value.ownBlock] using hk
      exact typ_not hh (by decide) _ _ e
  refine ⟨P ++ [p], rfl, ?_, fun q hq => ?_⟩
  · rw [rowsL_append, List.length_append, show rowsL xcS [p] = xcS p by simp [rowsL]]
    exact hown
  · rcases List.mem_append.1 hq with h | h
    · exact ((hm q h).below hb).out ho hF
    · obtain rfl : q = p := by simpa using h
      exact (hp.below hb).out ho hF
theorem Tryd.infoTx : (Tryd.prog.info? 24).map (fun i => (i.zero, i.size, i.bytes)) = some (some (.agg #[.int .i64 0, .string ⟨#[]⟩, .int .i64 0, .string ⟨#[]⟩, .int .i64 0, .string ⟨#[]⟩, .string ⟨#[]⟩, .slice none 0 0]), 8, 112) := by kernel_rfl
/-- What DecodeAll answers. -/
def DecAllTx (s : List UInt8) (w : World) (e : Ending) (w' : World) : Prop := ∃ z, e = .returned (.tuple #[z, .int .i64 (Txn.decAllC s)]) ∧ OwnX w' w.heap.size z (Txn.decAllX s) ∧ Below w.heap.size w w'
theorem decAllTx_bad {s : List UInt8} {w w' : World} (h : Txn.decAll s = none) (hb : Below w.heap.size w w') : DecAllTx s w (.returned (.tuple #[.slice none 0 0, .int .i64 150])) w' :=
  ⟨.slice none 0 0, by unfold Txn.decAllC; rw [h]; rfl, by unfold Txn.decAllX; rw [h]; exact OwnX.nil _ _, hb⟩
theorem decAllTx_good {s : List UInt8} {L : List X} {z : Value} {w w' : World} (h : Txn.decAll s = some L) (ho : OwnX w' w.heap.size z L) (hb : Below w.heap.size w w') : DecAllTx s w (.returned (.tuple #[z, .int .i64 0])) w' :=
  ⟨z, by unfold Txn.decAllC; rw [h]; rfl, by unfold Txn.decAllX; rw [h]; exact ho, hb⟩
set_option maxRecDepth 100000 in
set_option maxHeartbeats 8000000 in
theorem rdecodeAll_any (s : List UInt8) (w : World) (hl : s.length ≤ 1000000) : Calls Tryd.prog 21 #[.string ⟨s.toArray⟩] w (DecAllTx s w) := by
  obtain ⟨i0, hi, hz0, hz1, hz2⟩ := info_parts Tryd.infoTx
  have HDA : Hid (Txn.decAll s = if (Code.listR 8 100000 s).2.2 = 0 ∧ (Code.listR 8 100000 s).2.1 = [] then Txn.decs (Code.listR 8 100000 s).1 else none) := Lib.hid rfl
  have HLI := Lib.hid (fun g w' h => rrlist_any 8 100000 s g w' h (by omega))
  have HLE : Hid ((Code.listR 8 100000 s).2.2 = 0 → (Code.listR 8 100000 s).1.length ≤ 8 ∧ ∀ t ∈ (Code.listR 8 100000 s).1, t.length ≤ 1000000) := Lib.hid (fun h => by
    obtain ⟨h1, h2⟩ := Tm.list_ok 8 100000 s h
    refine ⟨by omega, fun t ht => ?_⟩
    have h3 := congrArg List.length h1
    rw [List.length_append] at h3
    have h4 : t.length ≤ (Code.textsL (Code.listR 8 100000 s).1).length := by
      obtain ⟨i, hi, rfl⟩ := List.mem_iff_getElem.1 ht
      have := Code.text_le_texts (Code.listR 8 100000 s).1 i hi
      omega
    unfold Code.listL at h3
    rw [List.length_append] at h3
    omega)
  unfold RListPost at HLI
  obtain ⟨⟨N, rest, c⟩, hN⟩ : ∃ x, Code.listR 8 100000 s = x := ⟨_, rfl⟩
  rw [hN] at HDA HLI HLE
  dsimp only at HDA HLI HLE
  have HEN := Lib.hid (fun g w' h => rrend_st (rest, c) g w' h)
  have HEC : Hid (Pw.endC (rest, c) = 0 ↔ c = 0 ∧ rest = []) := Lib.hid ⟨fun h => Pw.endC_ok h, fun h => by rw [h.1, h.2]; rfl⟩
  obtain ⟨C, hC⟩ : ∃ C, Pw.endC (rest, c) = C := ⟨_, rfl⟩
  rw [hC] at HEN HEC
  have HL := Lib.hid hl
  clear hN hC hl
  go_enter Tryd.func21, Tryd.ntmps21
  go_upto_region 2 with fail
  have hr1 : RRd (w.alloc (.cells #[.string ⟨s.toArray⟩, .int .i64 0] 58)) w.heap.size s 0 := heap_new_at _ _ _ rfl
  have hb1 : Below w.heap.size w (w.alloc (.cells #[.string ⟨s.toArray⟩, .int .i64 0] 58)) := (Below.refl _ w).alloc (Nat.le_refl _) _
  obtain ⟨g, hg⟩ : ∃ g, w.heap.size = g := ⟨_, rfl⟩
  rw [hg] at hr1
  try rw [hg]
  have HR1 := Lib.hid hr1
  generalize w.alloc (.cells #[.string ⟨s.toArray⟩, .int .i64 0] 58) = w1 at *
  have HB1 := Lib.hid hb1
  have HG := Lib.hid (Nat.le_of_eq hg)
  have HG1 := Lib.hid hr1.lt
  clear hr1 hb1 hg
  go_wp2_with fail
  refine (HLI.out g _ HR1.out).mono ?_
  rintro e w2 ⟨v, rfl, hown, hr2, ho2⟩
  have HB2 := Lib.hid (HB1.out.trans (ho2.below HG.out HB1.out.size))
  have hown' : Own w2 w1.heap.size v N := hown
  obtain ⟨A, cap, rfl⟩ := own_form hown'
  have HW := Lib.hid hown'
  have HR2 := Lib.hid hr2
  clear hown hown' hr2 ho2
  go_wp2_with fail
  refine (HEN.out g _ HR2.out).mono ?_
  rintro e w3 ⟨rfl, ho3⟩
  have HB3 := Lib.hid (HB2.out.trans (ho3.below HG.out HB2.out.size))
  have HW3 := Lib.hid (HW.out.only ho3 HG1.out)
  clear ho3
  by_cases hC : C = 0
  case neg =>
    have hC1 : (C != 0) = true := by rw [bne_iff_ne]; exact hC
    have HNN := Lib.hid (show Txn.decAll s = none from by rw [HDA.out, if_neg (fun h => hC (HEC.out.2 h))])
    clear hC
    go_wp2
    go_ret2
    exact decAllTx_bad HNN.out HB3.out
  subst hC
  have HD : Hid (Txn.decAll s = Txn.decs N) := Lib.hid (by rw [HDA.out, if_pos (HEC.out.1 rfl)])
  have HN8 := Lib.hid (HLE.out (HEC.out.1 rfl).1)
  clear HLE HEC HDA HEN HLI HR2 HR1 HW
  go_wp2
  go_loopw [6, 7] (fun out i wr => ∃ (k : Nat) (z : Value) (L : List X), z = out ∧ i = .int .i64 k ∧ k ≤ N.length ∧ Txn.decs (N.take k) = some L ∧ OwnX wr w3.heap.size z L ∧ Below w3.heap.size w3 wr) (fun _ i _ => N.length - (intOf i).toNat)
  case atStart => exact ⟨0, _, [], rfl, rfl, Nat.zero_le _, rfl, OwnX.nil _ _, by first | exact Below.refl _ _ | exact (Below.refl _ _).drew⟩
  case round =>
    obtain ⟨k, u, L, rfl, rfl, hk, hdk, hox, hb⟩ := hrel
    have HK := Lib.hid hdk
    have HX := Lib.hid hox
    have HB := Lib.hid hb
    have HLK : Hid (L.length = k) := Lib.hid (by
      have h1 := (Txn.decs_iff.1 hdk).2
      have h2 := congrArg List.length h1
      rw [List.length_map, List.length_take] at h2
      omega)
    clear hdk hox hb
    by_cases hlt : k < N.length
    · have h1 : (k : Int) < (N.length : Int) := by omega
      have h0 : (0 : Int) ≤ (k : Int) := by omega
      have hk8 : (k : Int) ≤ 8 := by have := HN8.out.1; omega
      obtain ⟨a, rfl, hca⟩ := HW3.out.strs_at HB.out k hlt
      have HND : Hid (Txn.dec N[k] = none → Txn.decAll s = none) := Lib.hid (fun h => by rw [HD.out]; exact Txn.decs_none hlt h)
      have HSD : Hid (∀ x, Txn.dec N[k] = some x → Txn.decs (N.take (k + 1)) = some (L ++ [x])) := Lib.hid (fun x h => Txn.decs_snoc hlt HK.out h)
      have HDC := Lib.hid (rDecodeTx_any N[k] wr (HN8.out.2 _ (List.getElem_mem hlt)))
      obtain ⟨t, ht⟩ : ∃ t, N[k] = t := ⟨_, rfl⟩
      rw [ht] at hca HND HSD HDC
      clear ht
      unfold DecTx at HDC
      have HDX : Hid (Txn.dec t = none → Txn.decX t = Txn.zero ∧ Txn.decC0 t = 150) := Lib.hid Txn.decX_none
      have HDS : Hid (∀ x, Txn.dec t = some x → Txn.decX t = x ∧ Txn.decC0 t = 0) := Lib.hid (fun x h => Txn.decX_some h)
      obtain ⟨x, hx⟩ : ∃ x, Txn.decX t = x := ⟨_, rfl⟩
      obtain ⟨E, hE⟩ : ∃ E, Txn.decC0 t = E := ⟨_, rfl⟩
      rw [hx, hE] at HDC HDX HDS
      clear hx hE
      go_wp2_with fail
      refine HDC.out.mono ?_
      rintro r w4 ⟨z, rfl, hm4, hb4⟩
      obtain ⟨Az, capz, rfl⟩ := hm4.mems.form
      obtain ⟨w5, hw5, hb5, ra⟩ := tx_box x (.slice Az x.mem.length capz) w4
      have HB4 := Lib.hid (bchain HB.out hb4)
      have HB5 := Lib.hid (bchain HB4.out hb5)
      have HX5 := Lib.hid ((HX.out.below hb4).below hb5)
      have HM5 := Lib.hid (OwnM.from_ (hm4.below hb5) HB.out.size)
      obtain ⟨c0, c1, c2, c3, c4, c5, c6, c7⟩ := ra.cells
      clear hm4 hb4 hb5 ra
      unfold xval
      cases hd : Txn.dec t with
      | none =>
        have HNN := Lib.hid (HND.out hd)
        obtain rfl : E = 150 := (HDX.out hd).2
        clear hd HND HSD HDX HDS
        go_wp2
        go_ret2
        exact decAllTx_bad HNN.out (HB3.out.trans (HB5.out.mono HB3.out.size))
      | some y =>
        obtain ⟨rfl, rfl⟩ := HDS.out y hd
        have HS1 := Lib.hid (HSD.out _ hd)
        clear hd HND HSD HDX HDS
        have HS5 : Hid (w3.heap.size ≤ w5.heap.size) := Lib.hid HB5.out.size
        obtain ⟨P, hPL, hrow, hms⟩ := HX5.out
        have HRW := Lib.hid hrow
        have HMS := Lib.hid hms
        have HPL : Hid (P.length = k) := Lib.hid (by rw [← HLK.out, ← hPL, List.length_map])
        have HPM := Lib.hid hPL
        clear hrow hms hPL
        go_wp2_with (at_builtin; refine wpList_append_lies _ rfl _ _ _ rfl w3.heap.size 24 i0 (.agg #[.int .i64 0, .string ⟨#[]⟩, .int .i64 0, .string ⟨#[]⟩, .int .i64 0, .string ⟨#[]⟩, .string ⟨#[]⟩, .slice none 0 0]) 8 112 Tryd.underlying35 hi hz0 hz1 hz2 rfl (by decide) u P.length (rowsL xcS P) (by first | rfl | (simp; done)) (World.ownsRow.alloc HRW.out _) ⟨w5.heap.size, 0, none⟩ 1 1 (xcS (x, Az, x.mem.length, capz)) (by rfl) rfl (World.news_of_block (heap_new_at _ _ _ rfl)) (by simp [xcS, xcl, Value.oneCell']) (by decide) (by have := HPL.out; have := HN8.out.1; unfold maxLen; omega) (by have := HPL.out; have := HN8.out.1; omega) (by have := HS5.out; simp; omega) (w5.heap.size + 1) (by simp) ?_; intro g' cap' w6 hown6 hgrow6 hat6 hlt6)
        have hbb := (Below.refl w5.heap.size w5).alloc (Nat.le_refl _) (.cells (xcS (x, Az, x.mem.length, capz)).toArray 24)
        have hx6 := OwnX.append (p := (x, Az, x.mem.length, capz)) HRW.out HMS.out HM5.out hbb hgrow6 hown6
        have hB6 : Below w3.heap.size w3 w6 := HB5.out.trans (((Out.of hbb).trans (Out.grown hgrow6 (F := fun j => u.ownBlock = some j) (fun j e => e))).below (fun j hj => (World.ownsRow.lt HRW.out j hj).1) HB5.out.size)
        refine ⟨⟨k + 1, _, L ++ [x], rfl, by go_num, by omega, HS1.out, ?_, hB6⟩, by simp [intOf]; omega⟩
        rw [List.map_append, HPM.out] at hx6
        exact hx6
    · have h1 : ¬ ((k : Int) < (N.length : Int)) := by omega
      obtain rfl : k = N.length := by omega
      rw [List.take_length] at HK
      have HNN := Lib.hid (HD.out.trans HK.out)
      go_wp2
      go_ret2
      exact decAllTx_good HNN.out (HX.out.from_ HB3.out.size) (HB3.out.trans (HB.out.mono HB3.out.size))
set_option maxRecDepth 100000 in
set_option maxHeartbeats 8000000 in
theorem xdecodeAll_any (s : List UInt8) (w : World) (hl : s.length ≤ 1000000) : Calls Tryd.prog 20 #[.string ⟨s.toArray⟩] w (DecAllTx s w) := by
  obtain ⟨i0, hi, hz0, hz1, hz2⟩ := info_parts Tryd.infoTx
  have HDA : Hid (Txn.decAll s = if (Code.listR 8 65536 s).2.2 = 0 ∧ (Code.listR 8 65536 s).2.1 = [] then Txn.decs (Code.listR 8 65536 s).1 else none) := Lib.hid ((Txn.decAllE_eq (e := 65536) (by decide) s).symm.trans rfl)
  have HLI := Lib.hid (fun g w' h => rlist_any 8 65536 s g w' h (by omega))
  have HLE : Hid ((Code.listR 8 65536 s).2.2 = 0 → (Code.listR 8 65536 s).1.length ≤ 8 ∧ ∀ t ∈ (Code.listR 8 65536 s).1, t.length ≤ 1000000) := Lib.hid (fun h => by
    obtain ⟨h1, h2⟩ := Tm.list_ok 8 65536 s h
    refine ⟨by omega, fun t ht => ?_⟩
    have h3 := congrArg List.length h1
    rw [List.length_append] at h3
    have h4 : t.length ≤ (Code.textsL (Code.listR 8 65536 s).1).length := by
      obtain ⟨i, hi, rfl⟩ := List.mem_iff_getElem.1 ht
      have := Code.text_le_texts (Code.listR 8 65536 s).1 i hi
      omega
    unfold Code.listL at h3
    rw [List.length_append] at h3
    omega)
  obtain ⟨⟨N, rest, c⟩, hN⟩ : ∃ x, Code.listR 8 65536 s = x := ⟨_, rfl⟩
  rw [hN] at HDA HLI HLE
  dsimp only at HDA HLI HLE
  have HEN := Lib.hid (fun g w' h => rend_st (rest, c) g w' h)
  have HEC : Hid (Pw.endC (rest, c) = 0 ↔ c = 0 ∧ rest = []) := Lib.hid ⟨fun h => Pw.endC_ok h, fun h => by rw [h.1, h.2]; rfl⟩
  obtain ⟨C, hC⟩ : ∃ C, Pw.endC (rest, c) = C := ⟨_, rfl⟩
  rw [hC] at HEN HEC
  have HL := Lib.hid hl
  clear hN hC hl
  go_enter Tryd.func20, Tryd.ntmps20
  go_wp2_with fail
  refine (read_any s w).mono ?_
  rintro e w1 ⟨rfl, hr1, hb1⟩
  obtain ⟨g, hg⟩ : ∃ g, w.heap.size = g := ⟨_, rfl⟩
  rw [hg] at hr1
  try rw [hg]
  have HR1 := Lib.hid hr1
  have HB1 := Lib.hid hb1
  have HG := Lib.hid (Nat.le_of_eq hg)
  have HG1 := Lib.hid hr1.lt
  clear hr1 hb1 hg
  go_wp2_with fail
  refine (HLI.out g _ HR1.out).mono ?_
  rintro e w2 ⟨v, rfl, hown, hr2, ho2⟩
  have HB2 := Lib.hid (HB1.out.trans (ho2.below HG.out HB1.out.size))
  have hown' : Own w2 w1.heap.size v N := hown
  obtain ⟨A, cap, rfl⟩ := own_form hown'
  have HW := Lib.hid hown'
  have HR2 := Lib.hid hr2
  clear hown hown' hr2 ho2
  go_wp2_with fail
  refine (HEN.out g _ HR2.out).mono ?_
  rintro e w3 ⟨rfl, ho3⟩
  have HB3 := Lib.hid (HB2.out.trans (ho3.below HG.out HB2.out.size))
  have HW3 := Lib.hid (HW.out.only ho3 HG1.out)
  clear ho3
  by_cases hC : C = 0
  case neg =>
    have hC1 : (C != 0) = true := by rw [bne_iff_ne]; exact hC
    have HNN := Lib.hid (show Txn.decAll s = none from by rw [HDA.out, if_neg (fun h => hC (HEC.out.2 h))])
    clear hC
    go_wp2
    go_ret2
    exact decAllTx_bad HNN.out HB3.out
  subst hC
  have HD : Hid (Txn.decAll s = Txn.decs N) := Lib.hid (by rw [HDA.out, if_pos (HEC.out.1 rfl)])
  have HN8 := Lib.hid (HLE.out (HEC.out.1 rfl).1)
  clear HLE HEC HDA HEN HLI HR2 HR1 HW
  go_wp2
  go_loopw [6, 20] (fun out i wr => ∃ (k : Nat) (z : Value) (L : List X), z = out ∧ i = .int .i64 k ∧ k ≤ N.length ∧ Txn.decs (N.take k) = some L ∧ OwnX wr w3.heap.size z L ∧ Below w3.heap.size w3 wr) (fun _ i _ => N.length - (intOf i).toNat)
  case atStart => exact ⟨0, _, [], rfl, rfl, Nat.zero_le _, rfl, OwnX.nil _ _, by first | exact Below.refl _ _ | exact (Below.refl _ _).drew⟩
  case round =>
    obtain ⟨k, u, L, rfl, rfl, hk, hdk, hox, hb⟩ := hrel
    have HK := Lib.hid hdk
    have HX := Lib.hid hox
    have HB := Lib.hid hb
    have HLK : Hid (L.length = k) := Lib.hid (by
      have h1 := (Txn.decs_iff.1 hdk).2
      have h2 := congrArg List.length h1
      rw [List.length_map, List.length_take] at h2
      omega)
    clear hdk hox hb
    by_cases hlt : k < N.length
    · have h1 : (k : Int) < (N.length : Int) := by omega
      have h0 : (0 : Int) ≤ (k : Int) := by omega
      have hk8 : (k : Int) ≤ 8 := by have := HN8.out.1; omega
      obtain ⟨a, rfl, hca⟩ := HW3.out.strs_at HB.out k hlt
      have HND : Hid (Txn.dec N[k] = none → Txn.decAll s = none) := Lib.hid (fun h => by rw [HD.out]; exact Txn.decs_none hlt h)
      have HSD : Hid (∀ x, Txn.dec N[k] = some x → Txn.decs (N.take (k + 1)) = some (L ++ [x])) := Lib.hid (fun x h => Txn.decs_snoc hlt HK.out h)
      have HDC := Lib.hid (xDecodeTx_any N[k] wr (HN8.out.2 _ (List.getElem_mem hlt)))
      obtain ⟨t, ht⟩ : ∃ t, N[k] = t := ⟨_, rfl⟩
      rw [ht] at hca HND HSD HDC
      clear ht
      unfold DecTx at HDC
      have HDX : Hid (Txn.dec t = none → Txn.decX t = Txn.zero ∧ Txn.decC0 t = 150) := Lib.hid Txn.decX_none
      have HDS : Hid (∀ x, Txn.dec t = some x → Txn.decX t = x ∧ Txn.decC0 t = 0) := Lib.hid (fun x h => Txn.decX_some h)
      obtain ⟨x, hx⟩ : ∃ x, Txn.decX t = x := ⟨_, rfl⟩
      obtain ⟨E, hE⟩ : ∃ E, Txn.decC0 t = E := ⟨_, rfl⟩
      rw [hx, hE] at HDC HDX HDS
      clear hx hE
      go_wp2_with fail
      refine HDC.out.mono ?_
      rintro r w4 ⟨z, rfl, hm4, hb4⟩
      obtain ⟨Az, capz, rfl⟩ := hm4.mems.form
      obtain ⟨w5, hw5, hb5, ra⟩ := tx_box x (.slice Az x.mem.length capz) w4
      have HB4 := Lib.hid (bchain HB.out hb4)
      have HB5 := Lib.hid (bchain HB4.out hb5)
      have HX5 := Lib.hid ((HX.out.below hb4).below hb5)
      have HM5 := Lib.hid (OwnM.from_ (hm4.below hb5) HB.out.size)
      obtain ⟨c0, c1, c2, c3, c4, c5, c6, c7⟩ := ra.cells
      clear hm4 hb4 hb5 ra
      unfold xval
      cases hd : Txn.dec t with
      | none =>
        have HNN := Lib.hid (HND.out hd)
        obtain rfl : E = 150 := (HDX.out hd).2
        clear hd HND HSD HDX HDS
        go_wp2
        go_ret2
        exact decAllTx_bad HNN.out (HB3.out.trans (HB5.out.mono HB3.out.size))
      | some y =>
        obtain ⟨rfl, rfl⟩ := HDS.out y hd
        have HS1 := Lib.hid (HSD.out _ hd)
        clear hd HND HSD HDX HDS
        have HS5 : Hid (w3.heap.size ≤ w5.heap.size) := Lib.hid HB5.out.size
        obtain ⟨P, hPL, hrow, hms⟩ := HX5.out
        have HRW := Lib.hid hrow
        have HMS := Lib.hid hms
        have HPL : Hid (P.length = k) := Lib.hid (by rw [← HLK.out, ← hPL, List.length_map])
        have HPM := Lib.hid hPL
        clear hrow hms hPL
        go_wp2_with (at_builtin; refine wpList_append_lies _ rfl _ _ _ rfl w3.heap.size 24 i0 (.agg #[.int .i64 0, .string ⟨#[]⟩, .int .i64 0, .string ⟨#[]⟩, .int .i64 0, .string ⟨#[]⟩, .string ⟨#[]⟩, .slice none 0 0]) 8 112 Tryd.underlying35 hi hz0 hz1 hz2 rfl (by decide) u P.length (rowsL xcS P) (by first | rfl | (simp; done)) (World.ownsRow.alloc HRW.out _) ⟨w5.heap.size, 0, none⟩ 1 1 (xcS (x, Az, x.mem.length, capz)) (by rfl) rfl (World.news_of_block (heap_new_at _ _ _ rfl)) (by simp [xcS, xcl, Value.oneCell']) (by decide) (by have := HPL.out; have := HN8.out.1; unfold maxLen; omega) (by have := HPL.out; have := HN8.out.1; omega) (by have := HS5.out; simp; omega) (w5.heap.size + 1) (by simp) ?_; intro g' cap' w6 hown6 hgrow6 hat6 hlt6)
        have hbb := (Below.refl w5.heap.size w5).alloc (Nat.le_refl _) (.cells (xcS (x, Az, x.mem.length, capz)).toArray 24)
        have hx6 := OwnX.append (p := (x, Az, x.mem.length, capz)) HRW.out HMS.out HM5.out hbb hgrow6 hown6
        have hB6 : Below w3.heap.size w3 w6 := HB5.out.trans (((Out.of hbb).trans (Out.grown hgrow6 (F := fun j => u.ownBlock = some j) (fun j e => e))).below (fun j hj => (World.ownsRow.lt HRW.out j hj).1) HB5.out.size)
        refine ⟨⟨k + 1, _, L ++ [x], rfl, by go_num, by omega, HS1.out, ?_, hB6⟩, by simp [intOf]; omega⟩
        rw [List.map_append, HPM.out] at hx6
        exact hx6
    · have h1 : ¬ ((k : Int) < (N.length : Int)) := by omega
      obtain rfl : k = N.length := by omega
      rw [List.take_length] at HK
      have HNN := Lib.hid (HD.out.trans HK.out)
      go_wp2
      go_ret2
      exact decAllTx_good HNN.out (HX.out.from_ HB3.out.size) (HB3.out.trans (HB.out.mono HB3.out.size))
end Go.Proofs.YtddjkiejekfekaaDoor
namespace Go.Proofs.YtddjkiejekfekaaDoor
open Go.RowKit
open Go.Proofs.YtddjkiejekfekaaDoor.Pw (M)
open Go.Proofs.YtddjkiejekfekaaDoor.Txn (X)

/-- A list that is not too long to be looked at. -/
def Txn.Shorts (L : List X) : Prop := L.length ≤ 20 ∧ ∀ x ∈ L, Txn.Short x
def BigTxs (L : List X) (w : World) (r : Ending) (w' : World) : Prop := ∃ b : Bool, r = .returned (.bool b) ∧ (b = false → Txn.Shorts L) ∧ Below w.heap.size w w'
theorem BigTxs.yes {L : List X} {w w' : World} (h : Below w.heap.size w w') : BigTxs L w (.returned (.bool true)) w' := ⟨true, rfl, (fun h => by cases h), h⟩
theorem BigTxs.end_ {L : List X} {w w' : World} (n : ∀ x ∈ L, Txn.Short x) (h : Below w.heap.size w w') : BigTxs L w (.returned (.bool (decide ((20 : Int) < (L.length : Int))))) w' := ⟨_, rfl, (fun hd => ⟨by have := of_decide_eq_false hd; omega, n⟩), h⟩
set_option maxRecDepth 100000 in
set_option maxHeartbeats 4000000 in
theorem bigTxs_any (L : List X) (v : Value) (w : World) (hv : Txs w v L) (hl : L.length ≤ maxLen) :
    Calls Tryd.prog 17 #[v] w (BigTxs L w) := by
  have HV := Lib.hid hv
  have HLM : Hid (L.length ≤ maxLen) := Lib.hid hl
  obtain ⟨A, cap, rfl⟩ := hv.form
  clear hv hl
  go_enter Tryd.func17, Tryd.ntmps17
  go_wp2
  go_loopw [3] (fun i wr => ∃ k : Nat, i = .int .i64 k ∧ k ≤ L.length ∧ (∀ x ∈ L.take k, Txn.Short x) ∧ Below w.heap.size w wr) (fun i _ => L.length - (intOf i).toNat)
  case atStart => exact ⟨0, rfl, Nat.zero_le _, by simp, Below.refl _ _⟩
  case round =>
    obtain ⟨k, rfl, hk, hs, hb⟩ := hrel
    have HS := Lib.hid hs
    have HB := Lib.hid hb
    clear hs hb
    by_cases hlt : k < L.length
    · have h1 : (k : Int) < (L.length : Int) := by omega
      have h0 : (0 : Int) ≤ (k : Int) := by omega
      have hk9 : (k : Int) ≤ 9223372036854775806 := by have := HLM.out; unfold maxLen at this; omega
      obtain ⟨b, o, zx, hA, ca, hma⟩ := (HV.out.below HB.out).at k hlt
      subst hA
      have HSN : Hid (Txn.Short L[k] → ∀ x ∈ L.take (k + 1), Txn.Short x) := Lib.hid (fun h x hx => by
        rw [List.take_succ_eq_append_getElem hlt] at hx
        rcases List.mem_append.1 hx with h2 | h2
        · exact HS.out x h2
        · obtain rfl : x = L[k] := by simpa using h2
          exact h)
      obtain ⟨x, hx⟩ : ∃ x, L[k] = x := ⟨_, rfl⟩
      rw [hx] at ca hma HSN
      clear hx
      obtain ⟨Az, capz, rfl⟩ := hma.form
      have c0 : wr.cell? ⟨b, o + k * 8, none⟩ = some (.int .i64 x.kind) := ca 0 _ rfl
      have c1 := ca 1 _ rfl
      have c2 := ca 2 _ rfl
      have c3 := ca 3 _ rfl
      have c4 := ca 4 _ rfl
      have c5 := ca 5 _ rfl
      have c6 := ca 6 _ rfl
      have c7 := ca 7 _ rfl
      have HBG := Lib.hid (bigTx_any x _ wr hma)
      unfold xval BigTx at HBG
      clear ca hma
      go_wp2_with fail
      refine HBG.out.mono ?_
      rintro r w1 ⟨bb, rfl, hsh, -, hb1⟩
      have HB1 := Lib.hid (bchain HB.out hb1)
      have HSH := Lib.hid hsh
      clear hb1 hsh
      cases bb with
      | true =>
        go_wp2
        go_ret
        exact BigTxs.yes HB1.out
      | false =>
        go_wp2
        go_roundw
        case rel => exact ⟨k + 1, by go_num, by omega, HSN.out (HSH.out trivial), HB1.out⟩
        case measure => simp [intOf]; omega
    · have h1 : ¬ ((k : Int) < (L.length : Int)) := by omega
      obtain rfl : k = L.length := by omega
      rw [List.take_length] at HS
      go_wp2
      go_ret
      exact BigTxs.end_ HS.out HB.out

def Txn.ex : X := ⟨1, [97], 0, [98], 5, [], [], []⟩
theorem Txn.num0 : Code.numL 0 = [0] := by rw [Code.numL, Code.sz_zero]; decide
theorem Txn.num1 : Code.numL 1 = [1, 1] := by rw [Code.numL, Code.sz_iff 1 1 (by decide)]; decide
theorem Txn.num5 : Code.numL 5 = [1, 5] := by rw [Code.numL, Code.sz_iff 5 1 (by decide)]; decide
theorem Txn.ex_fine : Txn.fine Txn.ex = true := by decide
theorem Txn.ex_written : Txn.written Txn.ex = [1, 1, 1, 97, 0, 1, 1, 98, 1, 5] := by
  show UInt8.ofNat 1 :: (Code.textL [97] ++ Code.numL 0 ++ (Code.textL [98] ++ Code.numL 5)) = _
  unfold Code.textL
  rw [show ([97] : List UInt8).length = 1 from rfl, show ([98] : List UInt8).length = 1 from rfl, Txn.num0, Txn.num1, Txn.num5]
  rfl
theorem txs_one (w : World) (x : X) (Az : Option Addr) (n capz : Nat) (hz : Mems w (.slice Az n capz) x.mem) : Txs (w.alloc (.cells #[.int .i64 x.kind, .string ⟨x.frm.toArray⟩, .int .i64 x.seq, .string ⟨x.dst.toArray⟩, .int .i64 x.amt, .string ⟨x.key.toArray⟩, .string ⟨x.val.toArray⟩, .slice Az n capz] 24)) (.slice (some ⟨w.heap.size, 0, none⟩) 1 1) [x] := by
  have hb : Below w.heap.size w (w.alloc (.cells #[.int .i64 x.kind, .string ⟨x.frm.toArray⟩, .int .i64 x.seq, .string ⟨x.dst.toArray⟩, .int .i64 x.amt, .string ⟨x.key.toArray⟩, .string ⟨x.val.toArray⟩, .slice Az n capz] 24)) := (Below.refl _ w).alloc (Nat.le_refl _) _
  refine ⟨_, 1, rfl, fun _ => ⟨w.heap.size, 0, rfl, by simp, fun i hi => ?_⟩⟩
  obtain rfl : i = 0 := by simp at hi; exact hi
  refine ⟨.slice Az n capz, fun j u hu => ?_, hz.below hb⟩
  have h := heap_new_at w (.cells #[.int .i64 x.kind, .string ⟨x.frm.toArray⟩, .int .i64 x.seq, .string ⟨x.dst.toArray⟩, .int .i64 x.amt, .string ⟨x.key.toArray⟩, .string ⟨x.val.toArray⟩, .slice Az n capz] 24) w.heap.size rfl
  rw [Nat.zero_mul, Nat.zero_add, cell_of_row _ _ j _ _ _ h]
  simpa [xcl] using hu
set_option maxRecDepth 100000 in
set_option maxHeartbeats 4000000 in
theorem txworks_any (w : World) (hT : Tab w) : Calls Tryd.prog 9 #[] w fun e w' => e = .returned (.bool true) ∧ Below w.heap.size w w' := by
  have HT := Lib.hid hT
  obtain ⟨w1, hw1, hb1, ra⟩ := tx_box Txn.ex (.slice none 0 0) w
  have hw1' : w.alloc (.cells #[.int .i64 1, .string ⟨#[97]⟩, .int .i64 0, .string ⟨#[98]⟩, .int .i64 5, .string ⟨#[]⟩, .string ⟨#[]⟩, .slice none 0 0] 24) = w1 := hw1
  obtain ⟨q1, hq1⟩ : ∃ q1, w.heap.size = q1 := ⟨_, rfl⟩
  rw [hq1] at ra
  have HA := Lib.hid ra
  have HB := Lib.hid hb1
  have HC : Hid (∀ w', Below w1.heap.size w1 w' → w'.cell? ⟨q1, 0, none⟩ = some (.int .i64 1) ∧ w'.cell? ⟨q1, 1, none⟩ = some (.string ⟨#[97]⟩) ∧ w'.cell? ⟨q1, 2, none⟩ = some (.int .i64 0) ∧ w'.cell? ⟨q1, 3, none⟩ = some (.string ⟨#[98]⟩) ∧ w'.cell? ⟨q1, 4, none⟩ = some (.int .i64 5) ∧ w'.cell? ⟨q1, 5, none⟩ = some (.string ⟨#[]⟩) ∧ w'.cell? ⟨q1, 6, none⟩ = some (.string ⟨#[]⟩) ∧ w'.cell? ⟨q1, 7, none⟩ = some (.slice none 0 0)) := Lib.hid (fun w' h => (HA.out.below h).cells)
  have HE1 : Hid (Calls Tryd.prog 10 #[.agg #[.int .i64 1, .string ⟨#[97]⟩, .int .i64 0, .string ⟨#[98]⟩, .int .i64 5, .string ⟨#[]⟩, .string ⟨#[]⟩, .slice none 0 0]] w1 fun r w' => r = .returned (.tuple #[.string ⟨#[1, 1, 1, 97, 0, 1, 1, 98, 1, 5]⟩, .int .i64 0]) ∧ Below w1.heap.size w1 w') := Lib.hid (by
    have h := xencode_any Txn.ex (.slice none 0 0) w1 (Mems.nil _)
    unfold Txn.encS Txn.encC at h
    rw [Txn.ex_fine, if_pos rfl, if_pos rfl, Txn.ex_written] at h
    exact h)
  have HD1 : Hid (∀ w', Calls Tryd.prog 12 #[.string ⟨#[1, 1, 1, 97, 0, 1, 1, 98, 1, 5]⟩] w' fun e w'' => ∃ z, e = .returned (.tuple #[xval Txn.ex z, .int .i64 0]) ∧ OwnM w'' w'.heap.size z [] ∧ Below w'.heap.size w' w'') := Lib.hid (fun w' => by
    have h := xDecodeTx_any [1, 1, 1, 97, 0, 1, 1, 98, 1, 5] w' (by decide)
    have h2 := Txn.decX_some (Txn.dec_written Txn.ex_fine)
    rw [Txn.ex_written] at h2
    unfold DecTx at h
    rw [h2.1, h2.2] at h
    exact h)
  have HR1 : Hid (∀ w' v, Txs w' v [Txn.ex] → Tab w' → Calls Tryd.prog 22 #[v] w' fun r w'' => r = .returned (.tuple #[.string ⟨(Txn.rootS [Txn.ex]).toArray⟩, .int .i64 0]) ∧ Below w'.heap.size w' w'') := Lib.hid (fun w' v h hT => by
    have h2 := xroot_any [Txn.ex] v w' h hT
    rw [show Txn.allC [Txn.ex] = 0 from by unfold Txn.allC; rw [Txn.encAll_ok (by decide) (by decide)]; rfl] at h2
    exact h2)
  have hrl := Txn.rootS_len [Txn.ex] (by rw [Txn.encAll_ok (by decide) (by decide)])
  obtain ⟨R, hR⟩ : ∃ R, Txn.rootS [Txn.ex] = R := ⟨_, rfl⟩
  rw [hR] at hrl HR1
  have HRL : Hid (((R.length : Int) == 32) = true) := Lib.hid (by rw [hrl]; rfl)
  have HXE : Hid (∀ x, x = Txn.ex → decide (Txn.ex = x) = true) := Lib.hid (fun x h => by rw [h]; exact decide_eq_true rfl)
  have HSM := Lib.hid (fun x z w' h hl => sameTx_any Txn.ex x (.slice none 0 0) z w' (Mems.nil _) h (by decide) hl)
  have HQ1 := Lib.hid hq1
  have HW1 := Lib.hid hw1'
  clear hb1 ra hT hR hrl hw1 hq1 hw1'
  go_enter Tryd.func9, Tryd.ntmps9
  go_upto_region 2 with fail
  try rw [HW1.out]
  try rw [HQ1.out]
  clear HW1 HQ1
  obtain ⟨a0, a1, a2, a3, a4, a5, a6, a7⟩ := HC.out _ (Below.refl _ _)
  go_wp2_with fail
  refine HE1.out.mono ?_
  rintro r w2 ⟨rfl, hb2⟩
  have HB2 := Lib.hid hb2
  clear hb2 a0 a1 a2 a3 a4 a5 a6 a7
  go_wp2_with fail
  refine (HD1.out _).mono ?_
  rintro r w3 ⟨z, rfl, hm3, hb3⟩
  have HB3 := Lib.hid (bchain HB2.out hb3)
  obtain ⟨Az, capz, rfl⟩ := hm3.mems.form
  have HM3 : Hid (Mems w3 (.slice Az 0 capz) []) := Lib.hid hm3.mems
  obtain ⟨x, hx⟩ : ∃ x, x = Txn.ex := ⟨_, rfl⟩
  rw [← hx]
  have HXQ := Lib.hid (HXE.out x hx)
  have HXM : Hid (x.mem = []) := Lib.hid (by rw [hx]; rfl)
  obtain ⟨w4, hw4, hb4, rb⟩ := tx_box x (.slice Az 0 capz) w3
  have HB4 := Lib.hid (bchain HB3.out hb4)
  have HM4 := Lib.hid (HM3.out.below hb4)
  have HY := Lib.hid rb
  obtain ⟨q3, hq3⟩ : ∃ q3, w3.heap.size = q3 := ⟨_, rfl⟩
  rw [hq3] at HY
  have HQ3 := Lib.hid hq3
  clear hm3 hb3 hx hb4 rb hq3
  unfold xval
  go_upto_region 4 with fail
  try rw [hw4]
  try rw [HQ3.out]
  clear hw4 HQ3
  obtain ⟨a0, a1, a2, a3, a4, a5, a6, a7⟩ := HC.out _ HB4.out
  obtain ⟨w5, hw5⟩ : ∃ w5, w4.alloc (.cells #[.int .i64 1, .string ⟨#[97]⟩, .int .i64 0, .string ⟨#[98]⟩, .int .i64 5, .string ⟨#[]⟩, .string ⟨#[]⟩, .slice none 0 0] 24) = w5 := ⟨_, rfl⟩
  have htx : Txs w5 (.slice (some ⟨w4.heap.size, 0, none⟩) 1 1) [Txn.ex] := by rw [← hw5]; exact txs_one w4 Txn.ex none 0 0 (Mems.nil _)
  have hb5 : Below w4.heap.size w4 w5 := by rw [← hw5]; exact (Below.refl _ w4).alloc (Nat.le_refl _) _
  have HB5 := Lib.hid (bchain HB4.out hb5)
  have HY5 := Lib.hid (HY.out.below hb5)
  have HM5 := Lib.hid (HM4.out.below hb5)
  have HTX := Lib.hid htx
  have HT5 := Lib.hid (HT.out.below (bchain HB.out HB5.out))
  clear htx hb5
  go_wp2_with fail
  refine (HR1.out _ _ HTX.out HT5.out).mono ?_
  rintro r w6 ⟨rfl, hb6⟩
  have HB6 := Lib.hid (bchain HB5.out hb6)
  have HY6 := Lib.hid (HY5.out.below hb6)
  have HM6 := Lib.hid (HM5.out.below hb6)
  clear hb6 a0 a1 a2 a3 a4 a5 a6 a7 hw5
  obtain ⟨a0, a1, a2, a3, a4, a5, a6, a7⟩ := HC.out _ HB6.out
  obtain ⟨b0, b1, b2, b3, b4, b5, b6, b7⟩ := HY6.out.cells
  have HS6 : Hid (Calls Tryd.prog 14 #[.agg #[.int .i64 1, .string ⟨#[97]⟩, .int .i64 0, .string ⟨#[98]⟩, .int .i64 5, .string ⟨#[]⟩, .string ⟨#[]⟩, .slice none 0 0], .agg #[.int .i64 x.kind, .string ⟨x.frm.toArray⟩, .int .i64 x.seq, .string ⟨x.dst.toArray⟩, .int .i64 x.amt, .string ⟨x.key.toArray⟩, .string ⟨x.val.toArray⟩, .slice Az 0 capz]] w6 fun r w' => r = .returned (.bool true) ∧ Below w6.heap.size w6 w') := Lib.hid (by
    have h := HSM.out x (.slice Az 0 capz) w6 (by rw [HXM.out]; exact HM6.out) (by rw [HXM.out]; decide)
    rw [HXQ.out] at h
    exact h)
  have h32 := HRL.out
  go_wp2_with fail
  refine HS6.out.mono ?_
  rintro r w7 ⟨rfl, hb7⟩
  have HB7 := Lib.hid (bchain HB.out (bchain HB6.out hb7))
  clear hb7
  go_wp2
  go_ret
  exact ⟨rfl, HB7.out⟩
end Go.Proofs.YtddjkiejekfekaaDoor
namespace Go.Proofs.YtddjkiejekfekaaDoor
open Go.RowKit
open Go.Proofs.YtddjkiejekfekaaDoor.Pw (M)
open Go.Proofs.YtddjkiejekfekaaDoor.Txn (X)

theorem Txn.fine_mem {x : X} (h : Txn.fine x = true) : x.mem.length ≤ 7 := by
  obtain ⟨-, -, -, -, h5⟩ := Txn.fine_of h
  rcases Txn.kind_of h5 with ⟨_, q⟩ | ⟨_, q⟩ | ⟨_, q⟩ | ⟨_, q⟩
  · rw [q.2.2.2.2.2.2]; simp
  · rw [q.2.2.2.2.2.2]; simp
  · rw [q.2.2.2.2.2]; simp
  · exact (Pw.okL_len q.2.2.2.2).2
theorem Txn.decX_mem (s : List UInt8) : (Txn.decX s).mem.length ≤ 1000000 := by
  cases h : Txn.dec s with
  | none => rw [(Txn.decX_none h).1]; decide
  | some x =>
    rw [(Txn.decX_some h).1]
    have := Txn.fine_mem (Txn.dec_ok h).1
    omega
set_option maxRecDepth 100000 in
set_option maxHeartbeats 8000000 in
theorem txCodes_walk (x : X) (z : Value) (s : List UInt8) (w : World) (hz : Mems w z x.mem) (hT : Tab w) :
    Calls Tryd.prog 3 #[xval x z, .string ⟨s.toArray⟩] w fun r w' => r = .returned (.bool true) ∧ Below w.heap.size w w' := by
  have HWK := Lib.hid (fun w' h => txworks_any w' h)
  obtain ⟨w0, hw0, hb0, ra⟩ := tx_box x z w
  have HB := Lib.hid hb0
  have HM := Lib.hid (hz.below hb0)
  have HT := Lib.hid (hT.below hb0)
  obtain ⟨q0, hq0⟩ : ∃ q0, w.heap.size = q0 := ⟨_, rfl⟩
  rw [hq0] at ra
  have HA := Lib.hid ra
  have HQ0 := Lib.hid hq0
  obtain ⟨Az, capz, rfl⟩ := hz.form
  have HBG := Lib.hid (fun w' h => bigTx_any x (.slice Az x.mem.length capz) w' h)
  have HE1 := Lib.hid (fun w' h => xencode_any x (.slice Az x.mem.length capz) w' h)
  have HE2 := Lib.hid (fun w' h => rEncodeTx_any x (.slice Az x.mem.length capz) w' h)
  have HC1 := Lib.hid (fun w' h => xcheck_any x (.slice Az x.mem.length capz) w' h)
  have HC2 := Lib.hid (fun w' h => rCheckTx_any x (.slice Az x.mem.length capz) w' h)
  have HD1 := Lib.hid (fun w' h => xDecodeTx_any s w' h)
  have HD2 := Lib.hid (fun w' h => rDecodeTx_any s w' h)
  have HXM := Lib.hid (Txn.decX_mem s)
  unfold DecTx at HD1 HD2
  obtain ⟨y, hy⟩ : ∃ y, Txn.decX s = y := ⟨_, rfl⟩
  obtain ⟨cy, hcy⟩ : ∃ y, Txn.decC0 s = y := ⟨_, rfl⟩
  rw [hy, hcy] at HD1 HD2
  rw [hy] at HXM
  obtain ⟨S, hS⟩ : ∃ S, Txn.encS x = S := ⟨_, rfl⟩
  obtain ⟨E, hE⟩ : ∃ E, Txn.encC x = E := ⟨_, rfl⟩
  rw [hS, hE] at HE1 HE2
  obtain ⟨C, hC⟩ : ∃ C, (if Txn.fine x = true then (0 : Int) else 150) = C := ⟨_, rfl⟩
  rw [hC] at HC1 HC2
  unfold BigTx xval at HBG
  unfold xval at HE1 HE2 HC1 HC2
  unfold xval
  clear hb0 ra hz hT hq0 hy hcy hS hE hC
  go_enter Tryd.func3, Tryd.ntmps3
  go_upto_region 1 with fail
  try rw [hw0]
  try rw [HQ0.out]
  clear hw0
  obtain ⟨a0, a1, a2, a3, a4, a5, a6, a7⟩ := HA.out.cells
  go_wp2_with fail
  refine (HBG.out _ HM.out).mono ?_
  rintro r w2 ⟨bb, rfl, -, -, hb2⟩
  have HB2 := Lib.hid (bchain HB.out hb2)
  have HA2 := Lib.hid (HA.out.below hb2)
  have HM2 := Lib.hid (HM.out.below hb2)
  have HT2 := Lib.hid (HT.out.below hb2)
  clear hb2 a0 a1 a2 a3 a4 a5 a6 a7
  cases bb with
  | true =>
    go_wp2_with fail
    refine (HWK.out _ HT2.out).mono ?_
    rintro r w3 ⟨rfl, hb3⟩
    have HB3 := Lib.hid (bchain HB2.out hb3)
    clear hb3
    go_wp2
    go_ret
    exact ⟨rfl, HB3.out⟩
  | false =>
  by_cases hs : 500 < s.length
  · have p1 : decide ((500 : Int) < (s.length : Int)) = true := decide_eq_true (by omega)
    clear hs
    go_wp2_with fail
    refine (HWK.out _ HT2.out).mono ?_
    rintro r w3 ⟨rfl, hb3⟩
    have HB3 := Lib.hid (bchain HB2.out hb3)
    clear hb3
    go_wp2
    go_ret
    exact ⟨rfl, HB3.out⟩
  have p1 : decide ((500 : Int) < (s.length : Int)) = false := decide_eq_false (by omega)
  have HSL : Hid (s.length ≤ 1000000) := Lib.hid (by omega)
  clear hs
  obtain ⟨a0, a1, a2, a3, a4, a5, a6, a7⟩ := HA2.out.cells
  go_wp2_with fail
  refine (HE1.out _ HM2.out).mono ?_
  rintro r w3 ⟨rfl, hb3⟩
  have HB3 := Lib.hid (bchain HB2.out hb3)
  have HA3 := Lib.hid (HA2.out.below hb3)
  have HM3 := Lib.hid (HM2.out.below hb3)
  have HT3 := Lib.hid (HT2.out.below hb3)
  clear hb3 a0 a1 a2 a3 a4 a5 a6 a7
  obtain ⟨a0, a1, a2, a3, a4, a5, a6, a7⟩ := HA3.out.cells
  go_wp2_with fail
  refine (HE2.out _ HM3.out).mono ?_
  rintro r w4 ⟨rfl, hb4⟩
  have HB4 := Lib.hid (bchain HB3.out hb4)
  have HA4 := Lib.hid (HA3.out.below hb4)
  have HM4 := Lib.hid (HM3.out.below hb4)
  have HT4 := Lib.hid (HT3.out.below hb4)
  clear hb4 a0 a1 a2 a3 a4 a5 a6 a7
  go_wp2_with fail
  refine (HD1.out _ HSL.out).mono ?_
  rintro r w5 ⟨z1, rfl, hm5, hb5⟩
  obtain ⟨A1, cap1, rfl⟩ := hm5.mems.form
  obtain ⟨w6, hw6, hb6, rb⟩ := tx_box y (.slice A1 y.mem.length cap1) w5
  obtain ⟨q5, hq5⟩ : ∃ q5, w5.heap.size = q5 := ⟨_, rfl⟩
  rw [hq5] at rb
  have HQ5 := Lib.hid hq5
  have hb56 := bchain hb5 hb6
  have HB6 := Lib.hid (bchain HB4.out hb56)
  have HA6 := Lib.hid (HA4.out.below hb56)
  have HM6 := Lib.hid (HM4.out.below hb56)
  have HT6 := Lib.hid (HT4.out.below hb56)
  have HY6 := Lib.hid rb
  have HN6 := Lib.hid (hm5.mems.below hb6)
  clear hm5 hb5 hb6 rb hq5 hb56
  unfold xval
  go_upto_region 6 with fail
  try rw [hw6]
  try rw [HQ5.out]
  clear hw6
  go_wp2_with fail
  refine (HD2.out _ HSL.out).mono ?_
  rintro r w7 ⟨z2, rfl, hm7, hb7⟩
  obtain ⟨A2, cap2, rfl⟩ := hm7.mems.form
  obtain ⟨w8, hw8, hb8, rb⟩ := tx_box y (.slice A2 y.mem.length cap2) w7
  obtain ⟨q7, hq7⟩ : ∃ q7, w7.heap.size = q7 := ⟨_, rfl⟩
  rw [hq7] at rb
  have HQ7 := Lib.hid hq7
  have hb78 := bchain hb7 hb8
  have HB8 := Lib.hid (bchain HB6.out hb78)
  have HA8 := Lib.hid (HA6.out.below hb78)
  have HM8 := Lib.hid (HM6.out.below hb78)
  have HT8 := Lib.hid (HT6.out.below hb78)
  have HY8 := Lib.hid (HY6.out.below hb78)
  have HN8 := Lib.hid (HN6.out.below hb78)
  have HU8 := Lib.hid rb
  have HO8 := Lib.hid (hm7.mems.below hb8)
  clear hm7 hb7 hb8 rb hq7 hb78
  unfold xval
  go_upto_region 7 with fail
  try rw [hw8]
  try rw [HQ7.out]
  clear hw8
  have HSM := Lib.hid (sameTx_any y y (.slice A1 y.mem.length cap1) (.slice A2 y.mem.length cap2) w8 HN8.out HO8.out HXM.out HXM.out)
  rw [show decide (y = y) = true from decide_eq_true rfl] at HSM
  unfold xval at HSM
  have s1 : (S != S) = false := bne_self_eq_false _
  have s2 : (S == S) = true := beq_self_eq_true _
  have s3 : (E != E) = false := bne_self_eq_false _
  have s4 : (cy != cy) = false := bne_self_eq_false _
  obtain ⟨b0, b1, b2, b3, b4, b5, b6, b7⟩ := HY8.out.cells
  obtain ⟨c0, c1, c2, c3, c4, c5, c6, c7⟩ := HU8.out.cells
  go_wp2_with fail
  refine HSM.out.mono ?_
  rintro r w9 ⟨rfl, hb9⟩
  have HB9 := Lib.hid (bchain HB8.out hb9)
  have HA9 := Lib.hid (HA8.out.below hb9)
  have HM9 := Lib.hid (HM8.out.below hb9)
  have HT9 := Lib.hid (HT8.out.below hb9)
  clear hb9 b0 b1 b2 b3 b4 b5 b6 b7 c0 c1 c2 c3 c4 c5 c6 c7
  have s5 : (C == C) = true := beq_self_eq_true _
  have HF1 : Hid (∀ w', Below w9.heap.size w9 w' → Calls Tryd.prog 15 #[.agg #[.int .i64 x.kind, .string ⟨x.frm.toArray⟩, .int .i64 x.seq, .string ⟨x.dst.toArray⟩, .int .i64 x.amt, .string ⟨x.key.toArray⟩, .string ⟨x.val.toArray⟩, .slice Az x.mem.length capz]] w' fun r w'' => r = .returned (.int .i64 C) ∧ Below w9.heap.size w9 w'') := Lib.hid (fun w' h => (HC1.out w' (HM9.out.below h)).mono fun r w'' ⟨p, q⟩ => ⟨p, bchain h q⟩)
  have HF2 : Hid (∀ w', Below w9.heap.size w9 w' → Calls Tryd.prog 16 #[.agg #[.int .i64 x.kind, .string ⟨x.frm.toArray⟩, .int .i64 x.seq, .string ⟨x.dst.toArray⟩, .int .i64 x.amt, .string ⟨x.key.toArray⟩, .string ⟨x.val.toArray⟩, .slice Az x.mem.length capz]] w' fun r w'' => r = .returned (.int .i64 C) ∧ Below w9.heap.size w9 w'') := Lib.hid (fun w' h => (HC2.out w' (HM9.out.below h)).mono fun r w'' ⟨p, q⟩ => ⟨p, bchain h q⟩)
  have HF3 : Hid (∀ w', Below w9.heap.size w9 w' → Calls Tryd.prog 9 #[] w' fun r w'' => r = .returned (.bool true) ∧ Below w9.heap.size w9 w'') := Lib.hid (fun w' h => (HWK.out w' (HT9.out.below h)).mono fun r w'' ⟨p, q⟩ => ⟨p, bchain h q⟩)
  have HCE : Hid (∀ w', Below w9.heap.size w9 w' → w'.cell? ⟨q0, 0, none⟩ = some (.int .i64 x.kind) ∧ w'.cell? ⟨q0, 1, none⟩ = some (.string ⟨x.frm.toArray⟩) ∧ w'.cell? ⟨q0, 2, none⟩ = some (.int .i64 x.seq) ∧ w'.cell? ⟨q0, 3, none⟩ = some (.string ⟨x.dst.toArray⟩) ∧ w'.cell? ⟨q0, 4, none⟩ = some (.int .i64 x.amt) ∧ w'.cell? ⟨q0, 5, none⟩ = some (.string ⟨x.key.toArray⟩) ∧ w'.cell? ⟨q0, 6, none⟩ = some (.string ⟨x.val.toArray⟩) ∧ w'.cell? ⟨q0, 7, none⟩ = some (.slice Az x.mem.length capz)) := Lib.hid (fun w' h => (HA9.out.below h).cells)
  have BD : Below w9.heap.size w9 w9.drew := (Below.refl _ _).drew
  obtain ⟨a0, a1, a2, a3, a4, a5, a6, a7⟩ := HCE.out _ (Below.refl _ _)
  go_upto_region 9 with fail
  go_region_with (first | (go_at_call 15; refine (HF1.out _ (by with_reducible assumption)).mono ?_; rintro r wa ⟨rfl, hba⟩; obtain ⟨b0, b1, b2, b3, b4, b5, b6, b7⟩ := HCE.out _ hba) | (go_at_call 16; refine (HF2.out _ (by with_reducible assumption)).mono ?_; rintro r wb ⟨rfl, hbb⟩; obtain ⟨c0, c1, c2, c3, c4, c5, c6, c7⟩ := HCE.out _ hbb) | (go_at_call 9; refine (HF3.out _ (by with_reducible assumption)).mono ?_; rintro r wc ⟨rfl, hbc⟩))
  all_goals
    go_wp2
    go_ret
    exact ⟨rfl, bchain HB9.out hbc⟩
theorem txCodes_law (x : X) (z : Value) (s : ByteArray) (w : World) (_ : OkX x) (hz : Mems w z x.mem) (_ : s.size ≤ maxLen) (hT : Tab w) :
    Calls Tryd.prog 3 #[xval x z, .string s] w fun r w' => r = .returned (.bool true) ∧ Below w.heap.size w w' := by
  obtain ⟨l, rfl⟩ := bytes_list s
  exact txCodes_walk x z l w hz hT
end Go.Proofs.YtddjkiejekfekaaDoor
namespace Go.Proofs.YtddjkiejekfekaaDoor
open Go.ChangeShapes Go.WideShapes Go.ChangeAt Go.RowKit

theorem gK : Tryd.prog.globalNamed "pharos/sha.constants" = some 0 := by kernel_rfl
theorem tK : (Tryd.prog.globals[0]?).map (·.type) = some 102 := by kernel_rfl
theorem cK : Tryd.prog.cellsOf 102 = 64 := by kernel_rfl
theorem cW : Tryd.prog.cellsOf 84 = 1 := by kernel_rfl
def laidK : List (String × DataW Unit) := [("pharos/sha.constants", Rows.laid_pharos_sha_constants)]
theorem tab_of_laid {W : World} (h : laidMetH Tryd.prog laidK W) : Tab W := by
  rw [MakeChecks.laidMetH_plain _ _ _ (by kernel_rfl)] at h
  obtain ⟨g, t, cs, fuel, p, hg, hty, hvar, hd⟩ := Lib.laidMet.reads h (.head _)
  obtain rfl := Option.some.inj (gK.symm.trans hg)
  obtain rfl := Option.some.inj (tK.symm.trans hty)
  have hd' : DataW.trod (fun _ => ()) Tryd.prog W 0 (fun _ => true) false fuel 102 cs.toList = some (Lib.tabData .u32 Sha.kTab, p) := hd
  have hcs := Lib.cells_of_tab Tryd.underlying102 Tryd.underlying84 cW cK hd'
  intro i hi
  have hk : i < Sha.kTab.length := hi
  rw [World.var?_cell hg hvar i, ← Array.getElem?_toList, hcs]
  simp [hk]
/-- The door's own heap meets the condition. -/
theorem door_met (os : Os) (args : Array Value) : laidMetH Tryd.prog laidK ((World.doorLaid Tryd.prog 400 os).forCall (fun _ _ => 0) ⟨#[], args, []⟩).memory :=
  laidMetH_of_parts3 (fuel := 8) (laidMet_of_run' 8 (by kernel_rfl) (by kernel_rfl)) (by kernel_rfl) (by kernel_rfl)
end Go.Proofs.YtddjkiejekfekaaDoor
namespace Go.Proofs.YtddjkiejekfekaaDoor
open Go.RowKit

/-- A number below n. -/
def Bk.below (a n : Int) : Int := (a.tmod n + n) % n
theorem Bk.below_in (a : Int) (n : Nat) (hn : 0 < n) : 0 ≤ Bk.below a n ∧ Bk.below a n < n := by
  have h1 : -(n : Int) < a.tmod n := Int.lt_tmod_of_pos a (by omega)
  unfold Bk.below
  have h2 : 0 ≤ a.tmod n + n := by omega
  exact ⟨Int.emod_nonneg _ (by omega), Int.emod_lt_of_pos _ (by omega)⟩
theorem Bk.below_nat (a : Int) (n : Nat) (hn : 0 < n) : ∃ k : Nat, Bk.below a n = k ∧ k < n := by
  obtain ⟨h1, h2⟩ := Bk.below_in a n hn
  exact ⟨(Bk.below a n).toNat, by omega, by omega⟩
set_option maxHeartbeats 400000 in
theorem below_any (a : Int) (n : Nat) (w : World) (hn : 0 < n) (hb : n ≤ 1000000) :
    Calls Tryd.prog 25 #[.int .i64 a, .int .i64 n] w fun e w' => e = .returned (.int .i64 (Bk.below a n)) ∧ w' = w := by
  have h1 : -(n : Int) < a.tmod n := Int.lt_tmod_of_pos a (by omega)
  have h2 : a.tmod n < (n : Int) := Int.tmod_lt_of_pos a (by omega)
  have h3 : IntKind.i64.wrap (a.tmod n + n) = a.tmod n + n := by
    unfold IntKind.wrap
    simp [IntKind.signed, IntKind.bits]
    omega
  have h0 : ((n : Int) == 0) = false := by rw [beq_eq_false_iff_ne]; omega
  have h00 : ¬ ((n : Int) = 0) := by omega
  have hm : (n : Int) ≠ -1 := by omega
  unfold Bk.below
  go_enter Tryd.func25, Tryd.ntmps25
  go_wp2
  go_ret
  exact ⟨rfl, rfl⟩

end Go.Proofs.YtddjkiejekfekaaDoor
