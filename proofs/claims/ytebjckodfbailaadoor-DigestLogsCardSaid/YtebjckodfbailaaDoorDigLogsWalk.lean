/- DigestLogs: whatever is noted, one after the other, a log refuses it, tells all, finds sums, and tells its first clash, as the document has it. -/
import Derived.Test.YtebjckodfbailaaDoorDigTells
import Derived.Test.YtebjckodfbailaaDoorDigWorks
import Derived.Test.YtebjckodfbailaaDoorArgSteps
namespace Go.Proofs.YtebjckodfbailaaDoor
open Go.RowKit

/-- A log of the things G in block g, and the document's list v of the things H. -/
structure LogAll (w : World) (B g : Nat) (F : Nat → Prop) (v : Value) (G H : List Dig.N) : Prop where
  log : LogAt w g F G
  from_ : ∀ k, F k → B ≤ k
  all : AllIs w v H
  apart : ∀ k, v.ownBlock = some k → ¬ F k
theorem LogAll.below {w w' : World} {B g : Nat} {F : Nat → Prop} {v : Value} {G H : List Dig.N} (h : LogAll w B g F v G H) (hb : Below w.heap.size w w') : LogAll w' B g F v G H :=
  ⟨h.log.below hb, h.from_, h.all.below hb, h.apart⟩
theorem LogAll.step {w w' : World} {B g : Nat} {F F' : Nat → Prop} {v : Value} {G G' H : List Dig.N} (h : LogAll w B g F v G H) (hB : B ≤ w.heap.size) (hF : ∀ k, F' k → F k ∨ w.heap.size ≤ k) (hl : LogAt w' g F' G') (ho : Out F w w') : LogAll w' B g F' v G' H :=
  ⟨hl, fun k hk => (hF k hk).elim (h.from_ k) (fun hs => Nat.le_trans hB hs), h.all.out ho h.apart, fun k hk hf => (hF k hf).elim (h.apart k hk) (fun hs => absurd (h.all.lt k hk) (by omega))⟩
theorem LogAll.cell {w w' : World} {B g x : Nat} {F : Nat → Prop} {v : Value} {G H : List Dig.N} (h : LogAll w B g F v G H) (ho : Out (fun i => i = x) w w') (hx : ¬ F x) (hv : ∀ k, v.ownBlock = some k → k ≠ x) : LogAll w' B g F v G H :=
  ⟨h.log.out ho (fun _ hk e => hx (e ▸ hk)), h.from_, h.all.out ho hv, h.apart⟩
theorem LogAll.put {w w' : World} {B g : Nat} {F : Nat → Prop} {v v' : Value} {G H H' : List Dig.N} (h : LogAll w B g F v G H) (hb : Below w.heap.size w w') (ha : AllIs w' v' H') (hv : v' = v ∨ ∀ k, v'.ownBlock = some k → w.heap.size ≤ k) : LogAll w' B g F v' G H' :=
  ⟨h.log.below hb, h.from_, ha, fun k hk hf => by
    rcases hv with rfl | hv
    · exact h.apart k hk hf
    · exact absurd (h.log.lt k hf) (by have := hv k hk; omega)⟩
theorem LogAll.bel {w w' : World} {B g : Nat} {F : Nat → Prop} {v : Value} {G H : List Dig.N} (h : LogAll w B g F v G H) (hB : B ≤ w.heap.size) (ho : Out F w w') : Below B w w' := ho.below h.from_ hB
theorem Dig.putL_succ (L : List Dig.N) (n : Dig.N) : (Dig.putL L n).length ≤ L.length + 1 := by unfold Dig.putL; split <;> simp
theorem Steps.form {w : World} {v : Value} {L : List StepN} (h : Steps w v L) : ∃ A cap, v = .slice A L.length cap := by
  obtain ⟨A, cap, e, _⟩ := h; exact ⟨A, cap, e⟩

set_option maxRecDepth 8000 in
set_option maxHeartbeats 4000000 in
theorem logs_walk (v : Value) (L : List StepN) (s : ByteArray) (w : World) (hv : Steps w v L) (hlen : L.length * 48 ≤ reachBytes) (hok : ∀ n ∈ L, OkN n.note) (_hs : s.size ≤ maxLen) (hz : s.data.toList.length ≤ reachBytes) (hT : Tab w) :
    Calls Tryd.prog 4 #[v, .string s] w fun e w' => e = .returned (.bool true) ∧ Below w.heap.size w w' := by
  have hr : reachBytes = 140737488351232 := rfl
  obtain ⟨l, rfl⟩ := bytes_list s
  have hl : l.length ≤ 140737488351232 := by simpa [hr] using hz
  have HLL := Lib.hid hl
  have HOK := Lib.hid hok
  have HT := Lib.hid hT
  have hll : L.length ≤ 4000000000000 := by omega
  obtain ⟨A, cap, rfl, hc⟩ := hv
  have HC := Lib.hid hc
  clear hc hlen hok _hs hz hT hr hl
  go_enter Tryd.func4, Tryd.ntmps4
  go_wp2_with fail
  refine (newLog_any _).mono ?_
  rintro e w1 ⟨g, F0, rfl, hF0, hl0, hb0⟩
  have HB0 := Lib.hid hb0
  have HL0 := Lib.hid (show LogAll w1 w.heap.size g F0 (.slice none 0 0) [] [] from ⟨hl0, hF0, Or.inl ⟨rfl, rfl⟩, fun k hk => by simp [Value.ownBlock] at hk⟩)
  clear hF0 hl0 hb0
  go_wp2
  go_loopw [6, 7] (fun av iv wr => ∃ (k : Nat) (v' : Value) (G : List Dig.N) (F : Nat → Prop), v' = av ∧ k ≤ L.length ∧ k ≤ 30 ∧ iv = .int .i64 k ∧ LogAll wr w.heap.size g F v' G G ∧ G.length ≤ k ∧ Below w.heap.size w wr) (fun _ i _ => L.length - (intOf i).toNat)
  case atStart => exact ⟨0, _, [], F0, rfl, Nat.zero_le _, by omega, rfl, HL0.out, Nat.le_refl _, HB0.out⟩
  case round =>
    obtain ⟨k, v', G, F, rfl, hk, hk30, rfl, hla, hgk, hb⟩ := hrel
    have HB := Lib.hid hb
    have HLA := Lib.hid hla
    clear hla hb
    by_cases hlt : k < L.length ∧ k < 30
    · obtain ⟨hlt, h30⟩ := hlt
      have h1 : (k : Int) < (L.length : Int) := by omega
      have h2 : (k : Int) < 30 := by omega
      have h0 : (0 : Int) ≤ (k : Int) := by omega
      obtain ⟨b, o, rfl, hbl, hcell⟩ := HC.out (by omega)
      obtain ⟨n0, n1, n2, n3⟩ := hcell k hlt
      have n0 := (HB.out.cell (p := ⟨b, o + k * 4, none⟩) hbl).trans n0
      have n1 := (HB.out.cell (p := ⟨b, o + k * 4 + 1, none⟩) hbl).trans n1
      have n2 := (HB.out.cell (p := ⟨b, o + k * 4 + 2, none⟩) hbl).trans n2
      have n3 := (HB.out.cell (p := ⟨b, o + k * 4 + 3, none⟩) hbl).trans n3
      have HNOK := Lib.hid (HOK.out L[k] (List.getElem_mem hlt))
      obtain ⟨n, hn⟩ : ∃ n, L[k].note = n := ⟨_, rfl⟩
      obtain ⟨ow, how⟩ : ∃ ow, L[k].own = ow := ⟨_, rfl⟩
      rw [hn] at n1 n2 n3 HNOK
      rw [how] at n0
      have hbsz : b < wr.heap.size := Nat.lt_of_lt_of_le hbl HB.out.size
      have HB0 := Lib.hid (HB.out.alloc HB.out.size (.cells #[.int .i64 n.tag, .string ⟨n.text.toArray⟩, .string ⟨n.dig.toArray⟩] 35))
      have HLA0 := Lib.hid (HLA.out.below ((Below.refl _ wr).alloc (Nat.le_refl _) (.cells #[.int .i64 n.tag, .string ⟨n.text.toArray⟩, .string ⟨n.dig.toArray⟩] 35)))
      have HBX := Lib.hid (heap_new_at wr (.cells #[.int .i64 n.tag, .string ⟨n.text.toArray⟩, .string ⟨n.dig.toArray⟩] 35) _ rfl)
      have HFLT : Hid (∀ j, F j → j < wr.heap.size) := Lib.hid HLA.out.log.lt
      have HVLT : Hid (∀ j, v'.ownBlock = some j → j < wr.heap.size) := Lib.hid HLA.out.all.lt
      clear hn how hcell
      by_cases hbt : (100 : Int) < (n.text.length : Int)
      · have hbtd : decide ((100 : Int) < (n.text.length : Int)) = true := decide_eq_true hbt
        go_wp2
        refine ⟨⟨k + 1, v', G, F, rfl, by omega, by omega, by go_num, HLA0.out, by omega, HB0.out⟩, by simp [intOf]; omega⟩
      have hbtd : decide ((100 : Int) < (n.text.length : Int)) = false := decide_eq_false hbt
      by_cases hbd : (100 : Int) < (n.dig.length : Int)
      · have hbdd : decide ((100 : Int) < (n.dig.length : Int)) = true := decide_eq_true hbd
        go_wp2
        refine ⟨⟨k + 1, v', G, F, rfl, by omega, by omega, by go_num, HLA0.out, by omega, HB0.out⟩, by simp [intOf]; omega⟩
      have hbdd : decide ((100 : Int) < (n.dig.length : Int)) = false := decide_eq_false hbd
      have htl : n.text.length ≤ 100 := by omega
      have hdl : n.dig.length ≤ 100 := by omega
      obtain ⟨c0, c1, c2, f0, f1, f2⟩ := cells3 HBX.out
      cases ow with
      | false =>
        have HRP := Lib.hid (rPut_any G n v' _ HLA0.out.all (by omega))
        obtain ⟨C, hC⟩ : ∃ C, Dig.putC G n = C := ⟨_, rfl⟩
        obtain ⟨Q, hQ⟩ : ∃ Q, Dig.putL G n = Q := ⟨_, rfl⟩
        have HGP := Lib.hid (fun F w hl => put_any n G g F w hl HNOK.out)
        rw [hC, hQ] at HGP
        have hQl : Q.length ≤ k + 1 := by have := Dig.putL_succ G n; rw [hQ] at this; omega
        unfold nval at HRP HGP
        have HCC := Lib.hid hC
        have HQQ := Lib.hid hQ
        clear hC hQ
        go_wp2_with fail
        refine HRP.out.mono ?_
        rintro e w2 ⟨vT, rfl, hb2, ha2, hv2⟩
        rw [HCC.out]
        rw [HQQ.out] at ha2
        have HL2 := Lib.hid (HLA0.out.put hb2 ha2 hv2)
        have HB2 := Lib.hid (bchain HB0.out hb2)
        have hbx2 := (hb2.block wr.heap.size (by simp)).trans HBX.out
        have HBX2 := Lib.hid hbx2
        obtain ⟨c0, c1, c2, f0, f1, f2⟩ := cells3 hbx2
        have hsz2 : wr.heap.size < w2.heap.size := lt_of_heap hbx2
        clear hb2 ha2 hv2 hbx2
        go_wp2_with fail
        refine (HGP.out F w2 HL2.out.log).mono ?_
        rintro e w3 ⟨rfl, FT, hF3, hl3, ho3⟩
        have HLT := Lib.hid (HL2.out.step HB2.out.size hF3 hl3 ho3)
        have HBT := Lib.hid (HB2.out.trans (HL2.out.bel HB2.out.size ho3))
        have hbx3 := ho3.heap HBX2.out (fun hf => absurd (HFLT.out _ hf) (by omega))
        obtain ⟨c0, c1, c2, f0, f1, f2⟩ := cells3 hbx3
        clear hF3 hl3 ho3 hbx3
        have HT1 := Lib.hid (tells_any Q vT g FT n.dig w3 HLT.out.log HLT.out.all (by omega))
        go_wp2_with fail
        refine HT1.out.mono ?_
        rintro e wa ⟨rfl, hba⟩
        have HLA2 := Lib.hid (HLT.out.below hba)
        have HBA := Lib.hid (bchain HBT.out hba)
        have HT2 := Lib.hid (tells_any Q vT g FT l wa HLA2.out.log HLA2.out.all HLL.out)
        clear hba
        go_wp2_with fail
        refine HT2.out.mono ?_
        rintro e wb ⟨rfl, hbb⟩
        have HLB := Lib.hid (HLA2.out.below hbb)
        have HBB := Lib.hid (bchain HBA.out hbb)
        clear hbb
        go_wp2
        refine ⟨⟨k + 1, vT, Q, FT, rfl, by omega, by omega, by go_num, HLB.out, hQl, HBB.out⟩, by simp [intOf]; omega⟩
      | true =>
        have hown : OkN (Dig.noted n.tag n.text) := okNoted n.tag n.text HNOK.out.tag (by omega)
        have HD := Lib.hid (fun w hT => dsum_any n.tag n.text w hT (by omega))
        have HNO := Lib.hid (fun F w hl hT => note_any n.tag n.text G g F w hl hT HNOK.out.tag (by omega))
        by_cases htag : Dig.isTag n.tag = true
        · have hsc : Dig.sumC n.tag = 0 := by simp [Dig.sumC, htag]
          have hd32 : (Dig.sum n.tag n.text).length = 32 := by rw [Dig.sum, if_pos htag]; exact Sha.sumP_length _
          have hdlen := hd32
          have hpc : Dig.putC G (Dig.noted n.tag n.text) = 0 := by
            have hg : ¬ 1024 ≤ G.length := by omega
            simp [Dig.putC, Dig.noted, htag, hd32, hg]
          have hns : Dig.noteS G n.tag n.text = Dig.sum n.tag n.text := by rw [Dig.noteS, if_pos hpc]
          have HRP := Lib.hid (fun v w ha => rPut_any G (Dig.noted n.tag n.text) v w ha (by omega))
          rw [hsc] at HD
          rw [hpc, hns] at HNO
          obtain ⟨Q, hQ⟩ : ∃ Q, Dig.putL G (Dig.noted n.tag n.text) = Q := ⟨_, rfl⟩
          have hQl : Q.length ≤ k + 1 := by have := Dig.putL_succ G (Dig.noted n.tag n.text); rw [hQ] at this; omega
          rw [hQ] at HNO
          have HPCC := Lib.hid hpc
          have HQQ := Lib.hid hQ
          unfold nval at HRP
          have e1 : (Dig.noted n.tag n.text).tag = n.tag := rfl
          have e2 : (Dig.noted n.tag n.text).text = n.text := rfl
          have e3 : (Dig.noted n.tag n.text).dig = Dig.sum n.tag n.text := rfl
          rw [e1, e2, e3] at HRP
          obtain ⟨D, hD⟩ : ∃ D, Dig.sum n.tag n.text = D := ⟨_, rfl⟩
          rw [hD] at HD HNO HRP hdlen
          have HDL : Hid (D.length ≤ 140737488351232) := Lib.hid (by omega)
          clear hQ hpc hns hsc hd32 htag e1 e2 e3 hD hown hdlen
          go_wp2_with fail
          refine (HD.out _ (HT.out.below HB0.out)).mono ?_
          rintro e w2 ⟨rfl, hb2⟩
          have HL2 := Lib.hid (HLA0.out.below hb2)
          have HB2 := Lib.hid (bchain HB0.out hb2)
          have hbx2 := (hb2.block wr.heap.size (by simp)).trans HBX.out
          have HBX2 := Lib.hid hbx2
          obtain ⟨c0, c1, c2, f0, f1, f2⟩ := cells3 hbx2
          have hsz2 : wr.heap.size < w2.heap.size := lt_of_heap hbx2
          clear hb2 hbx2
          go_wp2_with fail
          refine (HNO.out F w2 HL2.out.log (HT.out.below HB2.out)).mono ?_
          rintro e w3 ⟨rfl, FT, hF3, hl3, ho3⟩
          have HL3 := Lib.hid (HL2.out.step HB2.out.size hF3 hl3 ho3)
          have HB3 := Lib.hid (HB2.out.trans (HL2.out.bel HB2.out.size ho3))
          have hbx3 := ho3.heap HBX2.out (fun hf => absurd (HFLT.out _ hf) (by omega))
          have HBX3 := Lib.hid hbx3
          have hnF : ¬ FT wr.heap.size := fun hf => (hF3 _ hf).elim (fun h => absurd (HFLT.out _ h) (by omega)) (fun h => absurd h (by omega))
          obtain ⟨c0, c1, c2, f0, f1, f2⟩ := cells3 hbx3
          have hos : Out (fun i => i = wr.heap.size) w3 (w3.setCell ⟨wr.heap.size, 2, none⟩ (.string ⟨D.toArray⟩)) := (Out.refl (fun i => i = wr.heap.size) w3).setCell (p := ⟨wr.heap.size, 2, none⟩) rfl _
          have HL4 := Lib.hid (HL3.out.cell hos hnF (fun j hj e => absurd (HVLT.out j hj) (by omega)))
          have HB4 := Lib.hid (HB3.out.trans (hos.below (B := w.heap.size) (fun j hj => hj ▸ HB.out.size) HB3.out.size))
          have hbx4 := heap_setCell_same _ _ 2 _ _ (.string ⟨D.toArray⟩) hbx3
          have HBX4 := Lib.hid hbx4
          clear hF3 hl3 ho3 hbx3 hos hnF
          go_upto_region 15 with fail
          generalize hw4 : w3.setCell ⟨wr.heap.size, 2, none⟩ (.string ⟨D.toArray⟩) = w4 at *
          have hbx5 : w4.heap[wr.heap.size]? = some (.cells #[.int .i64 n.tag, .string ⟨n.text.toArray⟩, .string ⟨D.toArray⟩] 35 (0, 0)) := by have := HBX4.out; simpa using this
          have HBX5 := Lib.hid hbx5
          obtain ⟨d0, d1, d2, g0, g1, g2⟩ := cells3 hbx5
          clear hw4 c0 c1 c2 f0 f1 f2 hbx4 hbx5
          go_wp2_with fail
          refine (HRP.out v' w4 HL4.out.all).mono ?_
          rintro e w5 ⟨vT, rfl, hb5, ha5, hv5⟩
          rw [HPCC.out]
          rw [HQQ.out] at ha5
          have HLT := Lib.hid (HL4.out.put hb5 ha5 hv5)
          have HBT := Lib.hid (bchain HB4.out hb5)
          obtain ⟨c0, c1, c2, f0, f1, f2⟩ := cells3 ((hb5.block wr.heap.size (lt_of_heap HBX5.out)).trans HBX5.out)
          clear hb5 ha5 hv5 d0 d1 d2 g0 g1 g2
          have HT1 := Lib.hid (tells_any Q vT g FT D w5 HLT.out.log HLT.out.all HDL.out)
          go_wp2_with fail
          refine HT1.out.mono ?_
          rintro e wa ⟨rfl, hba⟩
          have HLA2 := Lib.hid (HLT.out.below hba)
          have HBA := Lib.hid (bchain HBT.out hba)
          have HT2 := Lib.hid (tells_any Q vT g FT l wa HLA2.out.log HLA2.out.all HLL.out)
          clear hba
          go_wp2_with fail
          refine HT2.out.mono ?_
          rintro e wb ⟨rfl, hbb⟩
          have HLB := Lib.hid (HLA2.out.below hbb)
          have HBB := Lib.hid (bchain HBA.out hbb)
          clear hbb
          go_wp2
          refine ⟨⟨k + 1, vT, Q, FT, rfl, by omega, by omega, by go_num, HLB.out, hQl, HBB.out⟩, by simp [intOf]; omega⟩
        · have hf : Dig.isTag n.tag = false := by simpa using htag
          have hsc : Dig.sumC n.tag = 1 := by simp [Dig.sumC, hf]
          have hsu : Dig.sum n.tag n.text = [] := by simp [Dig.sum, hf]
          have hpc : Dig.putC G (Dig.noted n.tag n.text) = 1 := by simp [Dig.putC, Dig.noted, hf]
          have hns : Dig.noteS G n.tag n.text = [] := by simp [Dig.noteS, hpc]
          have hpl : Dig.putL G (Dig.noted n.tag n.text) = G := by rw [Dig.putL, if_neg (fun h => htag h.1)]
          rw [hsc, hsu] at HD
          rw [hpc, hns, hpl] at HNO
          clear hpc hns hsc htag hf hpl hsu hown
          go_wp2_with fail
          refine (HD.out _ (HT.out.below HB0.out)).mono ?_
          rintro e w2 ⟨rfl, hb2⟩
          have HL2 := Lib.hid (HLA0.out.below hb2)
          have HB2 := Lib.hid (bchain HB0.out hb2)
          have hbx2 := (hb2.block wr.heap.size (by simp)).trans HBX.out
          have HBX2 := Lib.hid hbx2
          obtain ⟨c0, c1, c2, f0, f1, f2⟩ := cells3 hbx2
          have hsz2 : wr.heap.size < w2.heap.size := lt_of_heap hbx2
          clear hb2 hbx2
          go_wp2_with fail
          refine (HNO.out F w2 HL2.out.log (HT.out.below HB2.out)).mono ?_
          rintro e w3 ⟨rfl, FT, hF3, hl3, ho3⟩
          have HL3 := Lib.hid (HL2.out.step HB2.out.size hF3 hl3 ho3)
          have HB3 := Lib.hid (HB2.out.trans (HL2.out.bel HB2.out.size ho3))
          have hbx3 := ho3.heap HBX2.out (fun hf => absurd (HFLT.out _ hf) (by omega))
          have hnF : ¬ FT wr.heap.size := fun hf => (hF3 _ hf).elim (fun h => absurd (HFLT.out _ h) (by omega)) (fun h => absurd h (by omega))
          obtain ⟨c0, c1, c2, f0, f1, f2⟩ := cells3 hbx3
          have hos : Out (fun i => i = wr.heap.size) w3 (w3.setCell ⟨wr.heap.size, 2, none⟩ (.string ⟨#[]⟩)) := (Out.refl (fun i => i = wr.heap.size) w3).setCell (p := ⟨wr.heap.size, 2, none⟩) rfl _
          have HLT := Lib.hid (HL3.out.cell hos hnF (fun j hj e => absurd (HVLT.out j hj) (by omega)))
          have HBT := Lib.hid (HB3.out.trans (hos.below (B := w.heap.size) (fun j hj => hj ▸ HB.out.size) HB3.out.size))
          have hbx4 := heap_setCell_same _ _ 2 _ _ (.string ⟨#[]⟩) hbx3
          have HBX4 := Lib.hid hbx4
          clear hF3 hl3 ho3 hbx3 hos hnF
          go_upto_region 15 with fail
          generalize hw4 : w3.setCell ⟨wr.heap.size, 2, none⟩ (.string ⟨#[]⟩) = w4 at *
          have hbx5 : w4.heap[wr.heap.size]? = some (.cells #[.int .i64 n.tag, .string ⟨n.text.toArray⟩, .string ⟨#[]⟩] 35 (0, 0)) := by have := HBX4.out; simpa using this
          obtain ⟨d0, d1, d2, g0, g1, g2⟩ := cells3 hbx5
          clear hw4 c0 c1 c2 f0 f1 f2 hbx4 hbx5
          obtain ⟨vT, hvT⟩ : ∃ x, x = v' := ⟨_, rfl⟩
          subst hvT
          have HT1 := Lib.hid (tells_any G vT g FT [] w4 HLT.out.log HLT.out.all (by simp))
          go_wp2_with fail
          refine HT1.out.mono ?_
          rintro e wa ⟨rfl, hba⟩
          have HLA2 := Lib.hid (HLT.out.below hba)
          have HBA := Lib.hid (bchain HBT.out hba)
          have HT2 := Lib.hid (tells_any G vT g FT l wa HLA2.out.log HLA2.out.all HLL.out)
          clear hba
          go_wp2_with fail
          refine HT2.out.mono ?_
          rintro e wb ⟨rfl, hbb⟩
          have HLB := Lib.hid (HLA2.out.below hbb)
          have HBB := Lib.hid (bchain HBA.out hbb)
          clear hbb
          go_wp2
          refine ⟨⟨k + 1, vT, G, FT, rfl, by omega, by omega, by go_num, HLB.out, (by omega), HBB.out⟩, by simp [intOf]; omega⟩
    · by_cases h : k < L.length
      · have h1 : (k : Int) < (L.length : Int) := by omega
        have h2 : ¬ ((k : Int) < 30) := by omega
        go_wp2_with fail
        refine (works_any _ (HT.out.below HB.out)).mono ?_
        rintro e w9 ⟨rfl, hb9⟩
        go_wp2
        go_ret
        exact ⟨rfl, bchain HB.out hb9⟩
      · have h1 : ¬ ((k : Int) < (L.length : Int)) := by omega
        go_wp2_with fail
        refine (works_any _ (HT.out.below HB.out)).mono ?_
        rintro e w9 ⟨rfl, hb9⟩
        go_wp2
        go_ret
        exact ⟨rfl, bchain HB.out hb9⟩
end Go.Proofs.YtebjckodfbailaaDoor
