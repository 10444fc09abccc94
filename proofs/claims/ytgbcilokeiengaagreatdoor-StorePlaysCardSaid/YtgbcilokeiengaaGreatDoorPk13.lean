/- ShaWorks, DigSum, StorePut, NodeKids, StoreReached -/
import Derived.Test.YtgbcilokeiengaaGreatDoorPk11
import Derived.Test.YtgbcilokeiengaaGreatDoorPk12
import Derived.KernelRfl
import Derived.Test.YtgbcilokeiengaaGreatDoorPk03
import Derived.Test.YtgbcilokeiengaaGreatDoorPk04
import Derived.Deep.RegionHeld3
import Derived.Test.YtgbcilokeiengaaGreatDoorPk05
import Derived.Test.YtgbcilokeiengaaGreatDoorPk07
namespace Go.Proofs.YtgbcilokeiengaaGreatDoor.Sha
set_option maxRecDepth 100000
end Go.Proofs.YtgbcilokeiengaaGreatDoor.Sha
namespace Go.Proofs.YtgbcilokeiengaaGreatDoor
open Go.RowKit

set_option maxRecDepth 8000 in
set_option maxHeartbeats 1000000 in
theorem sum_any (s : List UInt8) (w : World) (hT : Tab w) (hl : s.length ≤ 1152921504606800000) :
    Calls Tryz.prog 39 #[.string ⟨s.toArray⟩] w fun e w' => e = .returned (.string ⟨(Sha.sumP s).toArray⟩) ∧ Below w.heap.size w w' := by
  have hz := (zero_of_info Tryz.zero73).1
  obtain ⟨Z, hZ⟩ : ∃ Z, (hashL ⟨0, 0, 0, 0, 0, 0, 0, 0⟩ (List.replicate 64 0) 0).toArray = Z := ⟨_, rfl⟩
  obtain ⟨C, hC⟩ : ∃ C, (hashL Sha.first (List.replicate 64 0) 0).toArray = C := ⟨_, rfl⟩
  have hZs : Z.size = 73 := by rw [← hZ, List.size_toArray, hashL_length _ _ _ (by simp)]
  have hCs : C.size = 73 := by rw [← hC, List.size_toArray, hashL_length _ _ _ (by simp)]
  have hC1 : C.all (·.oneCell') = true := by rw [← hC]; exact hash_one _ _ _
  have hi : (Tryz.prog.info? 101).map (·.size) = some C.size := by rw [hCs]; exact (zero_of_info Tryz.zero73).2
  have hst : ∀ w' p, w'.heap[p]? = some (.cells C 101 (0, 0)) → HashIs w' p [] := fun w' p h => HashIs.start (by rw [hC]; exact h)
  have hbu := built_hash
  rw [hC] at hbu
  rw [hZ] at hz
  have HBU := Lib.hid hbu
  have HI := Lib.hid hi
  have HC1 := Lib.hid hC1
  have HZC : Hid (Z.size = C.size) := Lib.hid (by rw [hZs, hCs])
  have HST := Lib.hid hst
  have HT := Lib.hid hT
  clear hi hC1 hZs hCs hst hT hC hZ hbu
  go_enter Tryz.func39, Tryz.ntmps39
  go_wp2_with fail
  refine (first_any _).mono ?_
  rintro e w1 ⟨rfl, hb1⟩
  go_wp2_with (first | (refine wpList_build_to (by rfl) _ _ (by rfl) [(0, .agg (u32s Sha.first.list))] (by first | rfl | (simp [Act.eval]; done) | kernel_rfl) C HBU.out ?_) | (refine wpList_store_new (by rfl) _ _ _ (by rfl) w1.heap.size rfl C (by rfl) (by rfl) _ Z HI.out HZC.out HC1.out ?_))
  have hB2 : Below w.heap.size w (w1.alloc (.cells C 101)) := hb1.alloc hb1.size _
  have hh2 : HashIs (w1.alloc (.cells C 101)) w1.heap.size [] := HST.out _ _ (heap_new_at _ _ _ rfl)
  have hT2 := HT.out.below hB2
  have hp : 0 < w1.heap.size := Nat.lt_of_lt_of_le HT.out.pos hb1.size
  have HW := Lib.hid (write_any [] s w1.heap.size _ hh2 hT2 hp (by simp; omega))
  have HB2 := Lib.hid hB2
  have HS1 := Lib.hid hb1.size
  clear hb1 hB2 hh2 hT2
  refine HW.out.mono ?_
  rintro e w3 ⟨rfl, hh3, ho3⟩
  have hB3 : Below w.heap.size w w3 := HB2.out.trans (ho3.below HS1.out HB2.out.size)
  have HS := Lib.hid (hsum_any s w1.heap.size w3 (by simpa using hh3) (HT.out.below hB3) (by omega))
  have HB3 := Lib.hid hB3
  clear hh3 ho3 hB3
  go_wp2_with fail
  refine HS.out.mono ?_
  rintro e w4 ⟨rfl, hb4⟩
  go_wp2
  go_ret
  exact ⟨rfl, HB3.out.trans (hb4.mono HB3.out.size)⟩

end Go.Proofs.YtgbcilokeiengaaGreatDoor
namespace Go.Proofs.YtgbcilokeiengaaGreatDoor
open Go.RowKit

theorem isTag_any (t : Int) (w : World) :
    Calls Tryz.prog 38 #[.int .i64 t] w fun e w' => e = .returned (.bool (Dig.isTag t)) ∧ w' = w := by
  unfold Dig.isTag
  by_cases h1 : 1 ≤ t
  · by_cases h2 : t ≤ 255
    · go_enter Tryz.func38, Tryz.ntmps38
      go_wp2
      go_ret
      simp [h1, h2]
    · go_enter Tryz.func38, Tryz.ntmps38
      go_wp2
      go_ret
      simp [h2]
  · go_enter Tryz.func38, Tryz.ntmps38
    go_wp2
    go_ret
    simp
    omega

/-- What Sum answers. -/
def Dig.sum (t : Int) (s : List UInt8) : List UInt8 := if Dig.isTag t then Sha.sumP (Sha.byteOf t :: s) else []
def Dig.sumC (t : Int) : Int := if Dig.isTag t then 0 else 1
theorem conv_tag (w : World) (x : Int) : (convert 80 9 (.slice (some ⟨w.heap.size, 0, none⟩) 1 1)).run Tryz.prog (w.alloc (.cells #[.int .u8 (x % 256)] 5)) = .ok (.string ⟨[Sha.byteOf x].toArray⟩) (w.alloc (.cells #[.int .u8 (x % 256)] 5)) := by
  have hg := heap_alloc_new w (.cells #[.int .u8 (x % 256)] 5)
  refine run_convert_bytes_back (P := Tryz.prog) _ 80 9 5 ⟨w.heap.size, 0, none⟩ 1 [Sha.byteOf x] Tryz.underlying80 Tryz.underlying5 Tryz.underlying9 ?_
  intro j hj
  rw [Addr.add_mid, Nat.zero_add, cell_of_row _ _ j _ _ _ hg]
  match j, hj with
  | 0, _ => simp [Sha.byteOf_toNat]

set_option maxRecDepth 8000 in
set_option maxHeartbeats 1000000 in
theorem dsum_any (t : Int) (s : List UInt8) (w : World) (hT : Tab w) (hs : s.length ≤ 140737488351232) :
    Calls Tryz.prog 20 #[.int .i64 t, .string ⟨s.toArray⟩] w fun e w' => e = .returned (.tuple #[.string ⟨(Dig.sum t s).toArray⟩, .int .i64 (Dig.sumC t)]) ∧ Below w.heap.size w w' := by
  unfold Dig.sum Dig.sumC
  by_cases ht : Dig.isTag t = true
  · have HT := Lib.hid ht
    have HTB := Lib.hid hT
    rw [if_pos ht, if_pos ht]
    have HS := Lib.hid (fun w hw => sum_any (Sha.byteOf t :: s) w hw (by simp; omega))
    obtain ⟨R, hR⟩ : ∃ R, Sha.sumP (Sha.byteOf t :: s) = R := ⟨_, rfl⟩
    rw [hR] at HS ⊢
    have hcm := cat_mk [Sha.byteOf t] s
    have kc := fun w => conv_tag w t
    rw [List.singleton_append] at hcm
    clear ht hR hT
    go_enter Tryz.func20, Tryz.ntmps20
    go_wp2_with fail
    refine (isTag_any t _).mono ?_
    rintro e w1 ⟨rfl, rfl⟩
    rw [HT.out]
    have hB1 : Below w1.heap.size w1 (w1.alloc (.cells #[.int .u8 (t % 256)] 5)) := (Below.refl _ w1).alloc (Nat.le_refl _) _
    go_wp2_with fail
    refine (HS.out _ (HTB.out.below hB1)).mono ?_
    rintro e w2 ⟨rfl, hb2⟩
    go_wp2
    go_ret2
    exact ⟨rfl, bchain hB1 hb2⟩
  · have hf : Dig.isTag t = false := by simpa using ht
    have HF := Lib.hid hf
    rw [if_neg ht, if_neg ht]
    clear ht hf
    go_enter Tryz.func20, Tryz.ntmps20
    go_wp2_with fail
    refine (isTag_any t _).mono ?_
    rintro e w1 ⟨rfl, rfl⟩
    rw [HF.out]
    go_wp2
    go_ret2
    exact ⟨rfl, Below.refl _ _⟩
end Go.Proofs.YtgbcilokeiengaaGreatDoor
namespace Go.Proofs.YtgbcilokeiengaaGreatDoor
open Go.RowKit
open Go.Proofs.YtgbcilokeiengaaGreatDoor.Sto (St)

/-- The sum of a text. -/
def Sto.sumOf (t : List UInt8) : List UInt8 := Dig.sum 1 t
theorem Sto.sumOf_len (t : List UInt8) : (Sto.sumOf t).length = 32 := by
  unfold Sto.sumOf Dig.sum
  rw [if_pos (by decide), Sha.sumP_length]
/-- The same in its place. -/
theorem wpList_mapUpdate_fn {P : Program} {k e : TypeId} {κ α : Type} [DecidableEq κ] {M : MapLaw P k κ α} {ops : Array Oper} {rest : List Oper} {o : Oper} {a : Act} {w : World} {Q : Exit → Act → World → Prop} (hg : o.guard = none) (t : TypeId) (m x v : Operand) (hop : o.op = Op.mapUpdate t m x v)
    (ht : P.underlying t = some (.map k e)) {b : Nat} {f : κ → Option α} (s : κ) (y : α) (hs : M.ok s) (hm : a.eval m = .map (some b)) (hx : a.eval x = M.enc s) (hv : a.eval v = M.val y) (h : FnAt M w b f)
    (hK : ∀ w', FnAt M w' b (updF f s (some y)) → Out (fun i => i = b) w w' → w'.heap.size = w.heap.size → wpList P ops Q rest (a.put o.dst undef) w') : wpList P ops Q (o :: rest) a w := by
  refine wpList_plain hg fun K' hK' => ?_
  obtain ⟨w', hrun, h1, h2, h3⟩ := h.put ht hs y
  unfold Oper.wp
  simp [execOp, hop, hm, hx, hv, hrun, Result.andThen]
  exact hK' _ _ (hK w' h1 h2 h3)

def StPutPost (g m : Nat) (S : St) (t : List UInt8) (w : World) (e : Ending) (w' : World) : Prop :=
  e = .returned (.string ⟨(Sto.sumOf t).toArray⟩) ∧ StoreAt w' g m (Sto.put S (Sto.sumOf t) t) ∧ Out (fun i => i = m) w w'
theorem StoreAt.putAt {w w2 w3 w4 : World} {g m : Nat} {S : St} {x t : List UInt8} (h : StoreAt w g m S) (hb : Below w.heap.size w w2) (hb3 : Below w2.heap.size w2 w3) (hn : Sto.look S x = none) (hf : FnAt storeMap w4 m (updF (Sto.look S) x (some t))) (ho : Out (fun i => i = m) w3 w4) (hx : x.length ≤ 32) (ht : t.length ≤ 1000) :
    StoreAt w4 g m (Sto.put S x t) ∧ Out (fun i => i = m) w w4 := by
  have hb4 : Below w.heap.size w w3 := bchain hb hb3
  have ho4 : Out (fun i => i = m) w w4 := (Out.of hb4).trans ho
  refine ⟨⟨ho4.heap h.head (h.ne h), hf.congr fun y => ?_, Sto.put_rising h.rise _ _, fun p hp => ?_⟩, ho4⟩
  · rw [Sto.look_put h.rise, hn]
    rfl
  · rcases Sto.put_mem hp with hp | rfl
    · exact h.short p hp
    · exact ⟨hx, ht⟩

set_option maxRecDepth 8000 in
set_option maxHeartbeats 2000000 in
theorem stput_any (g m : Nat) (S : St) (t : List UInt8) (w : World) (h : StoreAt w g m S) (hT : Tab w) (ht : t.length ≤ 1000) :
    Calls Tryz.prog 11 #[.pointer (some ⟨g, 0, none⟩), .string ⟨t.toArray⟩] w (StPutPost g m S t w) := by
  unfold StPutPost
  have HSU : Hid (∀ w, Tab w → Calls Tryz.prog 20 #[.int .i64 1, .string ⟨t.toArray⟩] w fun e w' => e = .returned (.tuple #[.string ⟨(Sto.sumOf t).toArray⟩, .int .i64 0]) ∧ Below w.heap.size w w') := Lib.hid (fun w hw => (dsum_any 1 t w hw (by omega)))
  have hxl := Sto.sumOf_len t
  obtain ⟨x, hx⟩ : ∃ x, Sto.sumOf t = x := ⟨_, rfl⟩
  rw [hx] at HSU hxl ⊢
  have HX := Lib.hid hxl
  have HTL := Lib.hid ht
  have HH := Lib.hid h
  have HT := Lib.hid hT
  clear hx h hT hxl ht
  go_enter Tryz.func11, Tryz.ntmps11
  go_wp2_with fail
  refine (HSU.out _ HT.out).mono ?_
  rintro e w1 ⟨rfl, hb1⟩
  have h1 := HH.out.below hb1
  have hc := h1.cell
  have hlook := h1.lookE (x := x) (by have := HX.out; omega)
  obtain ⟨o, ho⟩ : ∃ o, Sto.look S x = o := ⟨_, rfl⟩
  rw [ho] at hlook
  have HO := Lib.hid ho
  have HB1 := Lib.hid hb1
  cases o with
  | some u =>
    simp only [Option.getD_some, Option.isSome_some] at hlook
    clear h1 ho hb1
    go_wp2
    go_ret
    have hb2 := HB1.out.alloc HB1.out.size (.cells #[.string ⟨u.toArray⟩] 55)
    refine ⟨rfl, ?_, Out.of hb2⟩
    rw [Sto.put_same (by rw [HO.out]; rfl) t HH.out.rise]
    exact HH.out.below hb2
  | none =>
    simp only [Option.getD_none, Option.isSome_none] at hlook
    have hb2 := HB1.out.alloc HB1.out.size (.cells #[.string ⟨#[]⟩] 55)
    have h2 := HH.out.below hb2
    have hc2 := h2.cell
    have HB2 := Lib.hid hb2
    have HC1 := Lib.hid (fun w => dclone_any x w (by have := HX.out; omega))
    have HC2 := Lib.hid (fun w => dclone_any t w (by have := HTL.out; omega))
    go_upto_region 4 with fail
    obtain ⟨w2, hw2⟩ : ∃ w2, w1.alloc (.cells #[.string ⟨#[]⟩] 55) = w2 := ⟨_, rfl⟩
    rw [hw2] at h2 hc2 HB2 ⊢
    have HFN : Hid (∀ w', Below w2.heap.size w2 w' → FnAt storeMap w' m (Sto.look S)) := Lib.hid (fun w' hb => h2.map.below hb)
    have HCE : Hid (∀ w', Below w2.heap.size w2 w' → w'.cell? ⟨g, 0, none⟩ = some (.map (some m))) := Lib.hid (fun w' hb => (h2.below hb).cell)
    have HCO : Hid (∀ w' w'', Below w2.heap.size w2 w' → Out (fun i => i = m) w' w'' → w''.cell? ⟨g, 0, none⟩ = some (.map (some m))) := Lib.hid (fun w' w'' hb ho => ho.cell (h2.below hb).cell (h2.ne h2))
    have HK1 : Hid (∀ w', Below w2.heap.size w2 w' → Calls Tryz.prog 21 #[.string ⟨x.toArray⟩] w' fun e w'' => e = .returned (.string ⟨x.toArray⟩) ∧ Below w2.heap.size w2 w'') := Lib.hid (fun w' hb => (HC1.out w').mono fun e w'' q => ⟨q.1, hb.trans (q.2.mono hb.size)⟩)
    have HK2 : Hid (∀ w', Below w2.heap.size w2 w' → Calls Tryz.prog 21 #[.string ⟨t.toArray⟩] w' fun e w'' => e = .returned (.string ⟨t.toArray⟩) ∧ Below w2.heap.size w2 w'') := Lib.hid (fun w' hb => (HC2.out w').mono fun e w'' q => ⟨q.1, hb.trans (q.2.mono hb.size)⟩)
    have HPU : Hid (∀ w', Below w2.heap.size w2 w' → ∃ w4, (Instr.mapUpdate 43 (.map (some m)) (.string ⟨x.toArray⟩) (.agg #[.string ⟨t.toArray⟩])).run Tryz.prog w' = .ok () w4 ∧ (StoreAt w4 g m (Sto.put S x t) ∧ Out (fun i => i = m) w w4) ∧ w4.cell? ⟨g, 0, none⟩ = some (.map (some m))) := Lib.hid (fun w' hb => by
      obtain ⟨w4, hrun, hf, ho, _⟩ := (HFN.out w' hb).put Tryz.underlying43 (s := x) (by have := HX.out; show x.length ≤ _; omega) t
      exact ⟨w4, hrun, HH.out.putAt HB2.out hb HO.out hf ho (by have := HX.out; omega) HTL.out, HCO.out _ _ hb ho⟩)
    have BD : Below w2.heap.size w2 w2.drew := (Below.refl _ _).drew
    have cD := HCE.out _ BD
    clear h1 ho hb1 hb2 h2 hw2 hlook hc hc2
    go_region_held3 (fun w' => w'.cell? ⟨g, 0, none⟩ = some (.map (some m)))
      ((first | (refine HCE.out _ ?_; with_reducible assumption) | (with_reducible assumption)))
      (first | (go_at_call 21; refine (HK1.out _ ?_).mono ?_; (with_reducible assumption); rintro e wa ⟨rfl, ha⟩; obtain ⟨wa4, hra, hpa, hca⟩ := HPU.out _ ha) | (go_at_call 21; refine (HK2.out _ ?_).mono ?_; (with_reducible assumption); rintro e wb ⟨rfl, hb⟩; obtain ⟨wb4, hrb, hpb, hcb⟩ := HPU.out _ hb))
    all_goals
      go_wp2
      go_ret
      first | exact ⟨rfl, hpa⟩ | exact ⟨rfl, hpb⟩
end Go.Proofs.YtgbcilokeiengaaGreatDoor
namespace Go.Proofs.YtgbcilokeiengaaGreatDoor
open Go.RowKit
open Go.Proofs.YtgbcilokeiengaaGreatDoor.Nd (N)

set_option maxRecDepth 100000 in
set_option maxHeartbeats 1000000 in
theorem nkids_any (n : N) (w : World) (hn : n.kids.length = 16) (hk : ∀ x ∈ n.kids, x.length ≤ 140737488351232) :
    Calls Tryz.prog 36 #[ndval n] w (KidsPost n w) := by
  unfold KidsPost
  obtain ⟨i0, hi, hz0, hz1, hz2⟩ := info_parts Tryz.infoStrN
  obtain ⟨C, hC, HB0, HCE, HI, HI2⟩ := nbox n w hn
  have HKE : Hid (∀ (k : Nat) (hk : k < 16), ∀ w, (Instr.index 70 (.agg (scells n.kids).toArray) (.int .i64 k)).run Tryz.prog w = .ok (.string ⟨(n.kids[k]'(by omega)).toArray⟩) w) := Lib.hid (fun k hk w => idx_strs n.kids hn k hk w)
  have HCL : Hid (∀ (k : Nat) (h : k < 16) w, Calls Tryz.prog 21 #[.string ⟨(n.kids[k]'(by omega)).toArray⟩] w fun e w' => e = .returned (.string ⟨(n.kids[k]'(by omega)).toArray⟩) ∧ Below w.heap.size w w') := Lib.hid (fun k h w => dclone_any _ w (hk _ (List.getElem_mem _)))
  obtain ⟨-, -, -, -, cR, -⟩ := HCE.out _ (Below.refl _ _)
  have HCR := Lib.hid cR
  have HN := Lib.hid hn
  unfold ndval
  rw [hC]
  clear hC cR HI HCE hk
  go_enter Tryz.func36, Tryz.ntmps36
  go_wp2_with (refine wpList_load_mid (by rfl) _ _ (by rfl) w.heap.size 3 (by rfl) (scells n.kids) _ HCR.out Tryz.underlying70 (by rfl) HI2.out ?_)
  have HSZ : Hid (w.heap.size < (w.alloc (.cells C 72)).heap.size) := Lib.hid (by simp)
  generalize (w.alloc (.cells C 72)) = w0 at *
  obtain ⟨K, hK⟩ : ∃ K, scells n.kids = K := ⟨_, rfl⟩
  rw [hK] at HKE ⊢
  clear hK HCR HI2
  go_loopw [3, 8] (fun sl i wr => ∃ (k : Nat) (z : Value), z = sl ∧ k ≤ 16 ∧ i = .int .i64 k ∧ Own wr w0.heap.size z (Nd.kidsL (n.kids.take k)) ∧ Below w0.heap.size w0 wr) (fun _ i _ => 16 - (intOf i).toNat)
  case atStart => exact ⟨0, _, rfl, Nat.zero_le _, rfl, Own.nil _ _, Below.refl _ _⟩
  case round =>
    obtain ⟨k, z, rfl, hk, rfl, hown, hb⟩ := hrel
    have HBk := Lib.hid hb
    have HOW := Lib.hid hown
    by_cases hlt : k < 16
    · have h1 : (k : Int) < 16 := by omega
      have h0 : (0 : Int) ≤ (k : Int) := by omega
      have n0 := HKE.out k hlt
      have HCK := Lib.hid (HCL.out k hlt)
      have HST := Lib.hid (Nd.kids_take n.kids k (by omega))
      have hln : (Nd.kidsL (n.kids.take k)).length ≤ 16 := by
        unfold Nd.kidsL
        refine Nat.le_trans (List.length_filter_le _ _) ?_
        rw [List.length_take]
        omega
      obtain ⟨x, hx⟩ : ∃ x, n.kids[k]'(by omega) = x := ⟨_, rfl⟩
      rw [hx] at n0 HST HCK
      obtain ⟨O, hO⟩ : ∃ O, Nd.kidsL (n.kids.take k) = O := ⟨_, rfl⟩
      rw [hO] at HOW HST hln
      have HSZr : Hid (w0.heap.size ≤ wr.heap.size) := Lib.hid hb.size
      have HLN := Lib.hid hln
      clear hx hO hown hln hb
      by_cases he : x = []
      · subst he
        rw [if_pos rfl] at HST
        go_wp2
        exact ⟨⟨k + 1, z, rfl, by omega, by go_num, by rw [HST.out]; exact HOW.out, HBk.out⟩, by simp [intOf]; omega⟩
      · rw [if_neg he] at HST
        have hx1 : (x == []) = false := by rw [beq_eq_false_iff_ne]; exact he
        have hx2 : ¬ (x = []) := he
        go_wp2_with fail
        refine (HCK.out _).mono ?_
        rintro e w4 ⟨rfl, hb4⟩
        have HOW4 := Lib.hid (HOW.out.below hb4)
        have HB4 := Lib.hid (HBk.out.trans (hb4.mono HSZr.out))
        have HS4 : Hid (w0.heap.size ≤ w4.heap.size) := Lib.hid HB4.out.size
        clear hb4 HOW HBk HSZr
        go_wp2_with (at_builtin; refine wpList_append_lies _ rfl _ _ _ rfl w0.heap.size 9 i0 (.string ⟨#[]⟩) 1 16 Tryz.underlying26 hi hz0 hz1 hz2 rfl (by decide) z O.length (scells O) (by rfl) (World.ownsRow.alloc HOW4.out _) ⟨w4.heap.size, 0, none⟩ 1 1 (scells [x]) (by rfl) rfl (World.news_of_block (heap_new_at _ _ _ rfl)) (by simp [scells, Value.oneCell']) (by decide) (by have := HLN.out; unfold maxLen; omega) (by have := HLN.out; omega) (by have := HS4.out; simp; omega) (w4.heap.size + 1) (by simp) ?_; intro g' cap' w5 hown5 hgrow5 hat5 hlt5)
        have hB5 : Below w0.heap.size w0 w5 := HB4.out.trans (((Out.of ((Below.refl _ w4).alloc (Nat.le_refl _) _)).trans (Out.grown hgrow5 (F := fun j => z.ownBlock = some j) (fun j e => e))).below (fun j hj => (HOW4.out.lt j hj).1) HS4.out)
        refine ⟨⟨k + 1, _, rfl, by omega, by go_num, ?_, hB5⟩, by simp [intOf]; omega⟩
        rw [HST.out]
        unfold Own
        rw [scells_append, List.length_append]
        exact hown5
    · have h1 : ¬ ((k : Int) < 16) := by omega
      obtain rfl : k = 16 := by omega
      rw [List.take_of_length_le (by omega)] at HOW
      clear hown hb
      go_wp2
      go_ret
      exact ⟨z, rfl, (own_lowS HOW.out (Nat.le_of_lt HSZ.out)), HB0.out.trans (HBk.out.mono (Nat.le_of_lt HSZ.out))⟩
end Go.Proofs.YtgbcilokeiengaaGreatDoor
namespace Go.Proofs.YtgbcilokeiengaaGreatDoor
open Go.RowKit
open Go.Proofs.YtgbcilokeiengaaGreatDoor.Sto (St)

def lenOf : Value → Nat
  | .slice _ n _ => n
  | _ => 0
def mapSize (w : World) (b : Nat) : Nat := match w.heap[b]? with | some (.map es _) => es.size | _ => 0
def workLeft (n b : Nat) (v : Value) (w : World) : Nat := (n - mapSize w b) * 17 + lenOf v
/-- The keys, in some order. -/
theorem FnAt.list {P : Program} {k : TypeId} {κ α : Type} {M : MapLaw P k κ α} {w : World} {b : Nat} {f : κ → Option α} (h : FnAt M w b f) : ∃ ks : List κ, mapSize w b = ks.length ∧ ks.Nodup ∧ ∀ s, s ∈ ks ↔ f s ≠ none := by
  obtain ⟨es, clock, hb, h2, h3, h4⟩ := h
  have hex : ∀ l : List MapEntry, (∀ x ∈ l, ∃ s a, x.key = M.enc s ∧ x.val = M.val a ∧ M.ok s ∧ f s = some a) → ∃ ks : List κ, l.map (·.key) = ks.map M.enc ∧ ∀ s ∈ ks, f s ≠ none := by
    intro l
    induction l with
    | nil => exact fun _ => ⟨[], rfl, fun s hs => (by cases hs)⟩
    | cons x r ih =>
      intro hl
      obtain ⟨ks, e1, e2⟩ := ih fun y hy => hl y (List.mem_cons_of_mem _ hy)
      obtain ⟨s, a, q1, _, _, q2⟩ := hl x (List.mem_cons_self ..)
      refine ⟨s :: ks, by simp [e1, q1], fun s' hs' => ?_⟩
      rcases List.mem_cons.1 hs' with rfl | hs'
      · rw [q2]; simp
      · exact e2 s' hs'
  obtain ⟨ks, e1, e2⟩ := hex es.toList h2
  have hlen : ks.length = es.size := by
    have := congrArg List.length e1
    simpa using this.symm
  refine ⟨ks, by unfold mapSize; rw [hb]; exact hlen.symm, ?_, fun s => ⟨e2 s, fun hs => ?_⟩⟩
  · have h5 := h4.2.2
    rw [e1] at h5
    exact List.Pairwise.imp (fun {a b} hab => fun (e : a = b) => hab (by rw [e])) (List.pairwise_map.1 h5)
  · cases hf : f s with
    | none => exact absurd hf hs
    | some a =>
      obtain ⟨x, hx, hxe⟩ := h3 s a hf
      have : x.key ∈ ks.map M.enc := e1 ▸ List.mem_map.2 ⟨x, hx, rfl⟩
      obtain ⟨s', hs', e⟩ := List.mem_map.1 this
      rw [M.inj _ _ (hxe.symm.trans e.symm)]; exact hs'
theorem FnAt.size_eq {P : Program} {k : TypeId} {κ α : Type} [BEq κ] [LawfulBEq κ] {M : MapLaw P k κ α} {w : World} {b : Nat} {f : κ → Option α} (h : FnAt M w b f) {V : List κ} (hn : V.Nodup) (hV : ∀ s, s ∈ V ↔ f s ≠ none) : mapSize w b = V.length := by
  obtain ⟨ks, h1, h2, h3⟩ := h.list
  rw [h1]
  exact Nat.le_antisymm (Sto.le_of_sub h2 fun x hx => (hV x).2 ((h3 x).1 hx)) (Sto.le_of_sub hn fun x hx => (h3 x).2 ((hV x).1 hx))

def inV (V : List (List UInt8)) (x : List UInt8) : Option Unit := if x ∈ V then some () else none
theorem inV_iff (V : List (List UInt8)) (x : List UInt8) : x ∈ V ↔ inV V x ≠ none := by
  unfold inV; by_cases h : x ∈ V <;> simp [h]
theorem inV_some (V : List (List UInt8)) (x : List UInt8) : (inV V x).isSome = decide (x ∈ V) := by
  unfold inV; by_cases h : x ∈ V <;> simp [h]
theorem inV_put (V : List (List UInt8)) (x s : List UInt8) : updF (inV V) x (some ()) s = inV (V ++ [x]) s := by
  unfold updF inV
  by_cases h : s = x
  · subst h; simp
  · simp [h]
theorem lookU {w : World} {b : Nat} {V : List (List UInt8)} (h : FnAt setMap w b (inV V)) {x : List UInt8} (hx : x.length ≤ 140737488351232) :
    (Instr.lookup 49 (.map (some b)) (.string ⟨x.toArray⟩) true).run Tryz.prog w = .ok (.tuple #[.agg #[], .bool (decide (x ∈ V))]) w := by
  have h1 := h.look Tryz.underlying49 (s := x) hx true (zeroUnit w)
  rw [show (.string ⟨x.toArray⟩ : Value) = setMap.enc x from rfl, h1, inV_some]
  cases inV V x <;> rfl
/-- The last of a row, taken off. -/
theorem Own.pre {w : World} {B g n cap : Nat} {O : List (List UInt8)} {x : List UInt8} (h : Own w B (.slice (some ⟨g, 0, none⟩) (n + 1) cap) (O ++ [x])) (hn : n = O.length) : Own w B (.slice (some ⟨g, 0, none⟩) n cap) O := by
  subst hn
  unfold Own at h ⊢
  rw [scells_append, List.length_append] at h
  obtain ⟨_, h | ⟨g', cap', cur, hv, hB, hh, hc, hm, hs, ht⟩⟩ := h
  · simp at h
  · obtain ⟨rfl, rfl⟩ : g = g' ∧ cap = cap' := by simpa using hv
    simp only [List.length_cons, List.length_nil, Nat.zero_add] at hc ht
    refine ⟨by simp [scells], Or.inr ⟨g, cap, cur, rfl, hB, hh, by omega, hm, hs, ?_⟩⟩
    have := congrArg (List.take O.length) ht
    rw [List.take_take] at this
    rw [Nat.mul_one] at this ⊢
    rw [show min O.length (O.length + 1) = O.length by omega] at this
    rw [this, List.take_append_of_le_length (by simp [scells]), List.take_of_length_le (by simp [scells])]
theorem FnAt.grownOwn {P : Program} {k : TypeId} {κ α : Type} {M : MapLaw P k κ α} {w w' : World} {b B : Nat} {f : κ → Option α} {z : Value} {O : List (List UInt8)} (h : FnAt M w b f) (ho : Own w B z O) (hg : w.grownBy w' z.ownBlock) : FnAt M w' b f := by
  refine h.out (Out.grown hg (F := fun j => z.ownBlock = some j) (fun _ e => e)) fun e => ?_
  rcases ho.2 with ⟨rfl, _⟩ | ⟨g, c, cur, rfl, _, hh, _⟩
  · simp [Value.ownBlock] at e
  · have : g = b := by simpa [Value.ownBlock] using e
    subst this
    exact h.no_cells _ _ _ _ rfl hh
theorem own_capLe {w : World} {B g n cap : Nat} {L : List (List UInt8)} (h : Own w B (.slice (some ⟨g, 0, none⟩) n cap) L) : L.length ≤ cap := by
  rcases h.2 with ⟨h', _⟩ | ⟨g', cap', cur, hv, _, _, hn, _⟩
  · simp at h'
  · obtain ⟨_, _, rfl⟩ : g = g' ∧ n = L.length ∧ cap = cap' := by simpa using hv
    exact hn
theorem Sto.kids_short (t k : List UInt8) (h : k ∈ Sto.kidsT t) : k.length ≤ 32 := by
  unfold Sto.kidsT Nd.kidsL at h
  obtain ⟨h1, h2⟩ := List.mem_filter.1 h
  have hall : Nd.all32 (Nd.dec t).1.kids = true := by
    rcases Nd.dec_is t with ⟨_, h, _⟩ | ⟨_, h, _⟩
    · unfold Nd.fine at h
      exact (Bool.and_eq_true_iff.1 h).1
    · rw [h]; rfl
  have := List.all_eq_true.1 hall k h1
  simp at this
  rcases this with h | h
  · rw [h]; simp
  · omega
theorem Sto.dec_kids (t : List UInt8) : (Nd.dec t).1.kids.length = 16 ∧ (∀ x ∈ (Nd.dec t).1.kids, x.length ≤ 140737488351232) ∧ (Nd.dec t).2 ≠ 90 := by
  have hall : (Nd.dec t).1.kids.length = 16 ∧ Nd.all32 (Nd.dec t).1.kids = true ∧ (Nd.dec t).2 ≠ 90 := by
    rcases Nd.dec_is t with ⟨h0, h, h1, _⟩ | ⟨_, h, h1⟩
    · unfold Nd.fine at h
      exact ⟨h1, (Bool.and_eq_true_iff.1 h).1, by first | omega | (rw [h0]; decide)⟩
    · rw [h]; exact ⟨rfl, rfl, by first | omega | (rw [‹_ = (80 : Int)›]; decide)⟩
  refine ⟨hall.1, fun x hx => ?_, hall.2.2⟩
  have := List.all_eq_true.1 hall.2.1 x hx
  simp at this
  rcases this with h | h
  · rw [h]; simp
  · omega
def ReachedPost (S : St) (l : List (List UInt8)) (w : World) (e : Ending) (w' : World) : Prop :=
  ∃ mr V, e = .returned (.map (some mr)) ∧ w.heap.size ≤ mr ∧ FnAt setMap w' mr (inV V) ∧ V.Nodup ∧ (∀ x, x ∈ V ↔ Sto.Reach S l x) ∧ Below w.heap.size w w'

/-- Between two rounds. -/
structure WorkAt (S : St) (l V O : List (List UInt8)) (w wr : World) (B mr : Nat) (z : Value) : Prop where
  map : FnAt setMap wr mr (inV V)
  own : Own wr B z O
  work : Sto.Work S l V O
  len : O.length ≤ l.length + V.length * 16
  short : ∀ x ∈ O, x.length ≤ 140737488351232
  below : Below B w wr
theorem WorkAt.left {S : St} {l V O : List (List UInt8)} {w wr : World} {B mr : Nat} {z : Value} (h : WorkAt S l V O w wr B mr z) : workLeft S.length mr z wr = (S.length - V.length) * 17 + O.length := by
  unfold workLeft
  rw [h.map.size_eq h.work.nd (inV_iff V)]
  obtain ⟨A, cap, rfl⟩ := own_form h.own
  rfl
theorem WorkAt.of_below {S : St} {l V O : List (List UInt8)} {w wr w' : World} {B mr : Nat} {z : Value} (h : WorkAt S l V O w wr B mr z) (hb : Below wr.heap.size wr w') (hB : B ≤ wr.heap.size) : WorkAt S l V O w w' B mr z :=
  ⟨h.map.below hb, h.own.below hb, h.work, h.len, h.short, h.below.trans (hb.mono hB)⟩
theorem WorkAt.skip {S : St} {l V O : List (List UInt8)} {x : List UInt8} {w wr w' : World} {B mr : Nat} {z z' : Value} (h : WorkAt S l V (O ++ [x]) w wr B mr z) (ho : Own wr B z' O) (hx : x ∈ V ∨ x ∉ Sto.keys S) (hb : Below wr.heap.size wr w') (hB : B ≤ wr.heap.size) :
    WorkAt S l V O w w' B mr z' ∧ workLeft S.length mr z' w' < workLeft S.length mr z wr := by
  have h1 : WorkAt S l V O w wr B mr z' := ⟨h.map, ho, h.work.skip hx, by have := h.len; rw [List.length_append] at this; simp at this; omega, fun y hy => h.short y (List.mem_append_left _ hy), h.below⟩
  have h2 := h1.of_below hb hB
  refine ⟨h2, ?_⟩
  rw [h2.left, h.left, List.length_append]
  simp
theorem WorkAt.take {S : St} {l V O : List (List UInt8)} {x t : List UInt8} {w wr w' : World} {B mr : Nat} {z z' : Value} (h : WorkAt S l V (O ++ [x]) w wr B mr z) (hx : x ∉ V) (ht : Sto.look S x = some t) (hm : FnAt setMap w' mr (inV (V ++ [x]))) (ho : Own w' B z' (O ++ Sto.kidsT t)) (hb : Below B w w') :
    WorkAt S l (V ++ [x]) (O ++ Sto.kidsT t) w w' B mr z' ∧ workLeft S.length mr z' w' < workLeft S.length mr z wr := by
  have hk := Sto.kidsT_len t
  have hwk := h.work.take hx ht
  have h1 : WorkAt S l (V ++ [x]) (O ++ Sto.kidsT t) w w' B mr z' := ⟨hm, ho, hwk, by
    have := h.len
    simp only [List.length_append, List.length_cons, List.length_nil] at this ⊢
    omega, fun y hy => by
    rcases List.mem_append.1 hy with hy | hy
    · exact h.short y (List.mem_append_left _ hy)
    · have := Sto.kids_short t y hy; omega, hb⟩
  refine ⟨h1, ?_⟩
  have hl := hwk.len
  rw [h1.left, h.left]
  simp only [List.length_append, List.length_cons, List.length_nil] at hl ⊢
  omega

set_option maxRecDepth 100000 in
set_option maxHeartbeats 4000000 in
theorem reached_any (g m : Nat) (S : St) (l : List (List UInt8)) (v : Value) (w : World) (h : StoreAt w g m S) (hv : Strs w v l) (hS : S.length ≤ 10000) (hl : l.length ≤ 10000) (hsh : ∀ x ∈ l, x.length ≤ 140737488351232) :
    Calls Tryz.prog 17 #[.pointer (some ⟨g, 0, none⟩), v] w (ReachedPost S l w) := by
  unfold ReachedPost
  have HH := Lib.hid h
  have HSL := Lib.hid hS
  have hb0 := (Below.refl w.heap.size w).alloc (Nat.le_refl _) (.map #[] 0)
  have HM0 : Hid (FnAt setMap (w.alloc (.map #[] 0)) w.heap.size (inV [])) := Lib.hid ((FnAt.made setMap w w.heap.size rfl).congr fun s => by simp [inV])
  have HCL := Lib.hid (sclone_any l v _ (hv.below hb0) (by omega))
  have HB0 := Lib.hid hb0
  have HSH := Lib.hid hsh
  have HLL := Lib.hid hl
  have hmm := @run_makeMap Tryz.prog
  obtain ⟨B, hB⟩ : ∃ B, w.heap.size = B := ⟨_, rfl⟩
  rw [hB] at HM0 HB0
  have HBS := Lib.hid hB
  have HHB : Hid (∀ wr, Below B w wr → StoreAt wr g m S) := Lib.hid (fun wr hb => h.below (by rw [hB]; exact hb))
  clear h hv hS hl hsh hb0
  go_enter Tryz.func17, Tryz.ntmps17
  go_wp2_with fail
  refine HCL.out.mono ?_
  rintro e w1 ⟨z0, rfl, hown0, hb1⟩
  have HW0 : Hid (WorkAt S l [] l w w1 B B z0) := Lib.hid ⟨HM0.out.below hb1, own_lowS hown0 (by simp [hB]), Sto.Work.begin S l, by simp, HSH.out, HB0.out.trans (hb1.mono (by simp [hB]))⟩
  clear hown0 hb1 hB HCL HM0 hmm
  go_wp2
  go_loopw [6] (fun s wr => ∃ V O, WorkAt S l V O w wr B B s) (fun s wr => workLeft S.length B s wr)
  case atStart => exact ⟨[], l, HW0.out⟩
  case round =>
    rename_i s
    obtain ⟨V, O, hw⟩ := hrel
    clear HW0
    have HW := Lib.hid hw
    have HSB : Hid (B ≤ wr.heap.size) := Lib.hid (by have := hw.below.size; have := HBS.out; omega)
    rcases List.eq_nil_or_concat O with rfl | ⟨O', x, rfl⟩
    · obtain ⟨A, cap, rfl⟩ := own_form hw.own
      simp only [List.length_nil]
      clear hw
      go_wp2
      go_ret
      exact ⟨B, V, rfl, Nat.le_of_eq HBS.out, HW.out.map, HW.out.work.nd, fun x => HW.out.work.done x, by rw [HBS.out]; exact HW.out.below⟩
    · obtain ⟨n, hn⟩ : ∃ n, O'.length = n := ⟨_, rfl⟩
      have hown := hw.own
      have hxs : x.length ≤ 140737488351232 := hw.short x (by simp)
      have hlu := lookU hw.map hxs
      obtain ⟨A, cap, rfl⟩ := own_form hown
      have hlen : (O'.concat x).length = n + 1 := by simp [hn]
      rw [hlen] at hown HW ⊢
      obtain ⟨q, c', hv, hBq, hql⟩ := World.ownsRow.form hown (by omega)
      obtain ⟨rfl, -, rfl⟩ : A = some ⟨q, 0, none⟩ ∧ n = O'.length ∧ cap = c' := by simpa using hv
      have hcell : wr.cell? ⟨q, n, none⟩ = some (.string ⟨x.toArray⟩) := by
        have := World.ownsRow.cells hown (g := q) rfl n (.string ⟨x.toArray⟩) (by simp [scells, hn])
        rwa [Addr.add_mid, Nat.zero_add] at this
      have hcap : (n : Int) ≤ (cap : Int) := by
        have := own_capLe hown
        omega
      have hnb : (n : Int) ≤ 900000 := by
        have h1 := hw.len
        have h2 := hw.work.len
        have h3 := HLL.out
        have h4 := HSL.out
        rw [hlen] at h1
        omega
      have h0 : (0 : Int) ≤ (n : Int) := by omega
      have h1 : (0 : Int) < (n : Int) + 1 := by omega
      have h2 : (n : Int) < (n : Int) + 1 := by omega
      rw [List.concat_eq_append] at HW
      have HOP : Hid (Own wr B (.slice (some ⟨q, 0, none⟩) n cap) O') := Lib.hid (by rw [List.concat_eq_append] at hown; exact Own.pre hown hn.symm)
      have HN := Lib.hid hn
      have HXS := Lib.hid hxs
      have hw0 : Hid (Below B w wr) := Lib.hid hw.below
      clear hw hn hown hlen hv hBq hql hxs
      have hbA : Below wr.heap.size wr (wr.alloc (.cells #[] 51)) := (Below.refl _ wr).alloc (Nat.le_refl _) _
      have HBA := Lib.hid hbA
      by_cases hin : x ∈ V
      · rw [decide_eq_true hin] at hlu
        have HF := Lib.hid (HW.out.skip HOP.out (Or.inl hin) hbA HSB.out)
        clear hin hbA
        go_wp2
        exact ⟨⟨V, O', HF.out.1⟩, HF.out.2⟩
      · rw [decide_eq_false hin] at hlu
        have HST := Lib.hid (HHB.out _ (hw0.out.trans (hbA.mono HSB.out)))
        have HND := Lib.hid (stnode_any g m S x _ HST.out HXS.out)
        have HIN := Lib.hid hin
        have HI19 : Hid ((Tryz.prog.info? 72).map (·.size) = some 19) := Lib.hid (by kernel_rfl)
        clear hin hbA
        unfold Sto.nodeOf at HND
        cases hlk : Sto.look S x with
        | none =>
          rw [hlk] at HND
          dsimp only at HND
          have HNK : Hid (x ∉ Sto.keys S) := Lib.hid ((Sto.look_none S x).1 hlk)
          have HON := Lib.hid (ncl_one Nd.zero)
          have HSN : Hid ((ncl Nd.zero).toArray.size = 19) := Lib.hid rfl
          unfold ndval at HND
          obtain ⟨A, hA⟩ : ∃ A, (ncl Nd.zero).toArray = A := ⟨_, rfl⟩
          rw [hA] at HND HON HSN
          have HI : Hid ((Tryz.prog.info? 72).map (·.size) = some A.size) := Lib.hid (by rw [HSN.out]; exact HI19.out)
          clear hA hlk
          go_wp2_with fail
          refine HND.out.mono ?_
          rintro e w2 ⟨rfl, hb2⟩
          have hb3 : Below wr.heap.size wr (w2.alloc (.cells A 72)) := (bchain HBA.out hb2).alloc (bchain HBA.out hb2).size _
          have HF := Lib.hid (HW.out.skip HOP.out (Or.inr HNK.out) hb3 HSB.out)
          clear hb2 hb3
          go_wp2_with (refine wpList_store_fresh (by rfl) _ _ _ (by rfl) w2.heap.size rfl A (by rfl) (by rfl) _ _ HI.out HSN.out.symm HON.out ?_)
          exact ⟨⟨V, O', HF.out.1⟩, HF.out.2⟩
        | some t =>
          rw [hlk] at HND
          dsimp only at HND
          obtain ⟨hk16, hks, hc90⟩ := Sto.dec_kids t
          have HKT : Hid (Sto.kidsT t = Nd.kidsL (Nd.dec t).1.kids) := Lib.hid rfl
          obtain ⟨⟨nd, c⟩, hD⟩ : ∃ D, Nd.dec t = D := ⟨_, rfl⟩
          rw [hD] at HND hk16 hks hc90 HKT
          dsimp only at HND hk16 hks hc90 HKT
          have HLK := Lib.hid hlk
          have HKI := Lib.hid (fun w => nkids_any nd w hk16 hks)
          unfold KidsPost at HKI
          rw [← HKT.out] at HKI
          have HON := Lib.hid (ncl_one nd)
          have HSN : Hid ((ncl nd).toArray.size = 19) := Lib.hid (by rw [List.size_toArray, ncl_length nd hk16])
          unfold ndval at HND HKI
          obtain ⟨A, hA⟩ : ∃ A, (ncl nd).toArray = A := ⟨_, rfl⟩
          rw [hA] at HND HON HSN HKI
          have HI : Hid ((Tryz.prog.info? 72).map (·.size) = some A.size) := Lib.hid (by rw [HSN.out]; exact HI19.out)
          clear hA hlk hD hk16 hks HI19
          go_wp2_with fail
          refine HND.out.mono ?_
          rintro e w2 ⟨rfl, hb2⟩
          have hb3 : Below wr.heap.size wr (w2.alloc (.cells A 72)) := (bchain HBA.out hb2).alloc (bchain HBA.out hb2).size _
          have HB3 := Lib.hid hb3
          have HM3 := Lib.hid (HW.out.map.below hb3)
          have HR3 : Hid ((w2.alloc (.cells A 72)).heap[w2.heap.size]? = some (.cells A 72 (0, 0))) := Lib.hid (heap_new_at w2 _ _ rfl)
          have HO3 := Lib.hid (HOP.out.below hb3)
          have HXL : Hid (setMap.ok x) := Lib.hid HXS.out
          clear hb2 hb3 hlu hcell hcap
          go_upto_region 12 with (first | (refine wpList_store_fresh (by rfl) _ _ _ (by rfl) w2.heap.size rfl A (by rfl) (by rfl) _ _ HI.out HSN.out.symm HON.out ?_) | (at_mapUpdate; refine wpList_mapUpdate_fn (M := setMap) rfl _ _ _ _ rfl Tryz.underlying49 x () HXL.out (by rfl) (by rfl) (by rfl) HM3.out ?_; intro w4 hf4 ho4 hs4))
          have HM4 := Lib.hid (hf4.congr (inV_put V x))
          have HR4 := Lib.hid (ho4.heap HR3.out (fun e => HM3.out.no_cells _ _ _ _ e HR3.out))
          have HO4 : Hid (Own w4 B (.slice (some ⟨q, 0, none⟩) n cap) O') := Lib.hid (row_out HO3.out ho4 (fun k cs t f e => HM3.out.no_cells _ _ _ _ e))
          have HB4 : Hid (Below B w w4) := Lib.hid ((hw0.out.trans (HB3.out.mono HSB.out)).trans (ho4.below (fun k e => Nat.le_of_eq e.symm) (Nat.le_trans HSB.out HB3.out.size)))
          have HS4 : Hid (B ≤ w4.heap.size) := Lib.hid (by rw [hs4]; exact Nat.le_trans HSB.out HB3.out.size)
          clear hf4 ho4 hs4
          go_wp2_with (refine wpList_load_row (by rfl) _ _ (by rfl) w2.heap.size (by rfl) _ A _ _ HR4.out Tryz.underlying72 (by rfl) HI.out ?_)
          refine (HKI.out _).mono ?_
          rintro e w5 ⟨z2, rfl, hown5, hb5⟩
          have HO5 := HO4.out.below hb5
          have HS5 : B ≤ w5.heap.size := Nat.le_trans HS4.out hb5.size
          have hk16 := Sto.kidsT_len t
          have hO5 : w5.ownsRow B 9 1 (.slice (some ⟨q, 0, none⟩) n cap) n (scells O') := by
            have := HO5
            unfold Own at this
            rwa [HN.out] at this
          obtain ⟨v6, w6, hrun6, hown6, hgrow6, _⟩ := append_strs hown5.strs hO5 (by omega) HS5
          have HM6 := Lib.hid ((HM4.out.below hb5).grownOwn HO5 hgrow6)
          have HO6 : Hid (Own w6 B v6 (O' ++ Sto.kidsT t)) := Lib.hid (by
            unfold Own
            rw [scells_append, List.length_append, HN.out]
            exact hown6)
          have HB6 : Hid (Below B w w6) := Lib.hid ((HB4.out.trans (hb5.mono HS4.out)).trans ((Out.grown hgrow6 (F := fun j => Value.ownBlock (.slice (some ⟨q, 0, none⟩) n cap) = some j) (fun _ e => e)).below (fun j hj => (HO5.lt j hj).1) HS5))
          have HR6 := Lib.hid hrun6
          have HF := Lib.hid (HW.out.take HIN.out HLK.out HM6.out HO6.out HB6.out)
          clear hown5 hb5 HO5 HS5 hk16 hO5 hrun6 hown6 hgrow6
          go_wp2_with (at_builtin; refine wpList_append_run rfl _ _ _ rfl (.slice (some ⟨q, 0, none⟩) n cap) z2 _ (by rfl) (by rfl) HR6.out ?_)
          exact ⟨⟨V ++ [x], O' ++ Sto.kidsT t, HF.out.1⟩, HF.out.2⟩

set_option maxRecDepth 8000 in
set_option maxHeartbeats 1000000 in
theorem streach_any (g m : Nat) (S : St) (l : List (List UInt8)) (v : Value) (w : World) (h : StoreAt w g m S) (hv : Strs w v l) (hS : S.length ≤ 10000) (hl : l.length ≤ 10000) (hsh : ∀ x ∈ l, x.length ≤ 140737488351232) :
    Calls Tryz.prog 26 #[.pointer (some ⟨g, 0, none⟩), v] w (RowPost (Sto.reachL S l) w) := by
  unfold RowPost
  have HR := Lib.hid (reached_any g m S l v w h hv hS hl hsh)
  have HSH := Lib.hid h.keysShort
  have HRI := Lib.hid h.rise
  have HK := Lib.hid (fun w b => shelf_keysU (some b) w)
  clear h hv hsh
  go_enter Tryz.func26, Tryz.ntmps26
  go_wp2_with fail
  refine HR.out.mono ?_
  rintro e w1 ⟨mr, V, rfl, hmr, hm, hnd, hV, hb1⟩
  have HB1 := Lib.hid hb1
  have hB := (Below.refl w1.heap.size w1).alloc (Nat.le_refl _) (.cells #[.map (some mr)] 49)
  have hkl : (Sto.keys S).length ≤ 1000000 := by unfold Sto.keys; simp; omega
  have hkeys : ∀ x, inV V x ≠ none → x ∈ Sto.keys S := fun x hx => ((hV x).1 ((inV_iff V x).2 hx)).key
  have HRS := Lib.hid (rising_of _ _ _ (sortedU_any (hm.below hB) (q := w1.heap.size) (cell_of_row _ _ _ _ _ _ (heap_new_at w1 _ _ rfl)) _ hkeys hkl) _ hkeys hkl (fun x hx => by have := HSH.out x hx; omega))
  have HKE : Hid (∀ K : List (List UInt8), K.Pairwise (· < ·) → (∀ x, x ∈ K ↔ inV V x ≠ none) → K = Sto.reachL S l) := Lib.hid (fun K h1 h2 => Sto.reachL_only HRI.out l h1 fun x => by rw [h2, ← inV_iff, hV])
  have HB := Lib.hid (bchain hb1 hB)
  clear hm hnd hV hb1 hB hkl hkeys hmr
  go_wp2_with fail
  refine (HK.out _ _).mono ?_
  rintro e w2 ⟨rfl, rfl⟩
  go_wp2_with fail
  refine HRS.out.mono ?_
  rintro e w3 ⟨u, K, rfl, hown, hr, hm, hb3⟩
  go_wp2
  go_ret
  obtain rfl := HKE.out K hr hm
  exact ⟨u, rfl, own_lowS hown HB.out.size, bchain HB.out hb3⟩
end Go.Proofs.YtgbcilokeiengaaGreatDoor
