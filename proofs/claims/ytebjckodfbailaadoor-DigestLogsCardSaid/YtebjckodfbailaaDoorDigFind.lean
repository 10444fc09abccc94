/- (*digest.Log).Find and digest.Sum, Many, (*digest.Log).Note. -/
import Derived.Test.YtebjckodfbailaaDoorDigPut
import Derived.Test.YtebjckodfbailaaDoorShaWorks
import Derived.Test.YtebjckodfbailaaDoorCodeText
import Derived.Laws.ResultCell
namespace Go.Proofs.YtebjckodfbailaaDoor
open Go.RowKit

theorem results_c1t {P : Program} {fn : Func} {p u : Tmp} {ty : TypeId} (h : fn.results = #[.cell p ty, .tmp u]) (tmps : Array Value) (w : World) (g : Nat) (t : TypeId) (cs : Array Value) (fr : Nat × Nat) (d : TypeDesc)
    (hp : tmps.getD p undef = .pointer (some ⟨g, 0, none⟩)) (hg : w.heap[g]? = some (.cells cs t fr))
    (hu : P.underlying ty = some d) (hd : (match d with | .struct _ | .array _ _ => true | _ => false) = true) (hi : (P.info? ty).map (·.size) = some cs.size) :
    (results fn tmps).run P w = .ok (.tuple #[.agg cs, tmps.getD u undef]) w := by
  have hp' : tmps[p]?.getD undef = .pointer (some ⟨g, 0, none⟩) := by simpa using hp
  simp [results, h, hp', asAddr, run_loadVar_row w g t ty cs fr d hg hu hd hi]
theorem results_c2t {P : Program} {fn : Func} {p q u : Tmp} {ty : TypeId} (h : fn.results = #[.cell p ty, .cell q ty, .tmp u]) (tmps : Array Value) (w : World) (g g' : Nat) (t t' : TypeId) (cs cs' : Array Value) (fr fr' : Nat × Nat) (d : TypeDesc)
    (hp : tmps.getD p undef = .pointer (some ⟨g, 0, none⟩)) (hg : w.heap[g]? = some (.cells cs t fr)) (hq : tmps.getD q undef = .pointer (some ⟨g', 0, none⟩)) (hg' : w.heap[g']? = some (.cells cs' t' fr'))
    (hu : P.underlying ty = some d) (hd : (match d with | .struct _ | .array _ _ => true | _ => false) = true) (hi : (P.info? ty).map (·.size) = some cs.size) (hi' : (P.info? ty).map (·.size) = some cs'.size) :
    (results fn tmps).run P w = .ok (.tuple #[.agg cs, .agg cs', tmps.getD u undef]) w := by
  have hp' : tmps[p]?.getD undef = .pointer (some ⟨g, 0, none⟩) := by simpa using hp
  have hq' : tmps[q]?.getD undef = .pointer (some ⟨g', 0, none⟩) := by simpa using hq
  simp [results, h, hp', hq', asAddr, run_loadVar_row w g t ty cs fr d hg hu hd hi, run_loadVar_row w g' t' ty cs' fr' d hg' hu hd hi']
theorem okZero : OkN Dig.zero := ⟨by decide, by simp [Dig.zero], by simp [Dig.zero]⟩

set_option maxRecDepth 8000 in
set_option maxHeartbeats 1000000 in
theorem find_any (L : List Dig.N) (d : List UInt8) (g : Nat) (F : Nat → Prop) (w : World) (hl : LogAt w g F L) (hd : d.length ≤ 140737488351232) :
    Calls Tryd.prog 23 #[.pointer (some ⟨g, 0, none⟩), .string ⟨d.toArray⟩] w fun e w' => e = .returned (.tuple #[nval ((Dig.find L d).getD Dig.zero), .bool (Dig.find L d).isSome]) ∧ Below w.heap.size w w' := by
  have HL := Lib.hid hl
  have hB1 : Below w.heap.size w (w.alloc (.cells #[.int .i64 0, .string ⟨#[]⟩, .string ⟨#[]⟩] 35)) := (Below.refl _ w).alloc (Nat.le_refl _) _
  have HB1 := Lib.hid hB1
  have HBX := Lib.hid (heap_new_at w (.cells #[.int .i64 0, .string ⟨#[]⟩, .string ⟨#[]⟩] 35) _ rfl)
  have hl1 := hl.below hB1
  obtain ⟨s, m1, m2, M, hp⟩ := hl1.parts
  have hokM : ∀ k ∈ M, OkN k := fun k hk => hl.ok k (hp.sub k hk)
  obtain ⟨c0, c1, c2, -, -, -⟩ := cells3 hp.here
  have q1 := lt_of_heap hp.here
  have q0 : g < w.heap.size := by
    obtain ⟨_, _, _, _, hp0⟩ := hl.parts
    exact lt_of_heap hp0.here
  obtain ⟨n, b, hn, hlk, hN, hBo⟩ : ∃ n b, OkN n ∧ (Instr.lookup 58 (.map (some m2)) (.string ⟨d.toArray⟩) true).run Tryd.prog (w.alloc (.cells #[.int .i64 0, .string ⟨#[]⟩, .string ⟨#[]⟩] 35)) = .ok (.tuple #[nval n, .bool b]) (w.alloc (.cells #[.int .i64 0, .string ⟨#[]⟩, .string ⟨#[]⟩] 35)) ∧ (Dig.find L d).getD Dig.zero = n ∧ (Dig.find L d).isSome = b := by
    cases hf : Dig.find L d with
    | none => exact ⟨Dig.zero, false, okZero, look2_none hp.firsts hokM hd hf true _ m2 hp.map2, rfl, rfl⟩
    | some m => exact ⟨m, true, hl.ok m (Dig.find_some hf).1, look2_some hp.firsts hokM hd hf true _ m2 hp.map2, rfl, rfl⟩
  rw [hN, hBo]
  have HCP := Lib.hid (fun w => copied_any n w hn)
  clear hN hBo hp hl hl1 hokM hB1 hn
  unfold nval at hlk HCP ⊢
  go_enter Tryd.func23, Tryd.ntmps23
  go_wp2_with fail
  refine (HCP.out _).mono ?_
  rintro e w2 ⟨rfl, hb2⟩
  have hBW := HB1.out.alloc HB1.out.size (.cells #[.int .i64 n.tag, .string ⟨n.text.toArray⟩, .string ⟨n.dig.toArray⟩] 35)
  have hB2 := bchain hBW hb2
  have hgr := (hb2.block w.heap.size (by simp; omega)).trans (heap_old_at _ HBX.out)
  obtain ⟨z0, z1, z2, y0, y1, y2⟩ := cells3 hgr
  have HB2 := Lib.hid hB2
  have HGR := Lib.hid hgr
  clear hb2 hBW hB2 hgr
  go_wp2
  refine bodyPost_ret (results_c1t rfl _ _ w.heap.size _ _ (0, 0) _ rfl (set3 _ _ _ HGR.out) Tryd.underlying35 rfl (by kernel_rfl)) rfl ⟨rfl, ?_⟩
  exact ((HB2.out.setCell (Nat.le_refl _) _).setCell (Nat.le_refl _) _).setCell (Nat.le_refl _) _

/-- What Sum answers. -/
def Dig.sum (t : Int) (s : List UInt8) : List UInt8 := if Dig.isTag t then Sha.sumP (Sha.byteOf t :: s) else []
def Dig.sumC (t : Int) : Int := if Dig.isTag t then 0 else 1
theorem Dig.sum_length (t : Int) (s : List UInt8) : (Dig.sum t s).length ≤ 32 := by
  unfold Dig.sum; split
  · rw [Sha.sumP_length]; omega
  · simp
theorem conv_tag (w : World) (x : Int) : (convert 50 9 (.slice (some ⟨w.heap.size, 0, none⟩) 1 1)).run Tryd.prog (w.alloc (.cells #[.int .u8 (x % 256)] 5)) = .ok (.string ⟨[Sha.byteOf x].toArray⟩) (w.alloc (.cells #[.int .u8 (x % 256)] 5)) := by
  have hg := heap_alloc_new w (.cells #[.int .u8 (x % 256)] 5)
  refine run_convert_bytes_back (P := Tryd.prog) _ 50 9 5 ⟨w.heap.size, 0, none⟩ 1 [Sha.byteOf x] Tryd.underlying50 Tryd.underlying5 Tryd.underlying9 ?_
  intro j hj
  rw [Addr.add_mid, Nat.zero_add, cell_of_row _ _ j _ _ _ hg]
  match j, hj with
  | 0, _ => simp [Sha.byteOf_toNat]

set_option maxRecDepth 8000 in
set_option maxHeartbeats 1000000 in
theorem dsum_any (t : Int) (s : List UInt8) (w : World) (hT : Tab w) (hs : s.length ≤ 140737488351232) :
    Calls Tryd.prog 10 #[.int .i64 t, .string ⟨s.toArray⟩] w fun e w' => e = .returned (.tuple #[.string ⟨(Dig.sum t s).toArray⟩, .int .i64 (Dig.sumC t)]) ∧ Below w.heap.size w w' := by
  unfold Dig.sum Dig.sumC
  by_cases ht : Dig.isTag t = true
  · have HT := Lib.hid ht
    have HTB := Lib.hid hT
    rw [if_pos ht, if_pos ht]
    have HS := Lib.hid (fun w hw => sum_any (Sha.byteOf t :: s) w hw (by simp; omega))
    obtain ⟨R, hR⟩ : ∃ R, Sha.sumP (Sha.byteOf t :: s) = R := ⟨_, rfl⟩
    rw [hR] at HS ⊢
    have hcm := cat_mk [Sha.byteOf t] s
    have kc := fun w => conv_tag w t
    rw [List.singleton_append] at hcm
    clear ht hR hT
    go_enter Tryd.func10, Tryd.ntmps10
    go_wp2_with fail
    refine (isTag_any t _).mono ?_
    rintro e w1 ⟨rfl, rfl⟩
    rw [HT.out]
    have hB1 : Below w1.heap.size w1 (w1.alloc (.cells #[.int .u8 (t % 256)] 5)) := (Below.refl _ w1).alloc (Nat.le_refl _) _
    go_wp2_with fail
    refine (HS.out _ (HTB.out.below hB1)).mono ?_
    rintro e w2 ⟨rfl, hb2⟩
    go_wp2
    go_ret2
    exact ⟨rfl, bchain hB1 hb2⟩
  · have hf : Dig.isTag t = false := by simpa using ht
    have HF := Lib.hid hf
    rw [if_neg ht, if_neg ht]
    clear ht hf
    go_enter Tryd.func10, Tryd.ntmps10
    go_wp2_with fail
    refine (isTag_any t _).mono ?_
    rintro e w1 ⟨rfl, rfl⟩
    rw [HF.out]
    go_wp2
    go_ret2
    exact ⟨rfl, Below.refl _ _⟩
end Go.Proofs.YtebjckodfbailaaDoor
