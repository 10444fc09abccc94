/- ShaSum, ShaWorks, DigSum, ShaTold, ShaRef, ShaRefBlock, ShaRefSum, DigTag, NodeDig, TriMem, TriParts, StoreMath, StorePlain -/
import Derived.Test.YtjfefphgikncnaaDoorPk08
import Derived.Test.YtjfefphgikncnaaDoorPk07
import Derived.KernelRfl
import Derived.Deep.OwnRows
import Derived.Test.YtjfefphgikncnaaDoorPk04
import Derived.Test.YtjfefphgikncnaaDoorPk02
import Derived.Deep.RegionHeld3
import Derived.Test.YtjfefphgikncnaaDoorPk01
import Derived.Test.YtjfefphgikncnaaDoorPk03
namespace Go.Proofs.YtjfefphgikncnaaDoor
open Go.RowKit

set_option maxRecDepth 8000 in
set_option maxHeartbeats 1000000 in
theorem first_any (w : World) :
    Calls Tryd.prog 71 #[] w fun e w' => e = .returned (.agg (u32s Sha.first.list)) ∧ Below w.heap.size w w' := by
  go_enter Tryd.func71, Tryd.ntmps71
  go_wp2
  refine bodyPost_ret (v := .agg (u32s Sha.first.list)) (results_cell_row rfl _ _ w.heap.size _ _ (0, 0) _ rfl (heap_new_at _ _ _ rfl) Tryd.underlying104 rfl (by kernel_rfl)) rfl ⟨rfl, (Below.refl _ w).alloc (Nat.le_refl _) _⟩

theorem built_hash : Tryd.prog.built 109 [(0, .agg (u32s Sha.first.list))] = some ((hashL Sha.first (List.replicate 64 0) 0).toArray) := by kernel_rfl

theorem wpList_build_to {P : Program} {ops : Array Oper} {rest : List Oper} {o : Oper} {a : Act} {w : World} {Q : Exit → Act → World → Prop} (hg : o.guard = none) (t : TypeId) (parts : Array (Nat × Operand)) (ho : o.op = .build t parts)
    (L : List (Nat × Value)) (hL : (parts.map fun (i, x) => (i, a.eval x)).toList = L) (C : Array Value) (hC : P.built t L = some C)
    (h : wpList P ops Q rest (a.put o.dst (.agg C)) w) : wpList P ops Q (o :: rest) a w :=
  wpList_build hg t parts ho (by rw [hL, hC]; rfl) (by rw [hL, hC]; exact h)

end Go.Proofs.YtjfefphgikncnaaDoor
namespace Go.Proofs.YtjfefphgikncnaaDoor
open Go.RowKit

theorem Tryd.zero72 : (Tryd.prog.info? 132).map (fun i => (i.zero, i.size)) = some (some (.agg (u8s (List.replicate 72 0))), 72) := by kernel_rfl

set_option maxRecDepth 8000 in
set_option maxHeartbeats 1000000 in
theorem tail_any (n : Nat) (w : World) (hn : n ≤ 1152921504606846975) :
    Calls Tryd.prog 84 #[.int .u64 n] w fun e w' => e = .returned (.string ⟨(Sha.tailP n).toArray⟩) ∧ Below w.heap.size w w' := by
  obtain ⟨m, hm⟩ : ∃ m : Nat, (n : Int) % 64 = (m : Int) := ⟨n % 64, by omega⟩
  have hm64 : m < 64 := by omega
  obtain ⟨q, hq⟩ : ∃ q : Nat, (119 - (m : Int)) % 64 = (q : Int) := ⟨(119 - m) % 64, by omega⟩
  have hq64 : q < 64 := by omega
  have HP : Hid (Sha.padN n = 1 + q) := Lib.hid (by unfold Sha.padN; omega)
  have hz := (zero_of_info Tryd.zero72).1
  obtain ⟨Z, hZ⟩ : ∃ Z, u8s (List.replicate 72 0) = Z := ⟨_, rfl⟩
  rw [hZ] at hz
  have c0 : Z[0]? = some (.int .u8 0) := by rw [← hZ]; rfl
  have HZ := Lib.hid hZ
  clear hZ
  go_enter Tryd.func84, Tryd.ntmps84
  go_wp2
  go_loopw [14] (fun i wr => ∃ k : Nat, k ≤ 8 ∧ i = .int .u64 k ∧ Below w.heap.size w wr ∧ wr.heap[w.heap.size]? = some (.cells (u8s (Sha.tailFill n k)) 132 (0, 0))) (fun i _ => 8 - (intOf i).toNat)
  case atStart =>
    refine ⟨0, by omega, rfl, (Below.refl _ w).alloc (Nat.le_refl _) _, ?_⟩
    rw [← HZ.out]
    exact heap_new_at _ _ _ rfl
  case round =>
    obtain ⟨k, hk, rfl, hb, hg⟩ := hrel
    obtain ⟨F, hF⟩ : ∃ F, Sha.tailFill n k = F := ⟨_, rfl⟩
    have hFl : F.length = 72 := by rw [← hF, Sha.tailFill_length]
    rw [hF] at hg
    have HB := Lib.hid hb
    have HG := Lib.hid hg
    have HF := Lib.hid hF
    by_cases hlt : k < 8
    · have hc : wr.cell? ⟨w.heap.size, 1 + q + k, none⟩ = some (.int .u8 ((F.getD (1 + q + k) 0).toNat : Int)) := (cell_of_row wr _ _ _ _ _ hg).trans (u8s_at F _ (by omega))
      obtain ⟨old, ho⟩ : ∃ z, ((F.getD (1 + q + k) 0).toNat : Int) = z := ⟨_, rfl⟩
      rw [ho] at hc
      have hf := frozen_of_row wr _ (1 + q + k) _ _ hg
      have hn1 : Sha.tailFill n (k + 1) = F.set (1 + q + k) (Sha.byteOf ((n : Int) * 8 / 2 ^ (8 * (7 - k)))) := by rw [← hF, ← HP.out]; rfl
      have HN := Lib.hid hn1
      have e0 : (1 + (q : Int) + (k : Int)).toNat = 1 + q + k := by omega
      have e1 : (8 * (7 - (k : Int))).toNat = 8 * (7 - k) := by omega
      have hk8 : (k : Int) < 8 := by omega
      clear hb hg hF hFl ho hn1
      go_wp2
      go_roundw
      case rel =>
        refine ⟨k + 1, by omega, by go_num, HB.out.setCell (Nat.le_refl _) _, ?_⟩
        rw [HN.out, ← u8s_set, Sha.byteOf_toNat]
        exact heap_setCell_same _ _ _ _ _ _ HG.out
      case measure => simp [intOf]; omega
    · obtain rfl : k = 8 := by omega
      have hno : ¬ ((8 : Nat) : Int) < 8 := by omega
      have hTl : (F.take (1 + q + 8)).length = 1 + q + 8 := by rw [List.length_take, hFl]; omega
      obtain ⟨G, hG⟩ : ∃ G, F.take (1 + q + 8) = G := ⟨_, rfl⟩
      have kc : (convert 69 9 (.slice (some ⟨w.heap.size, 0, none⟩) (1 + q + 8) 72)).run Tryd.prog wr = .ok (.string ⟨G.toArray⟩) wr := by
        have := run_convert_bytes_back (P := Tryd.prog) wr 69 9 5 ⟨w.heap.size, 0, none⟩ 72 (F.take (1 + q + 8)) Tryd.underlying69 Tryd.underlying5 Tryd.underlying9 (by
          intro j hj
          rw [hTl] at hj
          rw [Addr.add_mid, Nat.zero_add, cell_of_row wr _ j _ _ _ hg, u8s_at F j (by omega)]
          simp [List.getElem_take, show j < F.length by omega])
        rwa [hTl, hG] at this
      have HR : Hid (G = Sha.tailP n) := Lib.hid (by rw [← hG, ← HF.out]; unfold Sha.tailP; rw [HP.out])
      have e2 : (1 + (q : Int) + 8).toNat = 1 + q + 8 := by omega
      have e3 : (0 : Int) ≤ 1 + (q : Int) + 8 := by omega
      have e4 : 1 + (q : Int) + 8 ≤ 72 := by omega
      clear hlt hk hg hb hF hFl hTl hG
      go_wp2
      go_ret
      exact ⟨by rw [HR.out]; rfl, HB.out⟩
end Go.Proofs.YtjfefphgikncnaaDoor
namespace Go.Proofs.YtjfefphgikncnaaDoor
open Go.RowKit

set_option maxRecDepth 8000 in
set_option maxHeartbeats 1000000 in
theorem sjoin_any (s : Sha.St) (w : World) :
    Calls Tryd.prog 85 #[.agg (u32s s.list)] w fun e w' => e = .returned (.string ⟨(Sha.joinP s).toArray⟩) ∧ Below w.heap.size w w' := by
  obtain ⟨L, hL⟩ : ∃ L, s.list = L := ⟨_, rfl⟩
  have hLl : L.length = 8 := by rw [← hL]; rfl
  have hj : Sha.joinFill L 8 = Sha.joinP s := by rw [← hL]; rfl
  rw [hL]
  have HJ := Lib.hid hj
  have HLL := Lib.hid hLl
  have hix : ∀ (k : Nat), k < 8 → ∀ w, (Instr.index 104 (.agg (u32s L)) (.int .i64 k)).run Tryd.prog w = .ok (.int .u32 (L.getD k 0)) w := by
    intro k hk w
    have hu := Tryd.underlying104
    have hk0 : (0 : Int) ≤ (k : Int) := by omega
    have hk8 : (k : Int) < 8 := by omega
    have hat : (u32s L)[k]? = some (.int .u32 (L.getD k 0)) := u32s_at L k (by omega)
    unfold Instr.index
    go_simp
  have HIX := Lib.hid hix
  have hsz : (u32s L).size = 8 := by rw [u32s_size, hLl]
  have hi : (Tryd.prog.info? 104).map (·.size) = some (u32s L).size := by rw [hsz]; kernel_rfl
  have HI := Lib.hid hi
  obtain ⟨A, hA⟩ : ∃ A, u32s L = A := ⟨_, rfl⟩
  rw [hA] at HI HIX ⊢
  clear hA hsz hi hix hj hLl hL
  go_enter Tryd.func85, Tryd.ntmps85
  go_wp2_with (refine wpList_load_row (by rfl) _ _ (by rfl) w.heap.size (by rfl) _ A (0, 0) _ (heap_old_at _ (heap_new_at _ _ _ rfl)) Tryd.underlying104 (by rfl) HI.out ?_)
  go_loopw [7] (fun i wr => ∃ k : Nat, k ≤ 8 ∧ i = .int .i64 k ∧ Below w.heap.size w wr ∧ wr.heap[w.heap.size + 1]? = some (.cells (u8s (Sha.joinFill L k)) 133 (0, 0))) (fun i _ => 8 - (intOf i).toNat)
  case atStart => exact ⟨0, by omega, rfl, ((Below.refl _ w).alloc (Nat.le_refl _) _).alloc (by simp) _, heap_new_at _ _ _ (by simp)⟩
  case round =>
    obtain ⟨k, hk, rfl, hb, hg⟩ := hrel
    obtain ⟨F, hF⟩ : ∃ F, Sha.joinFill L k = F := ⟨_, rfl⟩
    have hFl : F.length = 32 := by rw [← hF, Sha.joinFill_length]
    rw [hF] at hg
    have HB := Lib.hid hb
    have HG := Lib.hid hg
    have HF := Lib.hid hF
    by_cases hlt : k < 8
    · have hx := HIX.out k hlt
      have hn : Sha.joinFill L (k + 1) = (((F.set (4 * k) (Sha.byteOf (L.getD k 0 / 16777216))).set (4 * k + 1) (Sha.byteOf (L.getD k 0 / 65536))).set (4 * k + 2) (Sha.byteOf (L.getD k 0 / 256))).set (4 * k + 3) (Sha.byteOf (L.getD k 0)) := by rw [← hF]; rfl
      obtain ⟨x, hxx⟩ : ∃ x, L.getD k 0 = x := ⟨_, rfl⟩
      rw [hxx] at hx hn
      have HN := Lib.hid hn
      have hcell : ∀ j, j < 32 → ∃ z, wr.cell? ⟨w.heap.size + 1, j, none⟩ = some (.int .u8 z) := fun j hj => ⟨_, (cell_of_row wr _ j _ _ _ hg).trans (u8s_at _ j (by omega))⟩
      have hfz : ∀ j, wr.frozen? ⟨w.heap.size + 1, j, none⟩ = false := fun j => frozen_of_row wr _ j _ _ hg
      obtain ⟨z0, c0⟩ := hcell (4 * k) (by omega)
      obtain ⟨z1, c1⟩ := hcell (4 * k + 1) (by omega)
      obtain ⟨z2, c2⟩ := hcell (4 * k + 2) (by omega)
      obtain ⟨z3, c3⟩ := hcell (4 * k + 3) (by omega)
      have f0 := hfz (4 * k)
      have f1 := hfz (4 * k + 1)
      have f2 := hfz (4 * k + 2)
      have f3 := hfz (4 * k + 3)
      have e0 : (4 * (k : Int)).toNat = 4 * k := by omega
      have e1 : (4 * (k : Int) + 1).toNat = 4 * k + 1 := by omega
      have e2 : (4 * (k : Int) + 2).toNat = 4 * k + 2 := by omega
      have e3 : (4 * (k : Int) + 3).toNat = 4 * k + 3 := by omega
      have hk8 : (k : Int) < 8 := by omega
      clear hb hg hF hFl hxx hn hcell hfz
      go_wp2
      go_roundw
      case rel =>
        have hle : w.heap.size ≤ w.heap.size + 1 := Nat.le_succ _
        refine ⟨k + 1, by omega, by go_num, (((HB.out.setCell hle _).setCell hle _).setCell hle _).setCell hle _, ?_⟩
        rw [HN.out, ← u8s_set, ← u8s_set, ← u8s_set, ← u8s_set, Sha.byteOf_toNat, Sha.byteOf_toNat, Sha.byteOf_toNat, Sha.byteOf_toNat]
        exact heap_setCell_same _ _ _ _ _ _ (heap_setCell_same _ _ _ _ _ _ (heap_setCell_same _ _ _ _ _ _ (heap_setCell_same _ _ _ _ _ _ HG.out)))
      case measure => simp [intOf]; omega
    · obtain rfl : k = 8 := by omega
      have hno : ¬ ((8 : Nat) : Int) < 8 := by omega
      have kc : (convert 69 9 (.slice (some ⟨w.heap.size + 1, 0, none⟩) 32 32)).run Tryd.prog wr = .ok (.string ⟨F.toArray⟩) wr := by
        have := run_convert_bytes_back (P := Tryd.prog) wr 69 9 5 ⟨w.heap.size + 1, 0, none⟩ 32 F Tryd.underlying69 Tryd.underlying5 Tryd.underlying9 (by
          intro j hj
          rw [Addr.add_mid, Nat.zero_add, cell_of_row wr _ j _ _ _ hg, u8s_at F j hj]
          simp [hj])
        rwa [hFl] at this
      have HR : Hid (F = Sha.joinP s) := Lib.hid (by rw [← HF.out, HJ.out])
      clear hlt hk hg hb hF hFl
      go_wp2
      go_ret
      exact ⟨by rw [HR.out]; rfl, HB.out⟩
end Go.Proofs.YtjfefphgikncnaaDoor
namespace Go.Proofs.YtjfefphgikncnaaDoor
open Go.RowKit

theorem HashIs.start {w : World} {g : Nat} (h : w.heap[g]? = some (.cells (hashL Sha.first (List.replicate 64 0) 0).toArray 109 (0, 0))) : HashIs w g [] :=
  ⟨List.replicate 64 0, by simp, rfl, h⟩
theorem Tryd.zero73 : (Tryd.prog.info? 109).map (fun i => (i.zero, i.size)) = some (some (.agg (hashL ⟨0, 0, 0, 0, 0, 0, 0, 0⟩ (List.replicate 64 0) 0).toArray), 73) := by kernel_rfl
theorem hash_one (s : Sha.St) (o : List UInt8) (n : Nat) : (hashL s o n).toArray.all (·.oneCell') = true := by
  refine all_oneCell_toArray ?_
  intro v hv
  simp only [hashL, words8, cellsL, List.mem_append, List.mem_map, List.mem_cons, List.not_mem_nil, or_false] at hv
  rcases hv with (rfl | rfl | rfl | rfl | rfl | rfl | rfl | rfl) | ⟨x, _, rfl⟩ | rfl <;> rfl

/-- A whole value into the block that was made last. -/
theorem wpList_store_new {P : Program} {ops : Array Oper} {rest : List Oper} {o : Oper} {a : Act} {w : World} {Q : Exit → Act → World → Prop} (hgd : o.guard = none) (ty : TypeId) (x y : Operand) (ho : o.op = .store ty x y)
    (g : Nat) (hg : g = w.heap.size) (cells : Array Value) (hx : a.eval x = .pointer (some ⟨g, 0, none⟩)) (hy : a.eval y = .agg cells)
    (t : TypeId) (old : Array Value) (hi : (P.info? ty).map (·.size) = some cells.size)
    (hold : old.size = cells.size) (h1 : cells.all (·.oneCell') = true)
    (h : wpList P ops Q rest (a.put o.dst undef) (w.alloc (.cells cells t))) : wpList P ops Q (o :: rest) a (w.alloc (.cells old t)) := by
  subst hg
  exact wpList_store_row hgd ty x y ho w.heap.size cells hx hy t old (heap_alloc_new w _) hi hold h1 (by rw [World.setRow_alloc_new]; exact h)

set_option maxRecDepth 8000 in
set_option maxHeartbeats 1000000 in
theorem hsum_any (t : List UInt8) (g : Nat) (w : World) (hh : HashIs w g t) (hT : Tab w) (hl : t.length ≤ 1152921504606800000) :
    Calls Tryd.prog 73 #[.pointer (some ⟨g, 0, none⟩)] w fun e w' => e = .returned (.string ⟨(Sha.sumP t).toArray⟩) ∧ Below w.heap.size w w' := by
  have hgl := hh.lt
  have hpos := hT.pos
  obtain ⟨o, hol, hoq, hg⟩ := hh
  obtain ⟨c, hc⟩ : ∃ c, t.length = c := ⟨_, rfl⟩
  obtain ⟨C, hC⟩ : ∃ C, (hashL (Sha.wordsP t) o t.length).toArray = C := ⟨_, rfl⟩
  have hz := (zero_of_info Tryd.zero73).1
  obtain ⟨Z, hZ⟩ : ∃ Z, (hashL ⟨0, 0, 0, 0, 0, 0, 0, 0⟩ (List.replicate 64 0) 0).toArray = Z := ⟨_, rfl⟩
  have hZs : Z.size = 73 := by rw [← hZ, List.size_toArray, hashL_length _ _ _ (by simp)]
  have hCs : C.size = 73 := by rw [← hC, List.size_toArray, hashL_length _ _ _ hol]
  have hC1 : C.all (·.oneCell') = true := by rw [← hC]; exact hash_one _ _ _
  have hi : (Tryd.prog.info? 109).map (·.size) = some C.size := by rw [hCs]; exact (zero_of_info Tryd.zero73).2
  have c72 : w.cell? ⟨g, 72, none⟩ = some (.int .u64 (c : Int)) := by rw [← hc]; exact (cell_of_row w g 72 _ _ _ hg).trans (hashL_count _ _ _ hol)
  have hcop : ∀ w' p, w'.heap[p]? = some (.cells C 109 (0, 0)) → HashIs w' p t := fun w' p h => ⟨o, hol, hoq, by rw [hC]; exact h⟩
  rw [hC] at hg
  rw [hZ] at hz
  have HC := Lib.hid hc
  have HG := Lib.hid hg
  have HI := Lib.hid hi
  have HC1 := Lib.hid hC1
  have HZC : Hid (Z.size = C.size) := Lib.hid (by rw [hZs, hCs])
  have HCOP := Lib.hid hcop
  have HT := Lib.hid hT
  clear hc hg hi hC1 hZs hCs hcop hT hC hZ hol hoq
  go_enter Tryd.func73, Tryd.ntmps73
  go_wp2_with (first | (refine wpList_load_row (by rfl) _ _ (by rfl) g (by rfl) _ C _ _ HG.out Tryd.underlying109 (by rfl) HI.out ?_) | (refine wpList_store_new (by rfl) _ _ _ (by rfl) w.heap.size rfl C (by rfl) (by rfl) _ Z HI.out HZC.out HC1.out ?_))
  refine (tail_any c _ (by have := HC.out; omega)).mono ?_
  rintro e w2 ⟨rfl, hb2⟩
  have hB1 : Below w.heap.size w (w.alloc (.cells C 109)) := (Below.refl _ w).alloc (Nat.le_refl _) _
  have hB2 : Below w.heap.size w w2 := hB1.trans (hb2.mono hB1.size)
  have hh2 : HashIs w2 w.heap.size t := (HCOP.out _ _ (heap_new_at w _ _ rfl)).below hb2
  have hT2 : Tab w2 := HT.out.below hB2
  have hlt : (Sha.tailP c).length ≤ 72 := by rw [Sha.tailP_length]; unfold Sha.padN; omega
  have HW := Lib.hid (write_any t (Sha.tailP c) w.heap.size w2 hh2 hT2 hpos (by omega))
  have HB2 := Lib.hid hB2
  clear hb2 hB1 hB2 hh2 hT2 hlt
  go_wp2_with fail
  refine HW.out.mono ?_
  rintro e w3 ⟨rfl, hh3, ho3⟩
  have hB3 : Below w.heap.size w w3 := HB2.out.trans (ho3.below (Nat.le_refl _) HB2.out.size)
  have HR : Hid (Sha.sumP t = Sha.joinP (Sha.wordsP (t ++ Sha.tailP c))) := Lib.hid (by unfold Sha.sumP; rw [HC.out])
  obtain ⟨o3, hol3, _, hg3⟩ := hh3
  obtain ⟨S, hS⟩ : ∃ S, Sha.wordsP (t ++ Sha.tailP c) = S := ⟨_, rfl⟩
  rw [hS] at hg3 HR
  have HJ := Lib.hid (sjoin_any S w3)
  have HB3 := Lib.hid hB3
  obtain ⟨z0, z1, z2, z3, z4, z5, z6, z7, y0, y1, y2, y3, y4, y5, y6, y7⟩ := words_there hg3
  obtain ⟨a, b, c1, d, e, f, g1, h⟩ := S
  simp only [Sha.St.list, u32s, List.map_cons, List.map_nil] at HJ
  dsimp only at z0 z1 z2 z3 z4 z5 z6 z7
  clear hS hg3 hB3 ho3 y0 y1 y2 y3 y4 y5 y6 y7
  go_wp2_with fail
  refine HJ.out.mono ?_
  rintro e w4 ⟨rfl, hb4⟩
  go_wp2
  go_ret
  exact ⟨by rw [HR.out]; rfl, HB3.out.trans (hb4.mono HB3.out.size)⟩
end Go.Proofs.YtjfefphgikncnaaDoor
namespace Go.Proofs.YtjfefphgikncnaaDoor.Sha
set_option maxRecDepth 100000
end Go.Proofs.YtjfefphgikncnaaDoor.Sha
namespace Go.Proofs.YtjfefphgikncnaaDoor
open Go.RowKit

set_option maxRecDepth 8000 in
set_option maxHeartbeats 1000000 in
theorem sum_any (s : List UInt8) (w : World) (hT : Tab w) (hl : s.length ≤ 1152921504606800000) :
    Calls Tryd.prog 60 #[.string ⟨s.toArray⟩] w fun e w' => e = .returned (.string ⟨(Sha.sumP s).toArray⟩) ∧ Below w.heap.size w w' := by
  have hz := (zero_of_info Tryd.zero73).1
  obtain ⟨Z, hZ⟩ : ∃ Z, (hashL ⟨0, 0, 0, 0, 0, 0, 0, 0⟩ (List.replicate 64 0) 0).toArray = Z := ⟨_, rfl⟩
  obtain ⟨C, hC⟩ : ∃ C, (hashL Sha.first (List.replicate 64 0) 0).toArray = C := ⟨_, rfl⟩
  have hZs : Z.size = 73 := by rw [← hZ, List.size_toArray, hashL_length _ _ _ (by simp)]
  have hCs : C.size = 73 := by rw [← hC, List.size_toArray, hashL_length _ _ _ (by simp)]
  have hC1 : C.all (·.oneCell') = true := by rw [← hC]; exact hash_one _ _ _
  have hi : (Tryd.prog.info? 109).map (·.size) = some C.size := by rw [hCs]; exact (zero_of_info Tryd.zero73).2
  have hst : ∀ w' p, w'.heap[p]? = some (.cells C 109 (0, 0)) → HashIs w' p [] := fun w' p h => HashIs.start (by rw [hC]; exact h)
  have hbu := built_hash
  rw [hC] at hbu
  rw [hZ] at hz
  have HBU := Lib.hid hbu
  have HI := Lib.hid hi
  have HC1 := Lib.hid hC1
  have HZC : Hid (Z.size = C.size) := Lib.hid (by rw [hZs, hCs])
  have HST := Lib.hid hst
  have HT := Lib.hid hT
  clear hi hC1 hZs hCs hst hT hC hZ hbu
  go_enter Tryd.func60, Tryd.ntmps60
  go_wp2_with fail
  refine (first_any _).mono ?_
  rintro e w1 ⟨rfl, hb1⟩
  go_wp2_with (first | (refine wpList_build_to (by rfl) _ _ (by rfl) [(0, .agg (u32s Sha.first.list))] (by first | rfl | (simp [Act.eval]; done) | kernel_rfl) C HBU.out ?_) | (refine wpList_store_new (by rfl) _ _ _ (by rfl) w1.heap.size rfl C (by rfl) (by rfl) _ Z HI.out HZC.out HC1.out ?_))
  have hB2 : Below w.heap.size w (w1.alloc (.cells C 109)) := hb1.alloc hb1.size _
  have hh2 : HashIs (w1.alloc (.cells C 109)) w1.heap.size [] := HST.out _ _ (heap_new_at _ _ _ rfl)
  have hT2 := HT.out.below hB2
  have hp : 0 < w1.heap.size := Nat.lt_of_lt_of_le HT.out.pos hb1.size
  have HW := Lib.hid (write_any [] s w1.heap.size _ hh2 hT2 hp (by simp; omega))
  have HB2 := Lib.hid hB2
  have HS1 := Lib.hid hb1.size
  clear hb1 hB2 hh2 hT2
  refine HW.out.mono ?_
  rintro e w3 ⟨rfl, hh3, ho3⟩
  have hB3 : Below w.heap.size w w3 := HB2.out.trans (ho3.below HS1.out HB2.out.size)
  have HS := Lib.hid (hsum_any s w1.heap.size w3 (by simpa using hh3) (HT.out.below hB3) (by omega))
  have HB3 := Lib.hid hB3
  clear hh3 ho3 hB3
  go_wp2_with fail
  refine HS.out.mono ?_
  rintro e w4 ⟨rfl, hb4⟩
  go_wp2
  go_ret
  exact ⟨rfl, HB3.out.trans (hb4.mono HB3.out.size)⟩

end Go.Proofs.YtjfefphgikncnaaDoor
namespace Go.Proofs.YtjfefphgikncnaaDoor
open Go.RowKit

theorem isTag_any (t : Int) (w : World) :
    Calls Tryd.prog 59 #[.int .i64 t] w fun e w' => e = .returned (.bool (Dig.isTag t)) ∧ w' = w := by
  unfold Dig.isTag
  by_cases h1 : 1 ≤ t
  · by_cases h2 : t ≤ 255
    · go_enter Tryd.func59, Tryd.ntmps59
      go_wp2
      go_ret
      simp [h1, h2]
    · go_enter Tryd.func59, Tryd.ntmps59
      go_wp2
      go_ret
      simp [h2]
  · go_enter Tryd.func59, Tryd.ntmps59
    go_wp2
    go_ret
    simp
    omega

/-- What Sum answers. -/
def Dig.sum (t : Int) (s : List UInt8) : List UInt8 := if Dig.isTag t then Sha.sumP (Sha.byteOf t :: s) else []
def Dig.sumC (t : Int) : Int := if Dig.isTag t then 0 else 1
theorem conv_tag (w : World) (x : Int) : (convert 69 9 (.slice (some ⟨w.heap.size, 0, none⟩) 1 1)).run Tryd.prog (w.alloc (.cells #[.int .u8 (x % 256)] 5)) = .ok (.string ⟨[Sha.byteOf x].toArray⟩) (w.alloc (.cells #[.int .u8 (x % 256)] 5)) := by
  have hg := heap_alloc_new w (.cells #[.int .u8 (x % 256)] 5)
  refine run_convert_bytes_back (P := Tryd.prog) _ 69 9 5 ⟨w.heap.size, 0, none⟩ 1 [Sha.byteOf x] Tryd.underlying69 Tryd.underlying5 Tryd.underlying9 ?_
  intro j hj
  rw [Addr.add_mid, Nat.zero_add, cell_of_row _ _ j _ _ _ hg]
  match j, hj with
  | 0, _ => simp [Sha.byteOf_toNat]

set_option maxRecDepth 8000 in
set_option maxHeartbeats 1000000 in
theorem dsum_any (t : Int) (s : List UInt8) (w : World) (hT : Tab w) (hs : s.length ≤ 140737488351232) :
    Calls Tryd.prog 43 #[.int .i64 t, .string ⟨s.toArray⟩] w fun e w' => e = .returned (.tuple #[.string ⟨(Dig.sum t s).toArray⟩, .int .i64 (Dig.sumC t)]) ∧ Below w.heap.size w w' := by
  unfold Dig.sum Dig.sumC
  by_cases ht : Dig.isTag t = true
  · have HT := Lib.hid ht
    have HTB := Lib.hid hT
    rw [if_pos ht, if_pos ht]
    have HS := Lib.hid (fun w hw => sum_any (Sha.byteOf t :: s) w hw (by simp; omega))
    obtain ⟨R, hR⟩ : ∃ R, Sha.sumP (Sha.byteOf t :: s) = R := ⟨_, rfl⟩
    rw [hR] at HS ⊢
    have hcm := cat_mk [Sha.byteOf t] s
    have kc := fun w => conv_tag w t
    rw [List.singleton_append] at hcm
    clear ht hR hT
    go_enter Tryd.func43, Tryd.ntmps43
    go_wp2_with fail
    refine (isTag_any t _).mono ?_
    rintro e w1 ⟨rfl, rfl⟩
    rw [HT.out]
    have hB1 : Below w1.heap.size w1 (w1.alloc (.cells #[.int .u8 (t % 256)] 5)) := (Below.refl _ w1).alloc (Nat.le_refl _) _
    go_wp2_with fail
    refine (HS.out _ (HTB.out.below hB1)).mono ?_
    rintro e w2 ⟨rfl, hb2⟩
    go_wp2
    go_ret2
    exact ⟨rfl, bchain hB1 hb2⟩
  · have hf : Dig.isTag t = false := by simpa using ht
    have HF := Lib.hid hf
    rw [if_neg ht, if_neg ht]
    clear ht hf
    go_enter Tryd.func43, Tryd.ntmps43
    go_wp2_with fail
    refine (isTag_any t _).mono ?_
    rintro e w1 ⟨rfl, rfl⟩
    rw [HF.out]
    go_wp2
    go_ret2
    exact ⟨rfl, Below.refl _ _⟩
end Go.Proofs.YtjfefphgikncnaaDoor
namespace Go.Proofs.YtjfefphgikncnaaDoor
open Go.RowKit
attribute [local go_sem ↓] Go.wp_at_zero Go.wp_at_succ

namespace Sha
def tell4 (x : Int) : List UInt8 := [byteOf (x / 16777216), byteOf (x / 65536), byteOf (x / 256), byteOf x]
def tell (L : List Int) : Nat → List UInt8
  | 0 => []
  | k + 1 => tell L k ++ tell4 (L.getD k 0)
end Sha
end Go.Proofs.YtjfefphgikncnaaDoor
namespace Go.Proofs.YtjfefphgikncnaaDoor
open Go.RowKit

end Go.Proofs.YtjfefphgikncnaaDoor
namespace Go.Proofs.YtjfefphgikncnaaDoor
open Go.RowKit
attribute [local go_sem ↓] Go.wp_at_zero Go.wp_at_succ

end Go.Proofs.YtjfefphgikncnaaDoor
namespace Go.Proofs.YtjfefphgikncnaaDoor
open Go.RowKit

end Go.Proofs.YtjfefphgikncnaaDoor
namespace Go.Proofs.YtjfefphgikncnaaDoor
open Go.RowKit

end Go.Proofs.YtjfefphgikncnaaDoor
namespace Go.Proofs.YtjfefphgikncnaaDoor
open Go.RowKit
open Go.Proofs.YtjfefphgikncnaaDoor.Nd (N)

def Nd.sumS (n : N) : List UInt8 := if Nd.fine n then Dig.sum 1 (Nd.written n) else []
set_option maxRecDepth 100000 in
set_option maxHeartbeats 1000000 in
theorem ndigest_any (n : N) (w : World) (hn : n.kids.length = 16) (hT : Tab w) :
    Calls Tryd.prog 36 #[ndval n] w fun e w' => e = .returned (.string ⟨(Nd.sumS n).toArray⟩) ∧ Below w.heap.size w w' := by
  obtain ⟨C, hC, HB0, HCE, HI, HI2⟩ := nbox n w hn
  have HE := Lib.hid (fun w => nencode_any n w hn)
  have HTW := Lib.hid (fun w' (h : Below w.heap.size w w') => hT.below h)
  unfold Nd.sumS
  unfold Nd.encS Nd.encC ndval at HE
  unfold ndval
  rw [hC] at HE ⊢
  obtain ⟨-, -, -, -, -, cR⟩ := HCE.out _ (Below.refl _ _)
  have HRO := Lib.hid cR
  clear hC cR hT
  cases hf : Nd.fine n with
  | false =>
    rw [hf] at HE
    rw [if_neg (by decide)]
    rw [if_neg (by decide), if_neg (by decide)] at HE
    clear hf
    go_enter Tryd.func36, Tryd.ntmps36
    go_wp2_with (refine wpList_load_row (by rfl) _ _ (by rfl) w.heap.size (by rfl) _ C _ _ HRO.out Tryd.underlying64 (by rfl) HI.out ?_)
    refine (HE.out _).mono ?_
    rintro e w1 ⟨rfl, hb1⟩
    go_wp2
    go_ret
    exact ⟨rfl, bchain HB0.out hb1⟩
  | true =>
    have hl := Nd.written_most n hn hf
    rw [hf] at HE
    rw [if_pos rfl]
    rw [if_pos rfl, if_pos rfl] at HE
    obtain ⟨T, hT⟩ : ∃ T, Nd.written n = T := ⟨_, rfl⟩
    rw [hT] at HE hl ⊢
    have HL := Lib.hid hl
    obtain ⟨S, hS⟩ : ∃ S, Dig.sum 1 T = S := ⟨_, rfl⟩
    have HSU : Hid (∀ w', Tab w' → Calls Tryd.prog 43 #[.int .i64 1, .string ⟨T.toArray⟩] w' fun e w'' => e = .returned (.tuple #[.string ⟨S.toArray⟩, .int .i64 0]) ∧ Below w'.heap.size w' w'') := Lib.hid (fun w' h => by
      have := dsum_any 1 T w' h (by omega)
      rw [hS, show Dig.sumC 1 = 0 from by decide] at this
      exact this)
    rw [hS]
    clear hf hT hl hS
    go_enter Tryd.func36, Tryd.ntmps36
    go_wp2_with (refine wpList_load_row (by rfl) _ _ (by rfl) w.heap.size (by rfl) _ C _ _ HRO.out Tryd.underlying64 (by rfl) HI.out ?_)
    refine (HE.out _).mono ?_
    rintro e w1 ⟨rfl, hb1⟩
    have HB1 := Lib.hid (bchain HB0.out hb1)
    clear hb1
    go_wp2_with fail
    refine (HSU.out _ (HTW.out _ HB1.out)).mono ?_
    rintro e w2 ⟨rfl, hb2⟩
    go_wp2
    go_ret
    exact ⟨rfl, bchain HB1.out hb2⟩

end Go.Proofs.YtjfefphgikncnaaDoor
namespace Go.Proofs.YtjfefphgikncnaaDoor
open Go.RowKit
open Go.Proofs.YtjfefphgikncnaaDoor.Nd (N)
namespace Tri
open Sto (T)
def Tr.kind : Tr → Nat
  | .nil => 0
  | .leaf _ _ => 1
  | .ext _ _ => 2
  | .br _ _ => 3
def Tr.pth : Tr → T
  | .leaf p _ => p
  | .ext p _ => p
  | _ => []
def Tr.vl : Tr → T
  | .leaf _ v => v
  | .br v _ => v
  | _ => []
def Tr.kid : Tr → Fin 16 → Tr
  | .ext _ t, i => if i = 0 then t else .nil
  | .br _ k, i => k i
  | _, _ => .nil
theorem kid_ind {P : Tr → Prop} (h0 : P .nil) (h : ∀ t : Tr, ¬ t.isNil → (∀ i, P (t.kid i)) → P t) (t : Tr) : P t := by
  induction t with
  | nil => exact h0
  | leaf p v => exact h _ id fun i => h0
  | ext p t ih =>
    refine h _ id fun i => ?_
    simp only [Tr.kid]
    split
    · exact ih
    · exact h0
  | br v k ih => exact h _ id ih
theorem kid_ext {t u : Tr} (h1 : t.kind = u.kind) (h2 : t.pth = u.pth) (h3 : t.vl = u.vl) (h4 : ∀ i, t.kid i = u.kid i) : t = u := by
  cases t <;> cases u <;> simp_all [Tr.kind, Tr.pth, Tr.vl, Tr.kid]
  · have := h4 0
    simpa using this
  · funext i; exact h4 i
theorem rep_ofFn (a : T) : a :: List.replicate 15 [] = List.ofFn fun i : Fin 16 => if i = 0 then a else [] := by
  simp [List.ofFn_succ, List.replicate]
theorem rep_ofFn0 : List.replicate 16 ([] : T) = List.ofFn fun _ : Fin 16 => [] := by simp [List.ofFn_succ, List.replicate]
theorem node_kid (dg : N → T) {t : Tr} (h : ¬ t.isNil) : t.node dg = ⟨t.kind, t.pth, t.vl, List.ofFn fun i => (t.kid i).sum dg⟩ := by
  cases t with
  | nil => exact absurd trivial h
  | leaf p v => simp only [Tr.node, Tr.kind, Tr.pth, Tr.vl, Tr.kid, Tr.sum, rep_ofFn0]; rfl
  | ext p t =>
    simp only [Tr.node, Tr.kind, Tr.pth, Tr.vl, rep_ofFn]
    congr 2
    funext i
    simp only [Tr.kid]
    split <;> rfl
  | br v k => rfl
theorem kind_nil {t : Tr} : t.kind = 0 ↔ t.isNil := by cases t <;> simp [Tr.kind, Tr.isNil]
theorem kid_canon {t : Tr} (h : t.canon) (i : Fin 16) : (t.kid i).canon := by
  cases t with
  | nil => trivial
  | leaf p v => trivial
  | ext p t =>
    simp only [Tr.kid]; split
    · exact h.2.2
    · trivial
  | br v k => exact h.1 i
theorem kid_fits {t : Tr} (h : t.fits) (i : Fin 16) : (t.kid i).fits := by
  cases t with
  | nil => trivial
  | leaf p v => trivial
  | ext p t =>
    simp only [Tr.kid]; split
    · exact h.2
    · trivial
  | br v k => exact h i
theorem kid_small {t : Tr} (h : t.small) (i : Fin 16) : (t.kid i).small := by
  cases t with
  | nil => trivial
  | leaf p v => trivial
  | ext p t =>
    simp only [Tr.kid]; split
    · exact h.2
    · trivial
  | br v k => exact h.2 i
/-- What may be a node of a trie. -/
structure Ok (t : Tr) : Prop where
  canon : t.canon
  fits : t.fits
  small : t.small
theorem Ok.kid {t : Tr} (h : Ok t) (i : Fin 16) : Ok (t.kid i) := ⟨kid_canon h.canon i, kid_fits h.fits i, kid_small h.small i⟩
theorem sumS_len (n : N) (_ : n.kids.length = 16) (h : Nd.fine n = true) : (Nd.sumS n).length = 32 := by
  unfold Nd.sumS
  rw [if_pos h]
  rw [Dig.sum, if_pos (by decide)]; exact Sha.sumP_length _
theorem Ok.fine {t : Tr} (h : Ok t) (hn : ¬ t.isNil) : Nd.fine (t.node Nd.sumS) = true := node_fine Nd.sumS sumS_len h.canon h.fits h.small hn
theorem Ok.sum_len {t : Tr} (h : Ok t) (hn : ¬ t.isNil) : (t.sum Nd.sumS).length = 32 := by
  rw [sum_node _ hn]
  exact sumS_len _ (node_kids _ _) (h.fine hn)
theorem Ok.sum_ne {t : Tr} (h : Ok t) (hn : ¬ t.isNil) : t.sum Nd.sumS ≠ [] := fun e => by have := h.sum_len hn; rw [e] at this; cases this
end Tri
open Sto (T)
open Tri (Tr Ok)

abbrev Ks := Fin 16 → Value
def nilp : Value := .pointer none
def ptr (g : Nat) : Value := .pointer (some ⟨g, 0, none⟩)
theorem ptr_inj {a b : Nat} (h : ptr a = ptr b) : a = b := by
  unfold ptr at h
  injection h with h; injection h with h; injection h
def pcl (kind : Nat) (p x : T) (K : Ks) (s : T) : List Value := .int .i64 kind :: .string ⟨p.toArray⟩ :: .string ⟨x.toArray⟩ :: (List.ofFn K ++ [.string ⟨s.toArray⟩])
theorem pcl_length (kind : Nat) (p x : T) (K : Ks) (s : T) : (pcl kind p x K s).length = 20 := by simp [pcl]
theorem ofFn_injV {f g : Ks} (h : List.ofFn f = List.ofFn g) : f = g := by
  funext i
  have := List.getElem_of_eq h (i := i.val) (by rw [List.length_ofFn]; exact i.isLt)
  rwa [List.getElem_ofFn, List.getElem_ofFn] at this
theorem pcl_inj {k k' : Nat} {p p' x x' s s' : T} {K K' : Ks} (h : pcl k p x K s = pcl k' p' x' K' s') : k = k' ∧ p = p' ∧ x = x' ∧ K = K' ∧ s = s' := by
  unfold pcl at h
  obtain ⟨h1, h⟩ := List.cons.inj h
  obtain ⟨h2, h⟩ := List.cons.inj h
  obtain ⟨h3, h⟩ := List.cons.inj h
  obtain ⟨h4, h⟩ := List.append_inj h (by simp)
  refine ⟨?_, str_inj h2, str_inj h3, ofFn_injV h4, str_inj (List.cons.inj h).1⟩
  injection h1 with _ h1
  exact Int.ofNat_inj.1 h1
/-- A part in a block. -/
def RowP (w : World) (g kind : Nat) (p x : T) (K : Ks) (s : T) : Prop := w.heap[g]? = some (.cells (pcl kind p x K s).toArray 57 (0, 0))
theorem RowP.inj {w : World} {g k k' : Nat} {p p' x x' s s' : T} {K K' : Ks} (h : RowP w g k p x K s) (h' : RowP w g k' p' x' K' s') : k = k' ∧ p = p' ∧ x = x' ∧ K = K' ∧ s = s' := by
  unfold RowP at h h'
  rw [h] at h'
  injection h' with h'; injection h' with h'
  exact pcl_inj (List.toArray_inj h')
/-- Which blocks a tree's parts may lie in: true of one that has its sum. -/
abbrev Fm := Bool → Nat → Prop
/-- What has no sum yet is new from B on. -/
def Fm.from (B : Nat) : Fm := fun s g => s = false → B ≤ g
def Fm.off (F : Fm) (q : Nat) : Fm := fun s g => F s g ∧ g ≠ q
def Blk (w : World) (F : Fm) (s : Bool) (kind : Nat) (p x sum : T) (v : Value) (R : Bool → Ks → Prop) : Prop :=
  ∃ g s' K, v = ptr g ∧ (s = true → s' = true) ∧ F s' g ∧ RowP w g kind p x K (if s' then sum else []) ∧ R s' K
/-- A tree in memory: what has its sum, has those below it. s: all have theirs. -/
def PAt (w : World) (F : Fm) : Bool → Tr → Value → Prop
  | _, .nil, v => v = nilp
  | s, .leaf p x, v => Blk w F s 1 p x (Tr.sum Nd.sumS (.leaf p x)) v fun _ K => ∀ i, K i = nilp
  | s, .ext p t, v => Blk w F s 2 p [] (Tr.sum Nd.sumS (.ext p t)) v fun s' K => PAt w F s' t (K 0) ∧ ∀ i, i ≠ 0 → K i = nilp
  | s, .br x k, v => Blk w F s 3 [] x (Tr.sum Nd.sumS (.br x k)) v fun s' K => ∀ i, PAt w F s' (k i) (K i)
theorem Blk.imp {w w' : World} {F F' : Fm} {s s2 : Bool} {kind : Nat} {p x sum : T} {v : Value} {R R' : Bool → Ks → Prop} (h : Blk w F s kind p x sum v R) (hs : s2 = true → s = true) (hF : ∀ s g, g < w.heap.size → F s g → F' s g) (hw : ∀ g K s' s2, F s2 g → RowP w g kind p x K s' → RowP w' g kind p x K s') (hR : ∀ s' K, R s' K → R' s' K) : Blk w' F' s2 kind p x sum v R' := by
  obtain ⟨g, s', K, rfl, h1, h2, h3, h4⟩ := h
  exact ⟨g, s', K, rfl, fun h => h1 (hs h), hF _ _ (lt_of_heap h3) h2, hw _ _ _ _ h2 h3, hR _ _ h4⟩
theorem PAt.nil (w : World) (F : Fm) (s : Bool) : PAt w F s .nil nilp := rfl
theorem PAt.iff {w : World} {F : Fm} {s : Bool} {t : Tr} {v : Value} (h : ¬ t.isNil) : PAt w F s t v ↔ Blk w F s t.kind t.pth t.vl (t.sum Nd.sumS) v fun s' K => ∀ i, PAt w F s' (t.kid i) (K i) := by
  cases t with
  | nil => exact absurd trivial h
  | leaf p x => exact Iff.rfl
  | ext p t =>
    constructor
    · intro h
      refine Blk.imp h id (fun _ _ _ h => h) (fun _ _ _ _ _ h => h) fun s' K hk i => ?_
      simp only [Tri.Tr.kid]
      split
      · rename_i e; rw [e]; exact hk.1
      · rename_i e; exact hk.2 i e
    · intro h
      refine Blk.imp h id (fun _ _ _ h => h) (fun _ _ _ _ _ h => h) fun s' K hk => ⟨?_, fun i hi => ?_⟩
      · have := hk 0
        simpa [Tri.Tr.kid] using this
      · have := hk i
        simp only [Tri.Tr.kid, if_neg hi] at this
        exact this
  | br x k => exact Iff.rfl
theorem PAt.row {w : World} {F : Fm} {s : Bool} {t : Tr} {v : Value} (h : PAt w F s t v) (hn : ¬ t.isNil) : ∃ g s' K, v = ptr g ∧ (s = true → s' = true) ∧ F s' g ∧ RowP w g t.kind t.pth t.vl K (if s' then t.sum Nd.sumS else []) ∧ ∀ i, PAt w F s' (t.kid i) (K i) := (PAt.iff hn).1 h
theorem PAt.change {w w' : World} {F F' : Fm} (hF : ∀ s g, g < w.heap.size → F s g → F' s g) (hw : ∀ g k p x K s s2, F s2 g → RowP w g k p x K s → RowP w' g k p x K s) {s : Bool} {t : Tr} {v : Value} (h : PAt w F s t v) : PAt w' F' s t v := by
  induction t using Tri.kid_ind generalizing s v with
  | h0 => exact h
  | h t hn ih => exact (PAt.iff hn).2 (Blk.imp ((PAt.iff hn).1 h) id hF (fun _ _ _ _ => hw _ _ _ _ _ _ _) fun s' K hk i => ih i (hk i))
theorem RowP.below {w w' : World} {g k : Nat} {p x s : T} {K : Ks} (h : RowP w g k p x K s) (hb : Below w.heap.size w w') : RowP w' g k p x K s := (hb.block g (lt_of_heap h)).trans h
theorem PAt.below {w w' : World} {F : Fm} {s : Bool} {t : Tr} {v : Value} (h : PAt w F s t v) (hb : Below w.heap.size w w') : PAt w' F s t v := h.change (fun _ _ _ h => h) fun _ _ _ _ _ _ _ _ h => h.below hb
theorem PAt.imp {w : World} {F F' : Fm} {s : Bool} {t : Tr} {v : Value} (h : PAt w F s t v) (hF : ∀ s g, g < w.heap.size → F s g → F' s g) : PAt w F' s t v := h.change hF fun _ _ _ _ _ _ _ _ h => h
/-- What was there lies not in a block that is new. -/
theorem PAt.new_off {w : World} {F : Fm} {s : Bool} {t : Tr} {v : Value} (h : PAt w F s t v) {q : Nat} (hq : w.heap.size ≤ q) : PAt w (F.off q) s t v := h.imp fun _ g hg hf => ⟨hf, by omega⟩
theorem PAt.on {w : World} {F : Fm} {q : Nat} {s : Bool} {t : Tr} {v : Value} (h : PAt w (F.off q) s t v) : PAt w F s t v := h.imp fun _ _ _ h => h.1
/-- A store into a block that the tree does not lie in. -/
theorem PAt.off {w : World} {F : Fm} {q : Nat} {s : Bool} {t : Tr} {v : Value} (h : PAt w (F.off q) s t v) (i : Nat) (u : Value) : PAt (w.setCell ⟨q, i, none⟩ u) F s t v :=
  h.change (fun _ _ _ h => h.1) fun g _ _ _ _ _ _ hf hr => (Below.heap_setCell _ ⟨q, i, none⟩ _ g hf.2).trans hr
/-- What has its sums may be told of other blocks, and as what may have none. -/
theorem PAt.sealed {w : World} {F F' : Fm} {t : Tr} {v : Value} (h : PAt w F true t v) (hF : ∀ g, F true g → F' true g) (s : Bool) : PAt w F' s t v := by
  induction t using Tri.kid_ind generalizing s v with
  | h0 => exact h
  | h t hn ih =>
    obtain ⟨g, s', K, rfl, h1, h2, h3, h4⟩ := h.row hn
    obtain rfl := h1 rfl
    exact (PAt.iff hn).2 ⟨g, true, K, rfl, fun _ => rfl, hF _ h2, h3, fun i => ih i (h4 i) true⟩
theorem PAt.weak {w : World} {F : Fm} {s : Bool} {t : Tr} {v : Value} (h : PAt w F s t v) : PAt w F false t v := by
  cases s with
  | false => exact h
  | true => exact h.sealed (fun _ h => h) false
theorem PAt.isNil {w : World} {F : Fm} {s : Bool} {t : Tr} (h : PAt w F s t nilp) : t.isNil := by
  refine Classical.byContradiction fun hn => ?_
  obtain ⟨g, _, _, e, _⟩ := h.row hn
  unfold nilp ptr at e
  injection e with e; cases e
theorem PAt.one {w : World} {F F' : Fm} {s s' : Bool} {t u : Tr} {v : Value} (h : PAt w F s t v) (h' : PAt w F' s' u v) : t = u := by
  induction t using Tri.kid_ind generalizing s s' v u with
  | h0 =>
    have e : v = nilp := h
    subst e
    exact (Tri.isNil_eq h'.isNil).symm
  | h t hn ih =>
    obtain ⟨g, a, K, e, _, _, r1, k1⟩ := h.row hn
    have hu : ¬ u.isNil := fun hu => by
      rw [Tri.isNil_eq hu] at h'
      have e2 : v = nilp := h'
      rw [e] at e2
      unfold nilp ptr at e2
      injection e2 with e2; cases e2
    obtain ⟨g', a', K', e', _, _, r2, k2⟩ := h'.row hu
    obtain rfl := ptr_inj (e.symm.trans e')
    obtain ⟨q1, q2, q3, rfl, _⟩ := r1.inj r2
    exact Tri.kid_ext q1 q2 q3 fun i => ih i (k1 i) (k2 i)
theorem pcl_set (k : Nat) (p x : T) (K : Ks) (s s' : T) : (pcl k p x K s).toArray.setIfInBounds 19 (.string ⟨s'.toArray⟩) = (pcl k p x K s').toArray := by
  rw [List.setIfInBounds_toArray]
  simp [pcl, List.ofFn_succ]
theorem RowP.seal {w : World} {g k : Nat} {p x s : T} {K : Ks} (h : RowP w g k p x K s) (s' : T) : RowP (w.setCell ⟨g, 19, none⟩ (.string ⟨s'.toArray⟩)) g k p x K s' := by
  have := heap_setCell_same _ _ 19 _ _ (.string ⟨s'.toArray⟩) h
  rw [pcl_set] at this
  exact this
/-- A part whose kids have their sums gets its own: no tree is another one by it. -/
theorem PAt.seals {w : World} {F : Fm} {g : Nat} {t : Tr} {K : Ks} {sx : T} (hF : ∀ s g, F s g → F true g) (hr : RowP w g t.kind t.pth t.vl K sx) (hk : ∀ i, PAt w F true (t.kid i) (K i)) {s : Bool} {u : Tr} {v : Value} (h : PAt w F s u v) :
    PAt (w.setCell ⟨g, 19, none⟩ (.string ⟨(t.sum Nd.sumS).toArray⟩)) F s u v := by
  induction u using Tri.kid_ind generalizing s v with
  | h0 => exact h
  | h u hu ih =>
    obtain ⟨g', s', K', rfl, h1, h2, h3, h4⟩ := h.row hu
    by_cases e : g' = g
    · subst e
      obtain ⟨q1, q2, q3, rfl, q5⟩ := hr.inj h3
      have htu : t = u := Tri.kid_ext q1 q2 q3 fun i => (hk i).one (h4 i)
      subst htu
      refine (PAt.iff hu).2 ⟨g', true, K, rfl, fun _ => rfl, hF _ _ h2, hr.seal _, fun i => ih i (hk i)⟩
    · refine (PAt.iff hu).2 ⟨g', s', K', rfl, h1, h2, ?_, fun i => ih i (h4 i)⟩
      exact (Below.heap_setCell _ ⟨g, 19, none⟩ _ g' e).trans h3
theorem PAt.seal {w : World} {F : Fm} {g : Nat} {t : Tr} {K : Ks} {sx : T} (hF : ∀ s g, F s g → F true g) (hg : F true g) (hn : ¬ t.isNil) (hr : RowP w g t.kind t.pth t.vl K sx) (hk : ∀ i, PAt w F true (t.kid i) (K i)) :
    PAt (w.setCell ⟨g, 19, none⟩ (.string ⟨(t.sum Nd.sumS).toArray⟩)) F true t (ptr g) :=
  (PAt.iff hn).2 ⟨g, true, K, rfl, fun _ => rfl, hg, hr.seal _, fun i => PAt.seals hF hr hk (hk i)⟩
theorem RowP.cell {w : World} {g k : Nat} {p x s : T} {K : Ks} (h : RowP w g k p x K s) (i : Nat) : w.cell? ⟨g, i, none⟩ = (pcl k p x K s)[i]? := by
  rw [cell_of_row w g i _ _ _ h, List.getElem?_toArray]
theorem RowP.kind {w : World} {g k : Nat} {p x s : T} {K : Ks} (h : RowP w g k p x K s) : w.cell? ⟨g, 0, none⟩ = some (.int .i64 k) := h.cell 0
theorem RowP.path {w : World} {g k : Nat} {p x s : T} {K : Ks} (h : RowP w g k p x K s) : w.cell? ⟨g, 1, none⟩ = some (.string ⟨p.toArray⟩) := h.cell 1
theorem RowP.val {w : World} {g k : Nat} {p x s : T} {K : Ks} (h : RowP w g k p x K s) : w.cell? ⟨g, 2, none⟩ = some (.string ⟨x.toArray⟩) := h.cell 2
theorem RowP.kid {w : World} {g k : Nat} {p x s : T} {K : Ks} (h : RowP w g k p x K s) (i : Fin 16) : w.cell? ⟨g, 3 + i.val, none⟩ = some (K i) := by
  have hi := i.isLt
  rw [h.cell (3 + i.val), Nat.add_comm 3 i.val]
  show (List.ofFn K ++ [.string ⟨s.toArray⟩])[i.val]? = _
  rw [List.getElem?_append_left (by simp), List.getElem?_ofFn, dif_pos hi]
theorem RowP.sum {w : World} {g k : Nat} {p x s : T} {K : Ks} (h : RowP w g k p x K s) : w.cell? ⟨g, 19, none⟩ = some (.string ⟨s.toArray⟩) := by
  rw [h.cell 19]
  show (List.ofFn K ++ [.string ⟨s.toArray⟩])[16]? = _
  rw [List.getElem?_append_right (by simp)]
  simp
end Go.Proofs.YtjfefphgikncnaaDoor
namespace Go.Proofs.YtjfefphgikncnaaDoor
open Go.RowKit
open Sto (T)
open Tri (Tr Ok upd ix hb lay splitT)

def noK : Ks := fun _ => nilp
theorem RowP.new {w : World} {k : Nat} {p x s : T} {K : Ks} {C : Array Value} (h : C = (pcl k p x K s).toArray) : RowP (w.alloc (.cells C 57)) w.heap.size k p x K s := by
  subst h; exact heap_new_at w _ _ rfl
/-- A new part, as it may stand in a tree. -/
theorem PAt.new {w' : World} {F : Fm} {g : Nat} {t : Tr} {K : Ks} (hn : ¬ t.isNil) (hB : F false g) (hr : RowP w' g t.kind t.pth t.vl K []) (hk : ∀ i, PAt w' F false (t.kid i) (K i)) : PAt w' F false t (ptr g) :=
  (PAt.iff hn).2 ⟨g, false, K, rfl, (fun h => by cases h), hB, hr, hk⟩
/-- Any new block may be of a tree. -/
def Fm.fresh (F : Fm) (w : World) : Prop := ∀ g, w.heap.size ≤ g → F false g
theorem Fm.fresh.size {F : Fm} {w w' : World} (h : F.fresh w) (hs : w.heap.size ≤ w'.heap.size) : F.fresh w' := fun g hg => h g (Nat.le_trans hs hg)
theorem Fm.fresh.off {F : Fm} {w : World} (h : F.fresh w) {q : Nat} (hq : q < w.heap.size) : (F.off q).fresh w := fun g hg => ⟨h g hg, by omega⟩
/-- What a call answers: a tree, its new parts without sums. -/
def MadeT (w : World) (F : Fm) (t : Tr) (e : Ending) (w' : World) : Prop := ∃ v, e = .returned v ∧ PAt w' F false t v ∧ Below w.heap.size w w'

set_option maxRecDepth 100000 in
theorem leaf_any (p x : T) (w : World) (F : Fm) (hB : F.fresh w) :
    Calls Tryd.prog 45 #[.string ⟨p.toArray⟩, .string ⟨x.toArray⟩] w (MadeT w F (.leaf p x)) := by
  unfold MadeT
  go_enter Tryd.func45, Tryd.ntmps45
  go_wp2
  go_ret
  refine ⟨_, rfl, PAt.new (K := noK) id (hB _ (Nat.le_refl _)) (RowP.new rfl) (fun i => rfl), (Below.refl _ w).alloc (Nat.le_refl _) _⟩

set_option maxRecDepth 100000 in
theorem half_any (i : Fin 16) (w : World) :
    Calls Tryd.prog 65 #[.int .i64 i.val] w fun e w' => e = .returned (.string ⟨[hb i].toArray⟩) ∧ Below w.heap.size w w' := by
  have hi := i.isLt
  have e1 : (i.val : Int) % 256 = (i.val : Int) := by omega
  have hc := conv_one' w (hb i) (i.val : Int) (by rw [Tri.hb_toNat]) w.heap.size rfl
  have h0 : (0 : Int) ≤ (i.val : Int) := by omega
  have h1 : (i.val : Int) ≤ 255 := by omega
  go_enter Tryd.func65, Tryd.ntmps65
  go_wp2
  go_ret
  exact ⟨rfl, (Below.refl _ w).alloc (Nat.le_refl _) _⟩
/-- The place of a kid. -/
def placeT (k : Nat) (e : T) (i : Fin 16) : T := if k = 3 then e ++ [hb i] else e
set_option maxRecDepth 100000 in
theorem place_any (k : Nat) (e : T) (i : Fin 16) (w : World) (he : e.length ≤ 1000) (hk : k ≤ 3) :
    Calls Tryd.prog 51 #[.int .i64 k, .string ⟨e.toArray⟩, .int .i64 i.val] w fun r w' => r = .returned (.string ⟨(placeT k e i).toArray⟩) ∧ Below w.heap.size w w' := by
  unfold placeT
  by_cases h : k = 3
  · subst h
    rw [if_pos rfl]
    have HH := Lib.hid (fun w => half_any i w)
    have hcm := cat_mk e [hb i]
    go_enter Tryd.func51, Tryd.ntmps51
    go_wp2_with fail
    refine (HH.out _).mono ?_
    rintro r w1 ⟨rfl, hb1⟩
    go_wp2
    go_ret
    exact ⟨rfl, hb1⟩
  · rw [if_neg h]
    have h1 : ¬ ((k : Int) = 3) := by omega
    have h2 : ((k : Int) == 3) = false := by rw [beq_eq_false_iff_ne]; exact h1
    go_enter Tryd.func51, Tryd.ntmps51
    go_wp2
    go_ret
    exact ⟨rfl, Below.refl _ _⟩
theorem pcl_load (k : Nat) (p x s : T) (K : Ks) : (Tryd.prog.info? 57).map (·.size) = some (pcl k p x K s).toArray.size := by
  rw [List.size_toArray, pcl_length]; kernel_rfl
theorem pcl_one (k : Nat) (p x s : T) (K : Ks) (hK : ∀ i, (K i).oneCell' = true) : (pcl k p x K s).toArray.all (·.oneCell') = true := by
  rw [← Array.all_toList, List.all_eq_true]
  intro v hv
  simp only [pcl, List.mem_cons, List.mem_append, List.mem_ofFn, List.not_mem_nil, or_false] at hv
  rcases hv with rfl | rfl | rfl | ⟨i, rfl⟩ | rfl
  · rfl
  · rfl
  · rfl
  · exact hK i
  · rfl
set_option maxRecDepth 100000 in
set_option maxHeartbeats 1000000 in
theorem open_any {g k : Nat} {p x s : T} {K : Ks} (w : World) (h : RowP w g k p x K s) (hK : ∀ i, (K i).oneCell' = true) :
    Calls Tryd.prog 46 #[ptr g] w fun r w' => r = .returned (ptr w.heap.size) ∧ RowP w' w.heap.size k p x K [] ∧ Below w.heap.size w w' := by
  have hi := pcl_load k p x s K
  have ho := pcl_one k p x s K hK
  have hset := pcl_set k p x K s []
  have hl : (pcl k p x K s).toArray.size = 20 := by rw [List.size_toArray, pcl_length]
  have hc : (pcl k p x K s).toArray[19]? = some (.string ⟨s.toArray⟩) := by
    have h1 : RowP w g k p x K s := h
    have h2 := h1.sum
    rw [cell_of_row w g 19 _ _ _ h] at h2
    exact h2
  unfold RowP at h ⊢
  unfold ptr
  generalize (pcl k p x K []).toArray = D at hset ⊢
  generalize (pcl k p x K s).toArray = C at h hi ho hset hl hc
  have hat : (w.alloc (.cells C 57)).heap[w.heap.size]? = some (.cells C 57 (0, 0)) := heap_alloc_new w _
  have hcell : (w.alloc (.cells C 57)).cell? ⟨w.heap.size, 19, none⟩ = some (.string ⟨s.toArray⟩) := by rw [cell_of_row _ _ 19 _ _ _ hat]; exact hc
  have hfr : (w.alloc (.cells C 57)).frozen? ⟨w.heap.size, 19, none⟩ = false := frozen_of_row _ _ _ _ _ hat
  have HR := Lib.hid h
  have HI := Lib.hid hi
  have HO := Lib.hid ho
  have HL := Lib.hid hl
  have HS := Lib.hid hset
  clear h hi ho hset hl hc hat
  go_enter Tryd.func46, Tryd.ntmps46
  go_wp2_with (first | (refine wpList_load_row (by rfl) _ _ (by rfl) g (by rfl) _ C _ _ HR.out Tryd.underlying57 (by rfl) HI.out ?_) | (refine wpList_store_fresh (by rfl) _ _ _ (by rfl) w.heap.size rfl C (by rfl) (by rfl) _ _ HI.out HL.out.symm HO.out ?_))
  go_ret
  exact ⟨rfl, by rw [HS.out]; exact heap_alloc_new w _, (Below.refl _ w).alloc (Nat.le_refl _) _⟩
theorem PAt.cellK {w : World} {F : Fm} {s : Bool} {t : Tr} {v : Value} (h : PAt w F s t v) : v = nilp ∨ ∃ g, v = ptr g := by
  by_cases hn : t.isNil
  · rw [Tri.isNil_eq hn] at h; exact Or.inl h
  · obtain ⟨g, _, _, e, _⟩ := h.row hn; exact Or.inr ⟨g, e⟩
theorem PAt.oneCell {w : World} {F : Fm} {s : Bool} {t : Tr} {v : Value} (h : PAt w F s t v) : v.oneCell' = true := by
  rcases h.cellK with rfl | ⟨g, rfl⟩ <;> rfl
def oneK (a : Value) : Ks := fun i => if i = 0 then a else nilp
theorem pcl_path (k : Nat) (p p' x : T) (K : Ks) (s : T) : (pcl k p x K s).toArray.setIfInBounds 1 (.string ⟨p'.toArray⟩) = (pcl k p' x K s).toArray := by
  rw [List.setIfInBounds_toArray]; rfl
theorem RowP.setPath {w : World} {g k : Nat} {p x s : T} {K : Ks} (h : RowP w g k p x K s) (p' : T) : RowP (w.setCell ⟨g, 1, none⟩ (.string ⟨p'.toArray⟩)) g k p' x K s := by
  have := heap_setCell_same _ _ 1 _ _ (.string ⟨p'.toArray⟩) h
  rw [pcl_path] at this
  exact this
theorem RowP.free {w : World} {g k : Nat} {p x s : T} {K : Ks} (h : RowP w g k p x K s) (i : Nat) : w.frozen? ⟨g, i, none⟩ = false := frozen_of_row _ _ _ _ _ h
theorem lay_parts (p : T) {t : Tr} (hn : ¬ t.isNil) (h3 : t.kind ≠ 3) : (lay p t).kind = t.kind ∧ (lay p t).pth = p ++ t.pth ∧ (lay p t).vl = t.vl ∧ ∀ i, (lay p t).kid i = t.kid i := by
  cases t with
  | nil => exact absurd trivial hn
  | leaf q x => exact ⟨rfl, rfl, rfl, fun _ => rfl⟩
  | ext q u => exact ⟨rfl, rfl, rfl, fun _ => rfl⟩
  | br x k => exact absurd rfl h3
set_option maxRecDepth 100000 in
set_option maxHeartbeats 1000000 in
/-- A path laid above a tree. -/
theorem behind_any {t : Tr} {v : Value} (p : T) (w : World) (F : Fm) (hB : F.fresh w) (h : PAt w F false t v) (hp : p = [] ∨ ¬ t.isNil) (hpl : p.length ≤ 1000) (hql : t.pth.length ≤ 1000) :
    Calls Tryd.prog 49 #[v, .string ⟨p.toArray⟩] w (MadeT w F (lay p t)) := by
  unfold MadeT
  by_cases hp0 : p = []
  · subst hp0
    rw [Tri.lay_nil]
    have HP := Lib.hid h
    clear h hp
    go_enter Tryd.func49, Tryd.ntmps49
    go_wp2
    go_ret
    exact ⟨v, rfl, HP.out, Below.refl _ _⟩
  · have hn := hp.resolve_left hp0
    obtain ⟨g, s', K, rfl, -, h2, hr, hk⟩ := h.row hn
    have hpe : (p == []) = false := by rw [beq_eq_false_iff_ne]; exact hp0
    have HP := Lib.hid h
    have n0 := hr.kind
    by_cases h3 : t.kind = 3
    · have e3 : ((t.kind : Int) == 3) = true := by rw [h3]; rfl
      rw [h3] at n0
      have HL : Hid (lay p t = .ext p t) := Lib.hid (by
        cases t with
        | br x k => simp [lay, Tri.above, hp0]
        | _ => cases h3)
      unfold ptr
      clear h hp hr hk
      go_enter Tryd.func49, Tryd.ntmps49
      go_wp2
      go_ret
      rw [HL.out]
      refine ⟨_, rfl, ?_, (Below.refl _ w).alloc (Nat.le_refl _) _⟩
      refine PAt.new (K := oneK (ptr g)) id (hB _ (Nat.le_refl _)) (RowP.new rfl) fun i => ?_
      simp only [Tri.Tr.kid, oneK]
      split
      · exact HP.out.below ((Below.refl _ w).alloc (Nat.le_refl _) _)
      · rfl
    · have e3 : ((t.kind : Int) == 3) = false := by rw [beq_eq_false_iff_ne]; omega
      have HO := Lib.hid (open_any w hr (fun i => (hk i).oneCell))
      have n1 := hr.path
      have HL := Lib.hid (lay_parts p hn h3)
      have HKK := Lib.hid hk
      have HN := Lib.hid (Tri.lay_nn (p := p) hn)
      have HR := Lib.hid hr
      unfold ptr at HO ⊢
      obtain ⟨q, hq⟩ : ∃ q, t.pth = q := ⟨_, rfl⟩
      rw [hq] at n1 hql
      have HQ := Lib.hid hq
      have hcm := cat_mk p q
      obtain ⟨kd, hkd⟩ : ∃ kd, t.kind = kd := ⟨_, rfl⟩
      rw [hkd] at n0 e3
      have HKD := Lib.hid hkd
      clear h hp hr hk hq h2 hkd h3
      go_enter Tryd.func49, Tryd.ntmps49
      go_wp2_with fail
      refine HO.out.mono ?_
      rintro r w1 ⟨rfl, hr1, hb1⟩
      have m1 := hr1.path
      have m2 := hr1.free 1
      have m3 := HR.out.below hb1
      have m4 := m3.path
      rw [HQ.out] at m1 m4
      go_wp2
      go_ret
      obtain ⟨l1, l2, l3, l4⟩ := HL.out
      have hb2 := hb1.setCell (p := ⟨w.heap.size, 1, none⟩) (Nat.le_refl _) (.string ⟨(p ++ q).toArray⟩)
      refine ⟨_, rfl, PAt.new (K := K) HN.out (hB _ (Nat.le_refl _)) ?_ (fun i => ?_), hb2⟩
      · rw [l1, l2, l3, HQ.out]
        exact hr1.setPath _
      · rw [l4]
        exact ((HKK.out i).weak).below hb2
end Go.Proofs.YtjfefphgikncnaaDoor
namespace Go.Proofs.YtjfefphgikncnaaDoor.Sto
def On (m : List Bool) (j : Nat) : Prop := m[j]? = some true
instance (m : List Bool) (j : Nat) : Decidable (On m j) := inferInstanceAs (Decidable (m[j]? = some true))
def mark (m : List Bool) (ks : List Nat) : List Bool := ks.foldl (fun m k => m.set k true) m
def pass1 (K : Nat → List Nat) (m : List Bool) (i : Nat) : List Bool := if On m i then mark m (K i) else m
def pass (K : Nat → List Nat) (l : List Nat) (m : List Bool) : List Bool := l.foldl (pass1 K) m
def rounds (K : Nat → List Nat) (l : List Nat) : Nat → List Bool → List Bool
  | 0, m => m
  | t + 1, m => rounds K l t (pass K l m)
theorem On.lt {m : List Bool} {j : Nat} (h : On m j) : j < m.length := by
  unfold On at h
  exact (List.getElem?_eq_some_iff.1 h).1
def Le (m m' : List Bool) : Prop := m.length = m'.length ∧ ∀ j, On m j → On m' j
theorem Le.refl (m : List Bool) : Le m m := ⟨rfl, fun _ h => h⟩
theorem Le.trans {a b c : List Bool} (h : Le a b) (g : Le b c) : Le a c := ⟨h.1.trans g.1, fun j x => g.2 j (h.2 j x)⟩
end Go.Proofs.YtjfefphgikncnaaDoor.Sto
namespace Go.Proofs.YtjfefphgikncnaaDoor.Sto
/-! ### what is reached -/
/-- The sums that a text names, if it is a node. -/
def kidsT (t : T) : List T := Nd.kidsL (Nd.dec t).1.kids
inductive Reach (S : St) (l : List T) : T → Prop
  | here {x} : x ∈ l → x ∈ keys S → Reach S l x
  | step {x t k} : Reach S l x → look S x = some t → k ∈ kidsT t → k ∈ keys S → Reach S l k
theorem Reach.key {S : St} {l : List T} {x : T} (h : Reach S l x) : x ∈ keys S := by
  cases h <;> assumption
def pick (S : St) (m : List Bool) : List T := ((S.zip m).filter (·.2)).map (·.1.1)
/-- What has been reached so far (V), what is still to be looked at (O). -/
structure Work (S : St) (l V O : List T) : Prop where
  nd : V.Nodup
  sub : ∀ x ∈ V, Reach S l x
  opn : ∀ x ∈ O, x ∈ keys S → Reach S l x
  start : ∀ x ∈ l, x ∈ keys S → x ∈ V ∨ x ∈ O
  kids : ∀ x ∈ V, ∀ t, look S x = some t → ∀ k ∈ kidsT t, k ∈ keys S → k ∈ V ∨ k ∈ O
theorem Work.begin (S : St) (l : List T) : Work S l [] l :=
  ⟨List.nodup_nil, fun x h => (by cases h), fun x h hk => .here h hk, fun x h _ => Or.inr h, fun x h => (by cases h)⟩
theorem Work.take {S : St} {l V O : List T} {x t : T} (h : Work S l V (O ++ [x])) (hx : x ∉ V) (ht : look S x = some t) : Work S l (V ++ [x]) (O ++ kidsT t) := by
  have hkx : x ∈ keys S := (look_isSome S x).1 (by rw [ht]; rfl)
  have hr : Reach S l x := h.opn x (by simp) hkx
  refine ⟨?_, ?_, ?_, ?_, ?_⟩
  · rw [List.nodup_append]
    exact ⟨h.nd, by simp, fun a ha b hb e => hx (by obtain rfl : b = x := (by simpa using hb); rw [← e]; exact ha)⟩
  · intro y hy
    rcases List.mem_append.1 hy with hy | hy
    · exact h.sub y hy
    · obtain rfl : y = x := by simpa using hy
      exact hr
  · intro y hy hk
    rcases List.mem_append.1 hy with hy | hy
    · exact h.opn y (List.mem_append_left _ hy) hk
    · exact .step hr ht hy hk
  · intro y hy hk
    rcases h.start y hy hk with h1 | h1
    · exact Or.inl (List.mem_append_left _ h1)
    · rcases List.mem_append.1 h1 with h1 | h1
      · exact Or.inr (List.mem_append_left _ h1)
      · exact Or.inl (List.mem_append_right _ h1)
  · intro y hy u hu k hk hkk
    rcases List.mem_append.1 hy with hy | hy
    · rcases h.kids y hy u hu k hk hkk with h1 | h1
      · exact Or.inl (List.mem_append_left _ h1)
      · rcases List.mem_append.1 h1 with h1 | h1
        · exact Or.inr (List.mem_append_left _ h1)
        · exact Or.inl (List.mem_append_right _ h1)
    · obtain rfl : y = x := by simpa using hy
      rw [ht] at hu
      obtain rfl := Option.some.inj hu
      exact Or.inr (List.mem_append_right _ hk)
theorem Work.done {S : St} {l V : List T} (h : Work S l V []) (x : T) : x ∈ V ↔ Reach S l x := by
  constructor
  · exact h.sub x
  · intro hr
    induction hr with
    | here h1 h2 => exact (h.start _ h1 h2).resolve_right (by simp)
    | step h1 h2 h3 h4 ih => exact (h.kids _ ih _ h2 _ h3 h4).resolve_right (by simp)
theorem le_of_sub {α : Type} [BEq α] [LawfulBEq α] : ∀ {l M : List α}, l.Nodup → (∀ x ∈ l, x ∈ M) → l.length ≤ M.length
  | [], _, _, _ => Nat.zero_le _
  | a :: r, M, hn, hs => by
    obtain ⟨h1, h2⟩ := List.nodup_cons.1 hn
    have ha := hs a (List.mem_cons_self ..)
    have := le_of_sub (M := M.erase a) h2 fun x hx => (List.mem_erase_of_ne (fun e => h1 (by rw [← e]; exact hx))).2 (hs x (List.mem_cons_of_mem _ hx))
    rw [List.length_erase_of_mem ha] at this
    have hpos : 0 < M.length := List.length_pos_of_mem ha
    simp only [List.length_cons]
    omega
theorem Work.len {S : St} {l V O : List T} (h : Work S l V O) : V.length ≤ S.length := by
  have := le_of_sub (M := keys S) h.nd fun x hx => (h.sub x hx).key
  simpa [keys] using this
end Go.Proofs.YtjfefphgikncnaaDoor.Sto
