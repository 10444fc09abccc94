/- sha.First, sha.New; a hash as cells; sha.tail: what fills a text up to whole blocks; sha.join: the words' bytes; (*sha.Hash).Sum and sha.Sum. -/
import Derived.Test.YtbjfihbjfoaghaaDoorShaHash
import Derived.Test.YtbjfihbjfoaghaaDoorShaBase
import Derived.Test.YtbjfihbjfoaghaaDoorShaWrite
namespace Go.Proofs.YtbjfihbjfoaghaaDoor
open Go.RowKit

set_option maxRecDepth 8000 in
set_option maxHeartbeats 1000000 in
theorem first_any (w : World) :
    Calls Tryd.prog 73 #[] w fun e w' => e = .returned (.agg (u32s Sha.first.list)) ∧ Below w.heap.size w w' := by
  go_enter Tryd.func73, Tryd.ntmps73
  go_wp2
  refine bodyPost_ret (v := .agg (u32s Sha.first.list)) (results_cell_row rfl _ _ w.heap.size _ _ (0, 0) _ rfl (heap_new_at _ _ _ rfl) Tryd.underlying91 rfl (by kernel_rfl)) rfl ⟨rfl, (Below.refl _ w).alloc (Nat.le_refl _) _⟩

theorem built_hash : Tryd.prog.built 95 [(0, .agg (u32s Sha.first.list))] = some ((hashL Sha.first (List.replicate 64 0) 0).toArray) := by kernel_rfl

theorem wpList_build_to {P : Program} {ops : Array Oper} {rest : List Oper} {o : Oper} {a : Act} {w : World} {Q : Exit → Act → World → Prop} (hg : o.guard = none) (t : TypeId) (parts : Array (Nat × Operand)) (ho : o.op = .build t parts)
    (L : List (Nat × Value)) (hL : (parts.map fun (i, x) => (i, a.eval x)).toList = L) (C : Array Value) (hC : P.built t L = some C)
    (h : wpList P ops Q rest (a.put o.dst (.agg C)) w) : wpList P ops Q (o :: rest) a w :=
  wpList_build hg t parts ho (by rw [hL, hC]; rfl) (by rw [hL, hC]; exact h)

end Go.Proofs.YtbjfihbjfoaghaaDoor
namespace Go.Proofs.YtbjfihbjfoaghaaDoor
open Go.RowKit

theorem Tryd.zero72 : (Tryd.prog.info? 118).map (fun i => (i.zero, i.size)) = some (some (.agg (u8s (List.replicate 72 0))), 72) := by kernel_rfl

set_option maxRecDepth 8000 in
set_option maxHeartbeats 1000000 in
theorem tail_any (n : Nat) (w : World) (hn : n ≤ 1152921504606846975) :
    Calls Tryd.prog 86 #[.int .u64 n] w fun e w' => e = .returned (.string ⟨(Sha.tailP n).toArray⟩) ∧ Below w.heap.size w w' := by
  obtain ⟨m, hm⟩ : ∃ m : Nat, (n : Int) % 64 = (m : Int) := ⟨n % 64, by omega⟩
  have hm64 : m < 64 := by omega
  obtain ⟨q, hq⟩ : ∃ q : Nat, (119 - (m : Int)) % 64 = (q : Int) := ⟨(119 - m) % 64, by omega⟩
  have hq64 : q < 64 := by omega
  have HP : Hid (Sha.padN n = 1 + q) := Lib.hid (by unfold Sha.padN; omega)
  have hz := (zero_of_info Tryd.zero72).1
  obtain ⟨Z, hZ⟩ : ∃ Z, u8s (List.replicate 72 0) = Z := ⟨_, rfl⟩
  rw [hZ] at hz
  have c0 : Z[0]? = some (.int .u8 0) := by rw [← hZ]; rfl
  have HZ := Lib.hid hZ
  clear hZ
  go_enter Tryd.func86, Tryd.ntmps86
  go_wp2
  go_loopw [14] (fun i wr => ∃ k : Nat, k ≤ 8 ∧ i = .int .u64 k ∧ Below w.heap.size w wr ∧ wr.heap[w.heap.size]? = some (.cells (u8s (Sha.tailFill n k)) 118 (0, 0))) (fun i _ => 8 - (intOf i).toNat)
  case atStart =>
    refine ⟨0, by omega, rfl, (Below.refl _ w).alloc (Nat.le_refl _) _, ?_⟩
    rw [← HZ.out]
    exact heap_new_at _ _ _ rfl
  case round =>
    obtain ⟨k, hk, rfl, hb, hg⟩ := hrel
    obtain ⟨F, hF⟩ : ∃ F, Sha.tailFill n k = F := ⟨_, rfl⟩
    have hFl : F.length = 72 := by rw [← hF, Sha.tailFill_length]
    rw [hF] at hg
    have HB := Lib.hid hb
    have HG := Lib.hid hg
    have HF := Lib.hid hF
    by_cases hlt : k < 8
    · have hc : wr.cell? ⟨w.heap.size, 1 + q + k, none⟩ = some (.int .u8 ((F.getD (1 + q + k) 0).toNat : Int)) := (cell_of_row wr _ _ _ _ _ hg).trans (u8s_at F _ (by omega))
      obtain ⟨old, ho⟩ : ∃ z, ((F.getD (1 + q + k) 0).toNat : Int) = z := ⟨_, rfl⟩
      rw [ho] at hc
      have hf := frozen_of_row wr _ (1 + q + k) _ _ hg
      have hn1 : Sha.tailFill n (k + 1) = F.set (1 + q + k) (Sha.byteOf ((n : Int) * 8 / 2 ^ (8 * (7 - k)))) := by rw [← hF, ← HP.out]; rfl
      have HN := Lib.hid hn1
      have e0 : (1 + (q : Int) + (k : Int)).toNat = 1 + q + k := by omega
      have e1 : (8 * (7 - (k : Int))).toNat = 8 * (7 - k) := by omega
      have hk8 : (k : Int) < 8 := by omega
      clear hb hg hF hFl ho hn1
      go_wp2
      go_roundw
      case rel =>
        refine ⟨k + 1, by omega, by go_num, HB.out.setCell (Nat.le_refl _) _, ?_⟩
        rw [HN.out, ← u8s_set, Sha.byteOf_toNat]
        exact heap_setCell_same _ _ _ _ _ _ HG.out
      case measure => simp [intOf]; omega
    · obtain rfl : k = 8 := by omega
      have hno : ¬ ((8 : Nat) : Int) < 8 := by omega
      have hTl : (F.take (1 + q + 8)).length = 1 + q + 8 := by rw [List.length_take, hFl]; omega
      obtain ⟨G, hG⟩ : ∃ G, F.take (1 + q + 8) = G := ⟨_, rfl⟩
      have kc : (convert 64 9 (.slice (some ⟨w.heap.size, 0, none⟩) (1 + q + 8) 72)).run Tryd.prog wr = .ok (.string ⟨G.toArray⟩) wr := by
        have := run_convert_bytes_back (P := Tryd.prog) wr 64 9 5 ⟨w.heap.size, 0, none⟩ 72 (F.take (1 + q + 8)) Tryd.underlying64 Tryd.underlying5 Tryd.underlying9 (by
          intro j hj
          rw [hTl] at hj
          rw [Addr.add_mid, Nat.zero_add, cell_of_row wr _ j _ _ _ hg, u8s_at F j (by omega)]
          simp [List.getElem_take, show j < F.length by omega])
        rwa [hTl, hG] at this
      have HR : Hid (G = Sha.tailP n) := Lib.hid (by rw [← hG, ← HF.out]; unfold Sha.tailP; rw [HP.out])
      have e2 : (1 + (q : Int) + 8).toNat = 1 + q + 8 := by omega
      have e3 : (0 : Int) ≤ 1 + (q : Int) + 8 := by omega
      have e4 : 1 + (q : Int) + 8 ≤ 72 := by omega
      clear hlt hk hg hb hF hFl hTl hG
      go_wp2
      go_ret
      exact ⟨by rw [HR.out]; rfl, HB.out⟩
end Go.Proofs.YtbjfihbjfoaghaaDoor
namespace Go.Proofs.YtbjfihbjfoaghaaDoor
open Go.RowKit

set_option maxRecDepth 8000 in
set_option maxHeartbeats 1000000 in
theorem join_any (s : Sha.St) (w : World) :
    Calls Tryd.prog 87 #[.agg (u32s s.list)] w fun e w' => e = .returned (.string ⟨(Sha.joinP s).toArray⟩) ∧ Below w.heap.size w w' := by
  obtain ⟨L, hL⟩ : ∃ L, s.list = L := ⟨_, rfl⟩
  have hLl : L.length = 8 := by rw [← hL]; rfl
  have hj : Sha.joinFill L 8 = Sha.joinP s := by rw [← hL]; rfl
  rw [hL]
  have HJ := Lib.hid hj
  have HLL := Lib.hid hLl
  have hix : ∀ (k : Nat), k < 8 → ∀ w, (Instr.index 91 (.agg (u32s L)) (.int .i64 k)).run Tryd.prog w = .ok (.int .u32 (L.getD k 0)) w := by
    intro k hk w
    have hu := Tryd.underlying91
    have hk0 : (0 : Int) ≤ (k : Int) := by omega
    have hk8 : (k : Int) < 8 := by omega
    have hat : (u32s L)[k]? = some (.int .u32 (L.getD k 0)) := u32s_at L k (by omega)
    unfold Instr.index
    go_simp
  have HIX := Lib.hid hix
  have hsz : (u32s L).size = 8 := by rw [u32s_size, hLl]
  have hi : (Tryd.prog.info? 91).map (·.size) = some (u32s L).size := by rw [hsz]; kernel_rfl
  have HI := Lib.hid hi
  obtain ⟨A, hA⟩ : ∃ A, u32s L = A := ⟨_, rfl⟩
  rw [hA] at HI HIX ⊢
  clear hA hsz hi hix hj hLl hL
  go_enter Tryd.func87, Tryd.ntmps87
  go_wp2_with (refine wpList_load_row (by rfl) _ _ (by rfl) w.heap.size (by rfl) _ A (0, 0) _ (heap_old_at _ (heap_new_at _ _ _ rfl)) Tryd.underlying91 (by rfl) HI.out ?_)
  go_loopw [7] (fun i wr => ∃ k : Nat, k ≤ 8 ∧ i = .int .i64 k ∧ Below w.heap.size w wr ∧ wr.heap[w.heap.size + 1]? = some (.cells (u8s (Sha.joinFill L k)) 119 (0, 0))) (fun i _ => 8 - (intOf i).toNat)
  case atStart => exact ⟨0, by omega, rfl, ((Below.refl _ w).alloc (Nat.le_refl _) _).alloc (by simp) _, heap_new_at _ _ _ (by simp)⟩
  case round =>
    obtain ⟨k, hk, rfl, hb, hg⟩ := hrel
    obtain ⟨F, hF⟩ : ∃ F, Sha.joinFill L k = F := ⟨_, rfl⟩
    have hFl : F.length = 32 := by rw [← hF, Sha.joinFill_length]
    rw [hF] at hg
    have HB := Lib.hid hb
    have HG := Lib.hid hg
    have HF := Lib.hid hF
    by_cases hlt : k < 8
    · have hx := HIX.out k hlt
      have hn : Sha.joinFill L (k + 1) = (((F.set (4 * k) (Sha.byteOf (L.getD k 0 / 16777216))).set (4 * k + 1) (Sha.byteOf (L.getD k 0 / 65536))).set (4 * k + 2) (Sha.byteOf (L.getD k 0 / 256))).set (4 * k + 3) (Sha.byteOf (L.getD k 0)) := by rw [← hF]; rfl
      obtain ⟨x, hxx⟩ : ∃ x, L.getD k 0 = x := ⟨_, rfl⟩
      rw [hxx] at hx hn
      have HN := Lib.hid hn
      have hcell : ∀ j, j < 32 → ∃ z, wr.cell? ⟨w.heap.size + 1, j, none⟩ = some (.int .u8 z) := fun j hj => ⟨_, (cell_of_row wr _ j _ _ _ hg).trans (u8s_at _ j (by omega))⟩
      have hfz : ∀ j, wr.frozen? ⟨w.heap.size + 1, j, none⟩ = false := fun j => frozen_of_row wr _ j _ _ hg
      obtain ⟨z0, c0⟩ := hcell (4 * k) (by omega)
      obtain ⟨z1, c1⟩ := hcell (4 * k + 1) (by omega)
      obtain ⟨z2, c2⟩ := hcell (4 * k + 2) (by omega)
      obtain ⟨z3, c3⟩ := hcell (4 * k + 3) (by omega)
      have f0 := hfz (4 * k)
      have f1 := hfz (4 * k + 1)
      have f2 := hfz (4 * k + 2)
      have f3 := hfz (4 * k + 3)
      have e0 : (4 * (k : Int)).toNat = 4 * k := by omega
      have e1 : (4 * (k : Int) + 1).toNat = 4 * k + 1 := by omega
      have e2 : (4 * (k : Int) + 2).toNat = 4 * k + 2 := by omega
      have e3 : (4 * (k : Int) + 3).toNat = 4 * k + 3 := by omega
      have hk8 : (k : Int) < 8 := by omega
      clear hb hg hF hFl hxx hn hcell hfz
      go_wp2
      go_roundw
      case rel =>
        have hle : w.heap.size ≤ w.heap.size + 1 := Nat.le_succ _
        refine ⟨k + 1, by omega, by go_num, (((HB.out.setCell hle _).setCell hle _).setCell hle _).setCell hle _, ?_⟩
        rw [HN.out, ← u8s_set, ← u8s_set, ← u8s_set, ← u8s_set, Sha.byteOf_toNat, Sha.byteOf_toNat, Sha.byteOf_toNat, Sha.byteOf_toNat]
        exact heap_setCell_same _ _ _ _ _ _ (heap_setCell_same _ _ _ _ _ _ (heap_setCell_same _ _ _ _ _ _ (heap_setCell_same _ _ _ _ _ _ HG.out)))
      case measure => simp [intOf]; omega
    · obtain rfl : k = 8 := by omega
      have hno : ¬ ((8 : Nat) : Int) < 8 := by omega
      have kc : (convert 64 9 (.slice (some ⟨w.heap.size + 1, 0, none⟩) 32 32)).run Tryd.prog wr = .ok (.string ⟨F.toArray⟩) wr := by
        have := run_convert_bytes_back (P := Tryd.prog) wr 64 9 5 ⟨w.heap.size + 1, 0, none⟩ 32 F Tryd.underlying64 Tryd.underlying5 Tryd.underlying9 (by
          intro j hj
          rw [Addr.add_mid, Nat.zero_add, cell_of_row wr _ j _ _ _ hg, u8s_at F j hj]
          simp [hj])
        rwa [hFl] at this
      have HR : Hid (F = Sha.joinP s) := Lib.hid (by rw [← HF.out, HJ.out])
      clear hlt hk hg hb hF hFl
      go_wp2
      go_ret
      exact ⟨by rw [HR.out]; rfl, HB.out⟩
end Go.Proofs.YtbjfihbjfoaghaaDoor
namespace Go.Proofs.YtbjfihbjfoaghaaDoor
open Go.RowKit

theorem HashIs.start {w : World} {g : Nat} (h : w.heap[g]? = some (.cells (hashL Sha.first (List.replicate 64 0) 0).toArray 95 (0, 0))) : HashIs w g [] :=
  ⟨List.replicate 64 0, by simp, rfl, h⟩
theorem Tryd.zero73 : (Tryd.prog.info? 95).map (fun i => (i.zero, i.size)) = some (some (.agg (hashL ⟨0, 0, 0, 0, 0, 0, 0, 0⟩ (List.replicate 64 0) 0).toArray), 73) := by kernel_rfl
theorem hash_one (s : Sha.St) (o : List UInt8) (n : Nat) : (hashL s o n).toArray.all (·.oneCell') = true := by
  refine all_oneCell_toArray ?_
  intro v hv
  simp only [hashL, words8, cellsL, List.mem_append, List.mem_map, List.mem_cons, List.not_mem_nil, or_false] at hv
  rcases hv with (rfl | rfl | rfl | rfl | rfl | rfl | rfl | rfl) | ⟨x, _, rfl⟩ | rfl <;> rfl

/-- A whole value into the block that was made last. -/
theorem wpList_store_new {P : Program} {ops : Array Oper} {rest : List Oper} {o : Oper} {a : Act} {w : World} {Q : Exit → Act → World → Prop} (hgd : o.guard = none) (ty : TypeId) (x y : Operand) (ho : o.op = .store ty x y)
    (g : Nat) (hg : g = w.heap.size) (cells : Array Value) (hx : a.eval x = .pointer (some ⟨g, 0, none⟩)) (hy : a.eval y = .agg cells)
    (t : TypeId) (old : Array Value) (hi : (P.info? ty).map (·.size) = some cells.size)
    (hold : old.size = cells.size) (h1 : cells.all (·.oneCell') = true)
    (h : wpList P ops Q rest (a.put o.dst undef) (w.alloc (.cells cells t))) : wpList P ops Q (o :: rest) a (w.alloc (.cells old t)) := by
  subst hg
  exact wpList_store_row hgd ty x y ho w.heap.size cells hx hy t old (heap_alloc_new w _) hi hold h1 (by rw [World.setRow_alloc_new]; exact h)

set_option maxRecDepth 8000 in
set_option maxHeartbeats 1000000 in
theorem hsum_any (t : List UInt8) (g : Nat) (w : World) (hh : HashIs w g t) (hT : Tab w) (hl : t.length ≤ 1152921504606800000) :
    Calls Tryd.prog 75 #[.pointer (some ⟨g, 0, none⟩)] w fun e w' => e = .returned (.string ⟨(Sha.sumP t).toArray⟩) ∧ Below w.heap.size w w' := by
  have hgl := hh.lt
  have hpos := hT.pos
  obtain ⟨o, hol, hoq, hg⟩ := hh
  obtain ⟨c, hc⟩ : ∃ c, t.length = c := ⟨_, rfl⟩
  obtain ⟨C, hC⟩ : ∃ C, (hashL (Sha.wordsP t) o t.length).toArray = C := ⟨_, rfl⟩
  have hz := (zero_of_info Tryd.zero73).1
  obtain ⟨Z, hZ⟩ : ∃ Z, (hashL ⟨0, 0, 0, 0, 0, 0, 0, 0⟩ (List.replicate 64 0) 0).toArray = Z := ⟨_, rfl⟩
  have hZs : Z.size = 73 := by rw [← hZ, List.size_toArray, hashL_length _ _ _ (by simp)]
  have hCs : C.size = 73 := by rw [← hC, List.size_toArray, hashL_length _ _ _ hol]
  have hC1 : C.all (·.oneCell') = true := by rw [← hC]; exact hash_one _ _ _
  have hi : (Tryd.prog.info? 95).map (·.size) = some C.size := by rw [hCs]; exact (zero_of_info Tryd.zero73).2
  have c72 : w.cell? ⟨g, 72, none⟩ = some (.int .u64 (c : Int)) := by rw [← hc]; exact (cell_of_row w g 72 _ _ _ hg).trans (hashL_count _ _ _ hol)
  have hcop : ∀ w' p, w'.heap[p]? = some (.cells C 95 (0, 0)) → HashIs w' p t := fun w' p h => ⟨o, hol, hoq, by rw [hC]; exact h⟩
  rw [hC] at hg
  rw [hZ] at hz
  have HC := Lib.hid hc
  have HG := Lib.hid hg
  have HI := Lib.hid hi
  have HC1 := Lib.hid hC1
  have HZC : Hid (Z.size = C.size) := Lib.hid (by rw [hZs, hCs])
  have HCOP := Lib.hid hcop
  have HT := Lib.hid hT
  clear hc hg hi hC1 hZs hCs hcop hT hC hZ hol hoq
  go_enter Tryd.func75, Tryd.ntmps75
  go_wp2_with (first | (refine wpList_load_row (by rfl) _ _ (by rfl) g (by rfl) _ C _ _ HG.out Tryd.underlying95 (by rfl) HI.out ?_) | (refine wpList_store_new (by rfl) _ _ _ (by rfl) w.heap.size rfl C (by rfl) (by rfl) _ Z HI.out HZC.out HC1.out ?_))
  refine (tail_any c _ (by have := HC.out; omega)).mono ?_
  rintro e w2 ⟨rfl, hb2⟩
  have hB1 : Below w.heap.size w (w.alloc (.cells C 95)) := (Below.refl _ w).alloc (Nat.le_refl _) _
  have hB2 : Below w.heap.size w w2 := hB1.trans (hb2.mono hB1.size)
  have hh2 : HashIs w2 w.heap.size t := (HCOP.out _ _ (heap_new_at w _ _ rfl)).below hb2
  have hT2 : Tab w2 := HT.out.below hB2
  have hlt : (Sha.tailP c).length ≤ 72 := by rw [Sha.tailP_length]; unfold Sha.padN; omega
  have HW := Lib.hid (write_any t (Sha.tailP c) w.heap.size w2 hh2 hT2 hpos (by omega))
  have HB2 := Lib.hid hB2
  clear hb2 hB1 hB2 hh2 hT2 hlt
  go_wp2_with fail
  refine HW.out.mono ?_
  rintro e w3 ⟨rfl, hh3, ho3⟩
  have hB3 : Below w.heap.size w w3 := HB2.out.trans (ho3.below (Nat.le_refl _) HB2.out.size)
  have HR : Hid (Sha.sumP t = Sha.joinP (Sha.wordsP (t ++ Sha.tailP c))) := Lib.hid (by unfold Sha.sumP; rw [HC.out])
  obtain ⟨o3, hol3, _, hg3⟩ := hh3
  obtain ⟨S, hS⟩ : ∃ S, Sha.wordsP (t ++ Sha.tailP c) = S := ⟨_, rfl⟩
  rw [hS] at hg3 HR
  have HJ := Lib.hid (join_any S w3)
  have HB3 := Lib.hid hB3
  obtain ⟨z0, z1, z2, z3, z4, z5, z6, z7, y0, y1, y2, y3, y4, y5, y6, y7⟩ := words_there hg3
  obtain ⟨a, b, c1, d, e, f, g1, h⟩ := S
  simp only [Sha.St.list, u32s, List.map_cons, List.map_nil] at HJ
  dsimp only at z0 z1 z2 z3 z4 z5 z6 z7
  clear hS hg3 hB3 ho3 y0 y1 y2 y3 y4 y5 y6 y7
  go_wp2_with fail
  refine HJ.out.mono ?_
  rintro e w4 ⟨rfl, hb4⟩
  go_wp2
  go_ret
  exact ⟨by rw [HR.out]; rfl, HB3.out.trans (hb4.mono HB3.out.size)⟩
end Go.Proofs.YtbjfihbjfoaghaaDoor
