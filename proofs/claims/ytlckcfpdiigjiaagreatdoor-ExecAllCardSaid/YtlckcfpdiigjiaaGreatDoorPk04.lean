/- ShaSum, ShaWorks, DigSum, PowEnc, PowDec, TxMath, OwnStr, RowList -/
import Derived.Test.YtlckcfpdiigjiaaGreatDoorPk03
import Derived.Test.YtlckcfpdiigjiaaGreatDoorPk02
import Derived.KernelRfl
import Derived.Deep.RegionWith
import Derived.Test.YtlckcfpdiigjiaaGreatDoorPk01
import Derived.Maps.AppendAt
import Derived.WalkSpells
import Derived.WalkLawsBesides
import Derived.Lib.Strings
namespace Go.Proofs.YtlckcfpdiigjiaaGreatDoor
open Go.RowKit

set_option maxRecDepth 8000 in
set_option maxHeartbeats 1000000 in
theorem first_any (w : World) :
    Calls Tryz.prog 108 #[] w fun e w' => e = .returned (.agg (u32s Sha.first.list)) ∧ Below w.heap.size w w' := by
  go_enter Tryz.func108, Tryz.ntmps108
  go_wp2
  refine bodyPost_ret (v := .agg (u32s Sha.first.list)) (results_cell_row rfl _ _ w.heap.size _ _ (0, 0) _ rfl (heap_new_at _ _ _ rfl) Tryz.underlying140 rfl (by kernel_rfl)) rfl ⟨rfl, (Below.refl _ w).alloc (Nat.le_refl _) _⟩

theorem built_hash : Tryz.prog.built 148 [(0, .agg (u32s Sha.first.list))] = some ((hashL Sha.first (List.replicate 64 0) 0).toArray) := by kernel_rfl

theorem wpList_build_to {P : Program} {ops : Array Oper} {rest : List Oper} {o : Oper} {a : Act} {w : World} {Q : Exit → Act → World → Prop} (hg : o.guard = none) (t : TypeId) (parts : Array (Nat × Operand)) (ho : o.op = .build t parts)
    (L : List (Nat × Value)) (hL : (parts.map fun (i, x) => (i, a.eval x)).toList = L) (C : Array Value) (hC : P.built t L = some C)
    (h : wpList P ops Q rest (a.put o.dst (.agg C)) w) : wpList P ops Q (o :: rest) a w :=
  wpList_build hg t parts ho (by rw [hL, hC]; rfl) (by rw [hL, hC]; exact h)

end Go.Proofs.YtlckcfpdiigjiaaGreatDoor
namespace Go.Proofs.YtlckcfpdiigjiaaGreatDoor
open Go.RowKit

theorem Tryz.zero72 : (Tryz.prog.info? 174).map (fun i => (i.zero, i.size)) = some (some (.agg (u8s (List.replicate 72 0))), 72) := by kernel_rfl

set_option maxRecDepth 8000 in
set_option maxHeartbeats 1000000 in
theorem tail_any (n : Nat) (w : World) (hn : n ≤ 1152921504606846975) :
    Calls Tryz.prog 119 #[.int .u64 n] w fun e w' => e = .returned (.string ⟨(Sha.tailP n).toArray⟩) ∧ Below w.heap.size w w' := by
  obtain ⟨m, hm⟩ : ∃ m : Nat, (n : Int) % 64 = (m : Int) := ⟨n % 64, by omega⟩
  have hm64 : m < 64 := by omega
  obtain ⟨q, hq⟩ : ∃ q : Nat, (119 - (m : Int)) % 64 = (q : Int) := ⟨(119 - m) % 64, by omega⟩
  have hq64 : q < 64 := by omega
  have HP : Hid (Sha.padN n = 1 + q) := Lib.hid (by unfold Sha.padN; omega)
  have hz := (zero_of_info Tryz.zero72).1
  obtain ⟨Z, hZ⟩ : ∃ Z, u8s (List.replicate 72 0) = Z := ⟨_, rfl⟩
  rw [hZ] at hz
  have c0 : Z[0]? = some (.int .u8 0) := by rw [← hZ]; rfl
  have HZ := Lib.hid hZ
  clear hZ
  go_enter Tryz.func119, Tryz.ntmps119
  go_wp2
  go_loopw [14] (fun i wr => ∃ k : Nat, k ≤ 8 ∧ i = .int .u64 k ∧ Below w.heap.size w wr ∧ wr.heap[w.heap.size]? = some (.cells (u8s (Sha.tailFill n k)) 174 (0, 0))) (fun i _ => 8 - (intOf i).toNat)
  case atStart =>
    refine ⟨0, by omega, rfl, (Below.refl _ w).alloc (Nat.le_refl _) _, ?_⟩
    rw [← HZ.out]
    exact heap_new_at _ _ _ rfl
  case round =>
    obtain ⟨k, hk, rfl, hb, hg⟩ := hrel
    obtain ⟨F, hF⟩ : ∃ F, Sha.tailFill n k = F := ⟨_, rfl⟩
    have hFl : F.length = 72 := by rw [← hF, Sha.tailFill_length]
    rw [hF] at hg
    have HB := Lib.hid hb
    have HG := Lib.hid hg
    have HF := Lib.hid hF
    by_cases hlt : k < 8
    · have hc : wr.cell? ⟨w.heap.size, 1 + q + k, none⟩ = some (.int .u8 ((F.getD (1 + q + k) 0).toNat : Int)) := (cell_of_row wr _ _ _ _ _ hg).trans (u8s_at F _ (by omega))
      obtain ⟨old, ho⟩ : ∃ z, ((F.getD (1 + q + k) 0).toNat : Int) = z := ⟨_, rfl⟩
      rw [ho] at hc
      have hf := frozen_of_row wr _ (1 + q + k) _ _ hg
      have hn1 : Sha.tailFill n (k + 1) = F.set (1 + q + k) (Sha.byteOf ((n : Int) * 8 / 2 ^ (8 * (7 - k)))) := by rw [← hF, ← HP.out]; rfl
      have HN := Lib.hid hn1
      have e0 : (1 + (q : Int) + (k : Int)).toNat = 1 + q + k := by omega
      have e1 : (8 * (7 - (k : Int))).toNat = 8 * (7 - k) := by omega
      have hk8 : (k : Int) < 8 := by omega
      clear hb hg hF hFl ho hn1
      go_wp2
      go_roundw
      case rel =>
        refine ⟨k + 1, by omega, by go_num, HB.out.setCell (Nat.le_refl _) _, ?_⟩
        rw [HN.out, ← u8s_set, Sha.byteOf_toNat]
        exact heap_setCell_same _ _ _ _ _ _ HG.out
      case measure => simp [intOf]; omega
    · obtain rfl : k = 8 := by omega
      have hno : ¬ ((8 : Nat) : Int) < 8 := by omega
      have hTl : (F.take (1 + q + 8)).length = 1 + q + 8 := by rw [List.length_take, hFl]; omega
      obtain ⟨G, hG⟩ : ∃ G, F.take (1 + q + 8) = G := ⟨_, rfl⟩
      have kc : (convert 110 9 (.slice (some ⟨w.heap.size, 0, none⟩) (1 + q + 8) 72)).run Tryz.prog wr = .ok (.string ⟨G.toArray⟩) wr := by
        have := run_convert_bytes_back (P := Tryz.prog) wr 110 9 5 ⟨w.heap.size, 0, none⟩ 72 (F.take (1 + q + 8)) Tryz.underlying110 Tryz.underlying5 Tryz.underlying9 (by
          intro j hj
          rw [hTl] at hj
          rw [Addr.add_mid, Nat.zero_add, cell_of_row wr _ j _ _ _ hg, u8s_at F j (by omega)]
          simp [List.getElem_take, show j < F.length by omega])
        rwa [hTl, hG] at this
      have HR : Hid (G = Sha.tailP n) := Lib.hid (by rw [← hG, ← HF.out]; unfold Sha.tailP; rw [HP.out])
      have e2 : (1 + (q : Int) + 8).toNat = 1 + q + 8 := by omega
      have e3 : (0 : Int) ≤ 1 + (q : Int) + 8 := by omega
      have e4 : 1 + (q : Int) + 8 ≤ 72 := by omega
      clear hlt hk hg hb hF hFl hTl hG
      go_wp2
      go_ret
      exact ⟨by rw [HR.out]; rfl, HB.out⟩
end Go.Proofs.YtlckcfpdiigjiaaGreatDoor
namespace Go.Proofs.YtlckcfpdiigjiaaGreatDoor
open Go.RowKit

set_option maxRecDepth 8000 in
set_option maxHeartbeats 1000000 in
theorem sjoin_any (s : Sha.St) (w : World) :
    Calls Tryz.prog 120 #[.agg (u32s s.list)] w fun e w' => e = .returned (.string ⟨(Sha.joinP s).toArray⟩) ∧ Below w.heap.size w w' := by
  obtain ⟨L, hL⟩ : ∃ L, s.list = L := ⟨_, rfl⟩
  have hLl : L.length = 8 := by rw [← hL]; rfl
  have hj : Sha.joinFill L 8 = Sha.joinP s := by rw [← hL]; rfl
  rw [hL]
  have HJ := Lib.hid hj
  have HLL := Lib.hid hLl
  have hix : ∀ (k : Nat), k < 8 → ∀ w, (Instr.index 140 (.agg (u32s L)) (.int .i64 k)).run Tryz.prog w = .ok (.int .u32 (L.getD k 0)) w := by
    intro k hk w
    have hu := Tryz.underlying140
    have hk0 : (0 : Int) ≤ (k : Int) := by omega
    have hk8 : (k : Int) < 8 := by omega
    have hat : (u32s L)[k]? = some (.int .u32 (L.getD k 0)) := u32s_at L k (by omega)
    unfold Instr.index
    go_simp
  have HIX := Lib.hid hix
  have hsz : (u32s L).size = 8 := by rw [u32s_size, hLl]
  have hi : (Tryz.prog.info? 140).map (·.size) = some (u32s L).size := by rw [hsz]; kernel_rfl
  have HI := Lib.hid hi
  obtain ⟨A, hA⟩ : ∃ A, u32s L = A := ⟨_, rfl⟩
  rw [hA] at HI HIX ⊢
  clear hA hsz hi hix hj hLl hL
  go_enter Tryz.func120, Tryz.ntmps120
  go_wp2_with (refine wpList_load_row (by rfl) _ _ (by rfl) w.heap.size (by rfl) _ A (0, 0) _ (heap_old_at _ (heap_new_at _ _ _ rfl)) Tryz.underlying140 (by rfl) HI.out ?_)
  go_loopw [7] (fun i wr => ∃ k : Nat, k ≤ 8 ∧ i = .int .i64 k ∧ Below w.heap.size w wr ∧ wr.heap[w.heap.size + 1]? = some (.cells (u8s (Sha.joinFill L k)) 175 (0, 0))) (fun i _ => 8 - (intOf i).toNat)
  case atStart => exact ⟨0, by omega, rfl, ((Below.refl _ w).alloc (Nat.le_refl _) _).alloc (by simp) _, heap_new_at _ _ _ (by simp)⟩
  case round =>
    obtain ⟨k, hk, rfl, hb, hg⟩ := hrel
    obtain ⟨F, hF⟩ : ∃ F, Sha.joinFill L k = F := ⟨_, rfl⟩
    have hFl : F.length = 32 := by rw [← hF, Sha.joinFill_length]
    rw [hF] at hg
    have HB := Lib.hid hb
    have HG := Lib.hid hg
    have HF := Lib.hid hF
    by_cases hlt : k < 8
    · have hx := HIX.out k hlt
      have hn : Sha.joinFill L (k + 1) = (((F.set (4 * k) (Sha.byteOf (L.getD k 0 / 16777216))).set (4 * k + 1) (Sha.byteOf (L.getD k 0 / 65536))).set (4 * k + 2) (Sha.byteOf (L.getD k 0 / 256))).set (4 * k + 3) (Sha.byteOf (L.getD k 0)) := by rw [← hF]; rfl
      obtain ⟨x, hxx⟩ : ∃ x, L.getD k 0 = x := ⟨_, rfl⟩
      rw [hxx] at hx hn
      have HN := Lib.hid hn
      have hcell : ∀ j, j < 32 → ∃ z, wr.cell? ⟨w.heap.size + 1, j, none⟩ = some (.int .u8 z) := fun j hj => ⟨_, (cell_of_row wr _ j _ _ _ hg).trans (u8s_at _ j (by omega))⟩
      have hfz : ∀ j, wr.frozen? ⟨w.heap.size + 1, j, none⟩ = false := fun j => frozen_of_row wr _ j _ _ hg
      obtain ⟨z0, c0⟩ := hcell (4 * k) (by omega)
      obtain ⟨z1, c1⟩ := hcell (4 * k + 1) (by omega)
      obtain ⟨z2, c2⟩ := hcell (4 * k + 2) (by omega)
      obtain ⟨z3, c3⟩ := hcell (4 * k + 3) (by omega)
      have f0 := hfz (4 * k)
      have f1 := hfz (4 * k + 1)
      have f2 := hfz (4 * k + 2)
      have f3 := hfz (4 * k + 3)
      have e0 : (4 * (k : Int)).toNat = 4 * k := by omega
      have e1 : (4 * (k : Int) + 1).toNat = 4 * k + 1 := by omega
      have e2 : (4 * (k : Int) + 2).toNat = 4 * k + 2 := by omega
      have e3 : (4 * (k : Int) + 3).toNat = 4 * k + 3 := by omega
      have hk8 : (k : Int) < 8 := by omega
      clear hb hg hF hFl hxx hn hcell hfz
      go_wp2
      go_roundw
      case rel =>
        have hle : w.heap.size ≤ w.heap.size + 1 := Nat.le_succ _
        refine ⟨k + 1, by omega, by go_num, (((HB.out.setCell hle _).setCell hle _).setCell hle _).setCell hle _, ?_⟩
        rw [HN.out, ← u8s_set, ← u8s_set, ← u8s_set, ← u8s_set, Sha.byteOf_toNat, Sha.byteOf_toNat, Sha.byteOf_toNat, Sha.byteOf_toNat]
        exact heap_setCell_same _ _ _ _ _ _ (heap_setCell_same _ _ _ _ _ _ (heap_setCell_same _ _ _ _ _ _ (heap_setCell_same _ _ _ _ _ _ HG.out)))
      case measure => simp [intOf]; omega
    · obtain rfl : k = 8 := by omega
      have hno : ¬ ((8 : Nat) : Int) < 8 := by omega
      have kc : (convert 110 9 (.slice (some ⟨w.heap.size + 1, 0, none⟩) 32 32)).run Tryz.prog wr = .ok (.string ⟨F.toArray⟩) wr := by
        have := run_convert_bytes_back (P := Tryz.prog) wr 110 9 5 ⟨w.heap.size + 1, 0, none⟩ 32 F Tryz.underlying110 Tryz.underlying5 Tryz.underlying9 (by
          intro j hj
          rw [Addr.add_mid, Nat.zero_add, cell_of_row wr _ j _ _ _ hg, u8s_at F j hj]
          simp [hj])
        rwa [hFl] at this
      have HR : Hid (F = Sha.joinP s) := Lib.hid (by rw [← HF.out, HJ.out])
      clear hlt hk hg hb hF hFl
      go_wp2
      go_ret
      exact ⟨by rw [HR.out]; rfl, HB.out⟩
end Go.Proofs.YtlckcfpdiigjiaaGreatDoor
namespace Go.Proofs.YtlckcfpdiigjiaaGreatDoor
open Go.RowKit

theorem HashIs.start {w : World} {g : Nat} (h : w.heap[g]? = some (.cells (hashL Sha.first (List.replicate 64 0) 0).toArray 148 (0, 0))) : HashIs w g [] :=
  ⟨List.replicate 64 0, by simp, rfl, h⟩
theorem Tryz.zero73 : (Tryz.prog.info? 148).map (fun i => (i.zero, i.size)) = some (some (.agg (hashL ⟨0, 0, 0, 0, 0, 0, 0, 0⟩ (List.replicate 64 0) 0).toArray), 73) := by kernel_rfl
theorem hash_one (s : Sha.St) (o : List UInt8) (n : Nat) : (hashL s o n).toArray.all (·.oneCell') = true := by
  refine all_oneCell_toArray ?_
  intro v hv
  simp only [hashL, words8, cellsL, List.mem_append, List.mem_map, List.mem_cons, List.not_mem_nil, or_false] at hv
  rcases hv with (rfl | rfl | rfl | rfl | rfl | rfl | rfl | rfl) | ⟨x, _, rfl⟩ | rfl <;> rfl

/-- A whole value into the block that was made last. -/
theorem wpList_store_new {P : Program} {ops : Array Oper} {rest : List Oper} {o : Oper} {a : Act} {w : World} {Q : Exit → Act → World → Prop} (hgd : o.guard = none) (ty : TypeId) (x y : Operand) (ho : o.op = .store ty x y)
    (g : Nat) (hg : g = w.heap.size) (cells : Array Value) (hx : a.eval x = .pointer (some ⟨g, 0, none⟩)) (hy : a.eval y = .agg cells)
    (t : TypeId) (old : Array Value) (hi : (P.info? ty).map (·.size) = some cells.size)
    (hold : old.size = cells.size) (h1 : cells.all (·.oneCell') = true)
    (h : wpList P ops Q rest (a.put o.dst undef) (w.alloc (.cells cells t))) : wpList P ops Q (o :: rest) a (w.alloc (.cells old t)) := by
  subst hg
  exact wpList_store_row hgd ty x y ho w.heap.size cells hx hy t old (heap_alloc_new w _) hi hold h1 (by rw [World.setRow_alloc_new]; exact h)

set_option maxRecDepth 8000 in
set_option maxHeartbeats 1000000 in
theorem hsum_any (t : List UInt8) (g : Nat) (w : World) (hh : HashIs w g t) (hT : Tab w) (hl : t.length ≤ 1152921504606800000) :
    Calls Tryz.prog 110 #[.pointer (some ⟨g, 0, none⟩)] w fun e w' => e = .returned (.string ⟨(Sha.sumP t).toArray⟩) ∧ Below w.heap.size w w' := by
  have hgl := hh.lt
  have hpos := hT.pos
  obtain ⟨o, hol, hoq, hg⟩ := hh
  obtain ⟨c, hc⟩ : ∃ c, t.length = c := ⟨_, rfl⟩
  obtain ⟨C, hC⟩ : ∃ C, (hashL (Sha.wordsP t) o t.length).toArray = C := ⟨_, rfl⟩
  have hz := (zero_of_info Tryz.zero73).1
  obtain ⟨Z, hZ⟩ : ∃ Z, (hashL ⟨0, 0, 0, 0, 0, 0, 0, 0⟩ (List.replicate 64 0) 0).toArray = Z := ⟨_, rfl⟩
  have hZs : Z.size = 73 := by rw [← hZ, List.size_toArray, hashL_length _ _ _ (by simp)]
  have hCs : C.size = 73 := by rw [← hC, List.size_toArray, hashL_length _ _ _ hol]
  have hC1 : C.all (·.oneCell') = true := by rw [← hC]; exact hash_one _ _ _
  have hi : (Tryz.prog.info? 148).map (·.size) = some C.size := by rw [hCs]; exact (zero_of_info Tryz.zero73).2
  have c72 : w.cell? ⟨g, 72, none⟩ = some (.int .u64 (c : Int)) := by rw [← hc]; exact (cell_of_row w g 72 _ _ _ hg).trans (hashL_count _ _ _ hol)
  have hcop : ∀ w' p, w'.heap[p]? = some (.cells C 148 (0, 0)) → HashIs w' p t := fun w' p h => ⟨o, hol, hoq, by rw [hC]; exact h⟩
  rw [hC] at hg
  rw [hZ] at hz
  have HC := Lib.hid hc
  have HG := Lib.hid hg
  have HI := Lib.hid hi
  have HC1 := Lib.hid hC1
  have HZC : Hid (Z.size = C.size) := Lib.hid (by rw [hZs, hCs])
  have HCOP := Lib.hid hcop
  have HT := Lib.hid hT
  clear hc hg hi hC1 hZs hCs hcop hT hC hZ hol hoq
  go_enter Tryz.func110, Tryz.ntmps110
  go_wp2_with (first | (refine wpList_load_row (by rfl) _ _ (by rfl) g (by rfl) _ C _ _ HG.out Tryz.underlying148 (by rfl) HI.out ?_) | (refine wpList_store_new (by rfl) _ _ _ (by rfl) w.heap.size rfl C (by rfl) (by rfl) _ Z HI.out HZC.out HC1.out ?_))
  refine (tail_any c _ (by have := HC.out; omega)).mono ?_
  rintro e w2 ⟨rfl, hb2⟩
  have hB1 : Below w.heap.size w (w.alloc (.cells C 148)) := (Below.refl _ w).alloc (Nat.le_refl _) _
  have hB2 : Below w.heap.size w w2 := hB1.trans (hb2.mono hB1.size)
  have hh2 : HashIs w2 w.heap.size t := (HCOP.out _ _ (heap_new_at w _ _ rfl)).below hb2
  have hT2 : Tab w2 := HT.out.below hB2
  have hlt : (Sha.tailP c).length ≤ 72 := by rw [Sha.tailP_length]; unfold Sha.padN; omega
  have HW := Lib.hid (write_any t (Sha.tailP c) w.heap.size w2 hh2 hT2 hpos (by omega))
  have HB2 := Lib.hid hB2
  clear hb2 hB1 hB2 hh2 hT2 hlt
  go_wp2_with fail
  refine HW.out.mono ?_
  rintro e w3 ⟨rfl, hh3, ho3⟩
  have hB3 : Below w.heap.size w w3 := HB2.out.trans (ho3.below (Nat.le_refl _) HB2.out.size)
  have HR : Hid (Sha.sumP t = Sha.joinP (Sha.wordsP (t ++ Sha.tailP c))) := Lib.hid (by unfold Sha.sumP; rw [HC.out])
  obtain ⟨o3, hol3, _, hg3⟩ := hh3
  obtain ⟨S, hS⟩ : ∃ S, Sha.wordsP (t ++ Sha.tailP c) = S := ⟨_, rfl⟩
  rw [hS] at hg3 HR
  have HJ := Lib.hid (sjoin_any S w3)
  have HB3 := Lib.hid hB3
  obtain ⟨z0, z1, z2, z3, z4, z5, z6, z7, y0, y1, y2, y3, y4, y5, y6, y7⟩ := words_there hg3
  obtain ⟨a, b, c1, d, e, f, g1, h⟩ := S
  simp only [Sha.St.list, u32s, List.map_cons, List.map_nil] at HJ
  dsimp only at z0 z1 z2 z3 z4 z5 z6 z7
  clear hS hg3 hB3 ho3 y0 y1 y2 y3 y4 y5 y6 y7
  go_wp2_with fail
  refine HJ.out.mono ?_
  rintro e w4 ⟨rfl, hb4⟩
  go_wp2
  go_ret
  exact ⟨by rw [HR.out]; rfl, HB3.out.trans (hb4.mono HB3.out.size)⟩
end Go.Proofs.YtlckcfpdiigjiaaGreatDoor
namespace Go.Proofs.YtlckcfpdiigjiaaGreatDoor.Sha
set_option maxRecDepth 100000
end Go.Proofs.YtlckcfpdiigjiaaGreatDoor.Sha
namespace Go.Proofs.YtlckcfpdiigjiaaGreatDoor
open Go.RowKit

set_option maxRecDepth 8000 in
set_option maxHeartbeats 1000000 in
theorem sum_any (s : List UInt8) (w : World) (hT : Tab w) (hl : s.length ≤ 1152921504606800000) :
    Calls Tryz.prog 94 #[.string ⟨s.toArray⟩] w fun e w' => e = .returned (.string ⟨(Sha.sumP s).toArray⟩) ∧ Below w.heap.size w w' := by
  have hz := (zero_of_info Tryz.zero73).1
  obtain ⟨Z, hZ⟩ : ∃ Z, (hashL ⟨0, 0, 0, 0, 0, 0, 0, 0⟩ (List.replicate 64 0) 0).toArray = Z := ⟨_, rfl⟩
  obtain ⟨C, hC⟩ : ∃ C, (hashL Sha.first (List.replicate 64 0) 0).toArray = C := ⟨_, rfl⟩
  have hZs : Z.size = 73 := by rw [← hZ, List.size_toArray, hashL_length _ _ _ (by simp)]
  have hCs : C.size = 73 := by rw [← hC, List.size_toArray, hashL_length _ _ _ (by simp)]
  have hC1 : C.all (·.oneCell') = true := by rw [← hC]; exact hash_one _ _ _
  have hi : (Tryz.prog.info? 148).map (·.size) = some C.size := by rw [hCs]; exact (zero_of_info Tryz.zero73).2
  have hst : ∀ w' p, w'.heap[p]? = some (.cells C 148 (0, 0)) → HashIs w' p [] := fun w' p h => HashIs.start (by rw [hC]; exact h)
  have hbu := built_hash
  rw [hC] at hbu
  rw [hZ] at hz
  have HBU := Lib.hid hbu
  have HI := Lib.hid hi
  have HC1 := Lib.hid hC1
  have HZC : Hid (Z.size = C.size) := Lib.hid (by rw [hZs, hCs])
  have HST := Lib.hid hst
  have HT := Lib.hid hT
  clear hi hC1 hZs hCs hst hT hC hZ hbu
  go_enter Tryz.func94, Tryz.ntmps94
  go_wp2_with fail
  refine (first_any _).mono ?_
  rintro e w1 ⟨rfl, hb1⟩
  go_wp2_with (first | (refine wpList_build_to (by rfl) _ _ (by rfl) [(0, .agg (u32s Sha.first.list))] (by first | rfl | (simp [Act.eval]; done) | kernel_rfl) C HBU.out ?_) | (refine wpList_store_new (by rfl) _ _ _ (by rfl) w1.heap.size rfl C (by rfl) (by rfl) _ Z HI.out HZC.out HC1.out ?_))
  have hB2 : Below w.heap.size w (w1.alloc (.cells C 148)) := hb1.alloc hb1.size _
  have hh2 : HashIs (w1.alloc (.cells C 148)) w1.heap.size [] := HST.out _ _ (heap_new_at _ _ _ rfl)
  have hT2 := HT.out.below hB2
  have hp : 0 < w1.heap.size := Nat.lt_of_lt_of_le HT.out.pos hb1.size
  have HW := Lib.hid (write_any [] s w1.heap.size _ hh2 hT2 hp (by simp; omega))
  have HB2 := Lib.hid hB2
  have HS1 := Lib.hid hb1.size
  clear hb1 hB2 hh2 hT2
  refine HW.out.mono ?_
  rintro e w3 ⟨rfl, hh3, ho3⟩
  have hB3 : Below w.heap.size w w3 := HB2.out.trans (ho3.below HS1.out HB2.out.size)
  have HS := Lib.hid (hsum_any s w1.heap.size w3 (by simpa using hh3) (HT.out.below hB3) (by omega))
  have HB3 := Lib.hid hB3
  clear hh3 ho3 hB3
  go_wp2_with fail
  refine HS.out.mono ?_
  rintro e w4 ⟨rfl, hb4⟩
  go_wp2
  go_ret
  exact ⟨rfl, HB3.out.trans (hb4.mono HB3.out.size)⟩

end Go.Proofs.YtlckcfpdiigjiaaGreatDoor
namespace Go.Proofs.YtlckcfpdiigjiaaGreatDoor
open Go.RowKit

theorem isTag_any (t : Int) (w : World) :
    Calls Tryz.prog 93 #[.int .i64 t] w fun e w' => e = .returned (.bool (Dig.isTag t)) ∧ w' = w := by
  unfold Dig.isTag
  by_cases h1 : 1 ≤ t
  · by_cases h2 : t ≤ 255
    · go_enter Tryz.func93, Tryz.ntmps93
      go_wp2
      go_ret
      simp [h1, h2]
    · go_enter Tryz.func93, Tryz.ntmps93
      go_wp2
      go_ret
      simp [h2]
  · go_enter Tryz.func93, Tryz.ntmps93
    go_wp2
    go_ret
    simp
    omega

/-- What Sum answers. -/
def Dig.sum (t : Int) (s : List UInt8) : List UInt8 := if Dig.isTag t then Sha.sumP (Sha.byteOf t :: s) else []
def Dig.sumC (t : Int) : Int := if Dig.isTag t then 0 else 1
theorem conv_tag (w : World) (x : Int) : (convert 110 9 (.slice (some ⟨w.heap.size, 0, none⟩) 1 1)).run Tryz.prog (w.alloc (.cells #[.int .u8 (x % 256)] 5)) = .ok (.string ⟨[Sha.byteOf x].toArray⟩) (w.alloc (.cells #[.int .u8 (x % 256)] 5)) := by
  have hg := heap_alloc_new w (.cells #[.int .u8 (x % 256)] 5)
  refine run_convert_bytes_back (P := Tryz.prog) _ 110 9 5 ⟨w.heap.size, 0, none⟩ 1 [Sha.byteOf x] Tryz.underlying110 Tryz.underlying5 Tryz.underlying9 ?_
  intro j hj
  rw [Addr.add_mid, Nat.zero_add, cell_of_row _ _ j _ _ _ hg]
  match j, hj with
  | 0, _ => simp [Sha.byteOf_toNat]

set_option maxRecDepth 8000 in
set_option maxHeartbeats 1000000 in
theorem dsum_any (t : Int) (s : List UInt8) (w : World) (hT : Tab w) (hs : s.length ≤ 140737488351232) :
    Calls Tryz.prog 78 #[.int .i64 t, .string ⟨s.toArray⟩] w fun e w' => e = .returned (.tuple #[.string ⟨(Dig.sum t s).toArray⟩, .int .i64 (Dig.sumC t)]) ∧ Below w.heap.size w w' := by
  unfold Dig.sum Dig.sumC
  by_cases ht : Dig.isTag t = true
  · have HT := Lib.hid ht
    have HTB := Lib.hid hT
    rw [if_pos ht, if_pos ht]
    have HS := Lib.hid (fun w hw => sum_any (Sha.byteOf t :: s) w hw (by simp; omega))
    obtain ⟨R, hR⟩ : ∃ R, Sha.sumP (Sha.byteOf t :: s) = R := ⟨_, rfl⟩
    rw [hR] at HS ⊢
    have hcm := cat_mk [Sha.byteOf t] s
    have kc := fun w => conv_tag w t
    rw [List.singleton_append] at hcm
    clear ht hR hT
    go_enter Tryz.func78, Tryz.ntmps78
    go_wp2_with fail
    refine (isTag_any t _).mono ?_
    rintro e w1 ⟨rfl, rfl⟩
    rw [HT.out]
    have hB1 : Below w1.heap.size w1 (w1.alloc (.cells #[.int .u8 (t % 256)] 5)) := (Below.refl _ w1).alloc (Nat.le_refl _) _
    go_wp2_with fail
    refine (HS.out _ (HTB.out.below hB1)).mono ?_
    rintro e w2 ⟨rfl, hb2⟩
    go_wp2
    go_ret2
    exact ⟨rfl, bchain hB1 hb2⟩
  · have hf : Dig.isTag t = false := by simpa using ht
    have HF := Lib.hid hf
    rw [if_neg ht, if_neg ht]
    clear ht hf
    go_enter Tryz.func78, Tryz.ntmps78
    go_wp2_with fail
    refine (isTag_any t _).mono ?_
    rintro e w1 ⟨rfl, rfl⟩
    rw [HF.out]
    go_wp2
    go_ret2
    exact ⟨rfl, Below.refl _ _⟩
end Go.Proofs.YtlckcfpdiigjiaaGreatDoor
namespace Go.Proofs.YtlckcfpdiigjiaaGreatDoor
open Go.RowKit
open Go.Proofs.YtlckcfpdiigjiaaGreatDoor.Pw (M)

def Pw.encM (m : M) : List UInt8 := Code.textL m.name ++ Code.numL m.power.toNat
def Pw.encB (L : List M) : List UInt8 := Code.numL L.length ++ L.flatMap Pw.encM
def Pw.encL (L : List M) : List UInt8 := if Pw.okL L then Pw.encB L else []
theorem Pw.numL_le (n : Nat) (h : n < 2 ^ 63) : (Code.numL n).length ≤ 9 := by
  have := Code.numL_length n
  have := Code.sz_le8 n (by omega)
  omega
theorem Pw.encM_le (m : M) (h : m.name.length ≤ 6) (h1 : m.power ≤ 1000) : (Pw.encM m).length ≤ 24 := by
  have h2 := Pw.numL_le m.power.toNat (by omega)
  have h3 := Pw.numL_le m.name.length (by omega)
  simp only [Pw.encM, Code.textL, List.length_append]
  omega
theorem Pw.encs_le (L : List M) (h : ∀ m ∈ L, m.name.length ≤ 6 ∧ m.power ≤ 1000) : (L.flatMap Pw.encM).length ≤ 24 * L.length := by
  induction L with
  | nil => simp
  | cons m L ih =>
    have h1 := ih (fun x hx => h x (List.mem_cons_of_mem _ hx))
    have h2 := h m (List.mem_cons_self ..)
    have h3 := Pw.encM_le m h2.1 h2.2
    simp only [List.flatMap_cons, List.length_append, List.length_cons]
    omega
theorem Pw.encB_le {L : List M} (h : Pw.okL L = true) (k : Nat) : (Code.numL L.length ++ (L.take k).flatMap Pw.encM).length ≤ 200 := by
  have h1 := (Pw.okL_len h).2
  have h2 := Pw.numL_le L.length (by omega)
  have h3 := Pw.encs_le (L.take k) (fun m hm => by
    have := Pw.okL_mem h m (List.mem_of_mem_take hm)
    exact ⟨this.2.1, this.2.2.2⟩)
  have h4 : (L.take k).length ≤ 7 := by simp; omega
  rw [List.length_append]
  omega
theorem Pw.encL_le (L : List M) : (Pw.encL L).length ≤ 200 := by
  unfold Pw.encL
  split
  · rename_i h
    have := Pw.encB_le h L.length
    rwa [List.take_length] at this
  · simp
theorem Pw.encB_take (L : List M) (k : Nat) (h : k < L.length) : Code.numL L.length ++ (L.take (k + 1)).flatMap Pw.encM = (Code.numL L.length ++ (L.take k).flatMap Pw.encM) ++ (Code.textL L[k].name ++ Code.numL L[k].power.toNat) := by
  rw [List.take_succ_eq_append_getElem h, List.flatMap_append, List.append_assoc]
  simp [Pw.encM]

theorem pnumber_any (n : Nat) (hn : n < 2 ^ 63) (w : World) :
    Calls Tryz.prog 91 #[.int .i64 n] w fun e w' => e = .returned (.string ⟨(Code.numL n).toArray⟩) ∧ Below w.heap.size w w' := by
  go_enter Tryz.func91, Tryz.ntmps91
  go_wp2_with fail
  refine (num_any n hn w).mono ?_
  rintro e w1 ⟨rfl, hb⟩
  go_wp2
  go_ret
  exact ⟨rfl, hb⟩

set_option maxRecDepth 8000 in
set_option maxHeartbeats 2000000 in
theorem encode_any (L : List M) (v : Value) (w : World) (hv : Mems w v L) :
    Calls Tryz.prog 77 #[v] w fun e w' => e = .returned (.tuple #[.string ⟨(Pw.encL L).toArray⟩, .int .i64 (Pw.checkC L)]) ∧ Below w.heap.size w w' := by
  have HV := Lib.hid hv
  obtain ⟨A, cap, rfl⟩ := hv.form
  have HCK := Lib.hid (check_any L _ w HV.out)
  unfold Pw.encL
  cases hok : Pw.okL L with
  | false =>
    rw [Pw.checkC_bad hok] at HCK ⊢
    rw [if_neg (by simp)]
    clear hok hv
    go_enter Tryz.func77, Tryz.ntmps77
    go_wp2_with fail
    refine HCK.out.mono ?_
    rintro e w1 ⟨rfl, hb⟩
    go_wp2
    go_ret2
    exact ⟨rfl, hb⟩
  | true =>
    rw [Pw.checkC_ok hok] at HCK ⊢
    rw [if_pos rfl]
    have HOK := Lib.hid hok
    have hl7 := (Pw.okL_len hok).2
    have HN := Lib.hid (fun w => pnumber_any L.length (by omega) w)
    have HST := Lib.hid (Pw.encB_take L)
    have HLE := Lib.hid (Pw.encB_le hok)
    have HE : Hid (Pw.encB L = Code.numL L.length ++ (L.take L.length).flatMap Pw.encM) := Lib.hid (by rw [List.take_length]; rfl)
    obtain ⟨E, hE⟩ : ∃ E, Pw.encB L = E := ⟨_, rfl⟩
    obtain ⟨P, hP⟩ : ∃ P, Code.numL L.length = P := ⟨_, rfl⟩
    rw [hP] at HN HST HLE HE
    rw [hE] at HE ⊢
    clear hok hv hE hP
    go_enter Tryz.func77, Tryz.ntmps77
    go_wp2_with fail
    refine HCK.out.mono ?_
    rintro e w1 ⟨rfl, hb1⟩
    go_wp2_with fail
    refine (HN.out _).mono ?_
    rintro e w2 ⟨rfl, hb2⟩
    have HB2 := Lib.hid (bchain hb1 hb2)
    clear hb1 hb2
    go_wp2
    go_loopw [5, 18] (fun s i wr => ∃ k : Nat, k ≤ L.length ∧ i = .int .i64 k ∧ s = .string ⟨(P ++ (L.take k).flatMap Pw.encM).toArray⟩ ∧ Below w.heap.size w wr) (fun _ i _ => L.length - (intOf i).toNat)
    case atStart => exact ⟨0, Nat.zero_le _, rfl, by simp, HB2.out⟩
    case round =>
      obtain ⟨k, hk, rfl, rfl, hb⟩ := hrel
      have HB := Lib.hid hb
      clear hb HB2
      by_cases hlt : k < L.length
      · have h1 : (k : Int) < (L.length : Int) := by omega
        have h0 : (0 : Int) ≤ (k : Int) := by omega
        obtain ⟨b, o, rfl, n0, n1⟩ := HV.out.at HB.out k hlt
        have hst := HST.out k hlt
        have hle := HLE.out k
        have hmem := Pw.okL_mem HOK.out L[k] (List.getElem_mem hlt)
        obtain ⟨⟨x, q⟩, hm⟩ : ∃ m, L[k] = m := ⟨_, rfl⟩
        rw [hm] at n0 n1 hst hmem
        dsimp only at n0 n1 hst hmem
        obtain ⟨n, rfl⟩ : ∃ n : Nat, q = n := ⟨q.toNat, by omega⟩
        simp only [Int.toNat_natCast] at hst
        have HTX := Lib.hid (fun w => text_any x w (by omega))
        have HNM := Lib.hid (fun w => pnumber_any n (by omega) w)
        have htl : (Code.textL x).length ≤ 20 := by
          have := Pw.numL_le x.length (by omega)
          simp only [Code.textL, List.length_append]; omega
        have hnl := Pw.numL_le n (by omega)
        obtain ⟨X, hX⟩ : ∃ X, Code.textL x = X := ⟨_, rfl⟩
        obtain ⟨Y, hY⟩ : ∃ Y, Code.numL n = Y := ⟨_, rfl⟩
        rw [hX] at HTX hst htl
        rw [hY] at HNM hst hnl
        obtain ⟨S, hS⟩ : ∃ S, P ++ (L.take k).flatMap Pw.encM = S := ⟨_, rfl⟩
        rw [hS] at hst hle ⊢
        have hcm1 := cat_mk X Y
        have hcm2 := cat_mk S (X ++ Y)
        have hxy : (X ++ Y).length ≤ 40 := by rw [List.length_append]; omega
        obtain ⟨Z, hZ⟩ : ∃ Z, X ++ Y = Z := ⟨_, rfl⟩
        rw [hZ] at hcm1 hcm2 hst hxy
        obtain ⟨S2, hS2⟩ : ∃ S2, S ++ Z = S2 := ⟨_, rfl⟩
        rw [hS2] at hcm2 hst
        have HST2 := Lib.hid hst
        clear hm hX hY hS hZ hS2 hst hmem
        go_wp2_with fail
        have HBN := Lib.hid (HB.out.alloc HB.out.size (.cells #[.string ⟨x.toArray⟩, .int .i64 (n : Int)] 71))
        have c0 : (wr.alloc (.cells #[.string ⟨x.toArray⟩, .int .i64 (n : Int)] 71)).cell? ⟨wr.heap.size, 0, none⟩ = some (.string ⟨x.toArray⟩) := cell_of_row _ _ _ _ _ _ (heap_new_at _ _ _ rfl)
        have c1 : (wr.alloc (.cells #[.string ⟨x.toArray⟩, .int .i64 (n : Int)] 71)).cell? ⟨wr.heap.size, 1, none⟩ = some (.int .i64 (n : Int)) := cell_of_row _ _ _ _ _ _ (heap_new_at _ _ _ rfl)
        have hsz : wr.heap.size < (wr.alloc (.cells #[.string ⟨x.toArray⟩, .int .i64 (n : Int)] 71)).heap.size := by simp
        generalize wr.alloc (.cells #[.string ⟨x.toArray⟩, .int .i64 (n : Int)] 71) = w0 at *
        have HC1 : Hid (∀ w', Below w0.heap.size w0 w' → w'.cell? ⟨wr.heap.size, 1, none⟩ = some (.int .i64 (n : Int))) := Lib.hid (fun w' hb => (hb.cell hsz).trans c1)
        have HBD : Hid (Below w0.heap.size w0 w0.drew) := Lib.hid (Below.refl _ w0).drew
        go_region_with (first | (go_at_call 92; refine (HTX.out _).mono ?_; rintro e wa ⟨rfl, hba⟩; have hBa : Below w0.heap.size w0 wa := bchain HBD.out hba; have hca := HC1.out wa hBa) | (go_at_call 91; refine (HNM.out _).mono ?_; rintro e wb ⟨rfl, hbb⟩))
        all_goals
          have hbn := bchain HBN.out (bchain hBa hbb)
          clear hba hbb hBa hca
          go_wp2
          exact ⟨⟨k + 1, by omega, by go_num, by rw [HST2.out], hbn⟩, by simp [intOf]; omega⟩
      · have h1 : ¬ ((k : Int) < (L.length : Int)) := by omega
        obtain rfl : k = L.length := by omega
        rw [← HE.out]
        go_wp2
        go_ret2
        exact ⟨rfl, HB.out⟩

/-- What Digest answers. -/
def Pw.digL (L : List M) : List UInt8 := if Pw.okL L then Sha.sumP (Sha.byteOf 4 :: Pw.encB L) else []
theorem Pw.digL_length (L : List M) : (Pw.digL L).length = if Pw.okL L then 32 else 0 := by
  unfold Pw.digL
  cases Pw.okL L
  · rfl
  · simp [Sha.sumP_length]
set_option maxRecDepth 8000 in
theorem digest_any (L : List M) (v : Value) (w : World) (hv : Mems w v L) (hT : Tab w) :
    Calls Tryz.prog 56 #[v] w fun e w' => e = .returned (.string ⟨(Pw.digL L).toArray⟩) ∧ Below w.heap.size w w' := by
  have HT := Lib.hid hT
  have HEN := Lib.hid (encode_any L v w hv)
  have hle := Pw.encL_le L
  obtain ⟨A, cap, rfl⟩ := hv.form
  cases hok : Pw.okL L with
  | false =>
    rw [Pw.checkC_bad hok, show Pw.encL L = [] by simp [Pw.encL, hok]] at HEN
    rw [show Pw.digL L = [] by simp [Pw.digL, hok]]
    clear hok hv hT hle
    go_enter Tryz.func56, Tryz.ntmps56
    go_wp2_with fail
    refine HEN.out.mono ?_
    rintro e w1 ⟨rfl, hb⟩
    go_wp2
    go_ret
    exact ⟨rfl, hb⟩
  | true =>
    have e1 : Pw.encL L = Pw.encB L := by simp [Pw.encL, hok]
    rw [Pw.checkC_ok hok, e1] at HEN
    rw [e1] at hle
    rw [show Pw.digL L = Dig.sum 4 (Pw.encB L) by simp [Pw.digL, hok, Dig.sum, Dig.isTag]]
    have HD := Lib.hid (fun w hT => dsum_any 4 (Pw.encB L) w hT (by omega))
    obtain ⟨E, hE⟩ : ∃ E, Pw.encB L = E := ⟨_, rfl⟩
    rw [hE] at HEN HD hle ⊢
    obtain ⟨D, hD⟩ : ∃ D, Dig.sum 4 E = D := ⟨_, rfl⟩
    obtain ⟨C, hC⟩ : ∃ C, Dig.sumC 4 = C := ⟨_, rfl⟩
    rw [hD, hC] at HD
    rw [hD]
    clear hok hv hT hE hD hC e1
    go_enter Tryz.func56, Tryz.ntmps56
    go_wp2_with fail
    refine HEN.out.mono ?_
    rintro e w1 ⟨rfl, hb⟩
    go_wp2_with fail
    refine (HD.out _ (HT.out.below hb)).mono ?_
    rintro e w2 ⟨rfl, hb2⟩
    go_wp2
    go_ret
    exact ⟨rfl, bchain hb hb2⟩
end Go.Proofs.YtlckcfpdiigjiaaGreatDoor
namespace Go.Proofs.YtlckcfpdiigjiaaGreatDoor
open Go.Proofs.YtlckcfpdiigjiaaGreatDoor.Pw (M)

end Go.Proofs.YtlckcfpdiigjiaaGreatDoor
namespace Go.Proofs.YtlckcfpdiigjiaaGreatDoor
open Go.RowKit
open Go.Proofs.YtlckcfpdiigjiaaGreatDoor.Pw (M)

/-- Members of the call's own, in a block from B on. -/
def OwnM (w : World) (B : Nat) (s : Value) (L : List M) : Prop := w.ownsRow B 71 2 s L.length (mrows L)
theorem OwnM.nil (w : World) (B : Nat) : OwnM w B (.slice none 0 0) [] := ⟨rfl, Or.inl ⟨rfl, rfl⟩⟩
theorem OwnM.mems {w : World} {B : Nat} {s : Value} {L : List M} (h : OwnM w B s L) : Mems w s L := Mems.own h
theorem OwnM.below {w w' : World} {B : Nat} {s : Value} {L : List M} (h : OwnM w B s L) (hb : Below w.heap.size w w') : OwnM w' B s L := row_keep (G := fun _ => False) h (Out.of hb) (fun _ _ => id)

/-- The reader in block g, the row t of members. -/
structure DecAt (w : World) (B g : Nat) (t : Value) (L : List M) (st : Pw.St) : Prop where
  rd : Rd w g st.1 st.2
  row : OwnM w B t L
  apart : t.ownBlock ≠ some g
  from_ : B ≤ g
theorem DecAt.read {w w' : World} {B g : Nat} {t : Value} {L : List M} {st st' : Pw.St} (h : DecAt w B g t L st) (hr : Rd w' g st'.1 st'.2) (ho : Only g w w') : DecAt w' B g t L st' :=
  ⟨hr, row_keep h.row ho.out (fun _ hk e => h.apart (e ▸ hk)), h.apart, h.from_⟩
theorem DecAt.below {w w' : World} {B g : Nat} {t : Value} {L : List M} {st : Pw.St} (h : DecAt w B g t L st) (hb : Below w.heap.size w w') : DecAt w' B g t L st :=
  ⟨h.rd.below hb, h.row.below hb, h.apart, h.from_⟩
theorem DecAt.append {w w0 w' : World} {B g g' H n cap : Nat} {t : Value} {L : List M} {st : Pw.St} {m : M} (h : DecAt w B g t L st) (hb : Below w.heap.size w w0) (hg : w0.grownBy w' t.ownBlock) (hown : w'.ownsRow B 71 2 (.slice (some ⟨g', 0, none⟩) n cap) n (mrows L ++ mcells m)) (hn : n = L.length + 1) (hat : t.ownBlock = some g' ∨ g' = H) (hH : w.heap.size ≤ H) : DecAt w' B g (.slice (some ⟨g', 0, none⟩) n cap) (L ++ [m]) st := by
  have h0 := h.below hb
  have hlt := h.rd.lt
  refine ⟨?_, ?_, ?_, h.from_⟩
  · have ho := Out.grown hg (F := fun k => t.ownBlock = some k) (fun _ e => e)
    exact (ho.block g h0.rd.lt (fun e => h.apart e)).trans h0.rd
  · unfold OwnM
    rw [mrows_append, List.length_append, show mrows [m] = mcells m by simp [mrows]]
    subst hn
    exact hown
  · intro e
    simp [Value.ownBlock] at e
    subst e
    rcases hat with h1 | h1
    · exact h.apart h1
    · omega
theorem DecAt.bel {w w' : World} {B g : Nat} {t : Value} {L : List M} {st : Pw.St} (h : DecAt w B g t L st) (hB : B ≤ w.heap.size) (ho : Only g w w') : Below B w w' := ho.below h.from_ hB

end Go.Proofs.YtlckcfpdiigjiaaGreatDoor
namespace Go.Proofs.YtlckcfpdiigjiaaGreatDoor.Txn
open Go.Proofs.YtlckcfpdiigjiaaGreatDoor.Pw (M)

abbrev T := List UInt8
structure X where
  kind : Int
  frm : T
  seq : Int
  dst : T
  amt : Int
  key : T
  val : T
  mem : List M
def zero : X := ⟨0, [], 0, [], 0, [], [], []⟩
instance : Inhabited X := ⟨zero⟩
theorem X.ext' {a b : X} (h1 : a.kind = b.kind) (h2 : a.frm = b.frm) (h3 : a.seq = b.seq) (h4 : a.dst = b.dst) (h5 : a.amt = b.amt) (h6 : a.key = b.key) (h7 : a.val = b.val) (h8 : a.mem = b.mem) : a = b := by cases a; cases b; simp_all
instance : DecidableEq X := fun a b =>
  if h : a.kind = b.kind ∧ a.frm = b.frm ∧ a.seq = b.seq ∧ a.dst = b.dst ∧ a.amt = b.amt ∧ a.key = b.key ∧ a.val = b.val ∧ a.mem = b.mem then isTrue (X.ext' h.1 h.2.1 h.2.2.1 h.2.2.2.1 h.2.2.2.2.1 h.2.2.2.2.2.1 h.2.2.2.2.2.2.1 h.2.2.2.2.2.2.2) else isFalse (fun e => h (by subst e; exact ⟨rfl, rfl, rfl, rfl, rfl, rfl, rfl, rfl⟩))
def nameB (s : T) : Bool := decide (1 ≤ s.length) && decide (s.length ≤ 6)
def amtB (n : Int) : Bool := decide (1 ≤ n) && decide (n ≤ 1099511627776)
def keyB (s : T) : Bool := decide (1 ≤ s.length) && decide (s.length ≤ 6)
def valB (s : T) : Bool := decide (1 ≤ s.length) && decide (s.length ≤ 32)
/-- What each kind asks of the fields that are its own or are not. -/
def kindB (x : X) : Bool :=
  if x.kind = 1 then nameB x.dst && amtB x.amt && x.key.isEmpty && x.val.isEmpty && x.mem.isEmpty
  else if x.kind = 2 then x.dst.isEmpty && decide (x.amt = 0) && keyB x.key && valB x.val && x.mem.isEmpty
  else if x.kind = 3 then x.dst.isEmpty && decide (x.amt = 0) && keyB x.key && x.val.isEmpty && x.mem.isEmpty
  else if x.kind = 4 then x.dst.isEmpty && decide (x.amt = 0) && x.key.isEmpty && x.val.isEmpty && Pw.okL x.mem
  else false
def fine (x : X) : Bool := nameB x.frm && decide (0 ≤ x.seq) && decide (x.seq ≤ 1099511627776) && kindB x
/-- What the kind has, as bytes. -/
def tailB (x : X) : T :=
  if x.kind = 1 then Code.textL x.dst ++ Code.numL x.amt.toNat
  else if x.kind = 2 then Code.textL x.key ++ Code.textL x.val
  else if x.kind = 3 then Code.textL x.key
  else Code.textL (Pw.encB x.mem)
def written (x : X) : T := UInt8.ofNat x.kind.toNat :: (Code.textL x.frm ++ Code.numL x.seq.toNat ++ tailB x)
theorem fine_of {x : X} (h : fine x = true) : 1 ≤ x.frm.length ∧ x.frm.length ≤ 6 ∧ 0 ≤ x.seq ∧ x.seq ≤ 1099511627776 ∧ kindB x = true := by
  simp only [fine, nameB, Bool.and_eq_true, decide_eq_true_eq] at h
  exact ⟨h.1.1.1.1, h.1.1.1.2, h.1.1.2, h.1.2, h.2⟩
theorem kind_of {x : X} (h : kindB x = true) :
    (x.kind = 1 ∧ 1 ≤ x.dst.length ∧ x.dst.length ≤ 6 ∧ 1 ≤ x.amt ∧ x.amt ≤ 1099511627776 ∧ x.key = [] ∧ x.val = [] ∧ x.mem = []) ∨
    (x.kind = 2 ∧ x.dst = [] ∧ x.amt = 0 ∧ 1 ≤ x.key.length ∧ x.key.length ≤ 6 ∧ 1 ≤ x.val.length ∧ x.val.length ≤ 32 ∧ x.mem = []) ∨
    (x.kind = 3 ∧ x.dst = [] ∧ x.amt = 0 ∧ 1 ≤ x.key.length ∧ x.key.length ≤ 6 ∧ x.val = [] ∧ x.mem = []) ∨
    (x.kind = 4 ∧ x.dst = [] ∧ x.amt = 0 ∧ x.key = [] ∧ x.val = [] ∧ Pw.okL x.mem = true) := by
  unfold kindB at h
  split at h
  · rename_i hk
    simp only [nameB, amtB, Bool.and_eq_true, decide_eq_true_eq, List.isEmpty_iff] at h
    exact Or.inl ⟨hk, h.1.1.1.1.1, h.1.1.1.1.2, h.1.1.1.2.1, h.1.1.1.2.2, h.1.1.2, h.1.2, h.2⟩
  · split at h
    · rename_i hk
      simp only [keyB, valB, Bool.and_eq_true, decide_eq_true_eq, List.isEmpty_iff] at h
      exact Or.inr (Or.inl ⟨hk, h.1.1.1.1, h.1.1.1.2, h.1.1.2.1, h.1.1.2.2, h.1.2.1, h.1.2.2, h.2⟩)
    · split at h
      · rename_i hk
        simp only [keyB, Bool.and_eq_true, decide_eq_true_eq, List.isEmpty_iff] at h
        exact Or.inr (Or.inr (Or.inl ⟨hk, h.1.1.1.1, h.1.1.1.2, h.1.1.2.1, h.1.1.2.2, h.1.2, h.2⟩))
      · split at h
        · rename_i hk
          simp only [Bool.and_eq_true, decide_eq_true_eq, List.isEmpty_iff] at h
          exact Or.inr (Or.inr (Or.inr ⟨hk, h.1.1.1.1, h.1.1.1.2, h.1.1.2, h.1.2, h.2⟩))
        · cases h
def fines (L : List X) : Bool := L.all fine
end Go.Proofs.YtlckcfpdiigjiaaGreatDoor.Txn
namespace Go.Proofs.YtlckcfpdiigjiaaGreatDoor
open Go.RowKit

def scells (L : List (List UInt8)) : List Value := L.map fun l => .string ⟨l.toArray⟩
theorem scells_length (L : List (List UInt8)) : (scells L).length = L.length := by simp [scells]
/-- A row of texts of the call's own, in a block from B on. -/
def Own (w : World) (B : Nat) (s : Value) (L : List (List UInt8)) : Prop := w.ownsRow B 9 1 s L.length (scells L)
theorem Own.nil (w : World) (B : Nat) : Own w B (.slice none 0 0) [] := ⟨rfl, Or.inl ⟨rfl, rfl⟩⟩
theorem Own.below {w w' : World} {B : Nat} {s : Value} {L : List (List UInt8)} (h : Own w B s L) (hb : Below w.heap.size w w') : Own w' B s L :=
  row_out (G := fun _ => False) h (Out.of hb) (fun _ _ _ _ hf => hf.elim)
theorem Own.lt {w : World} {B : Nat} {s : Value} {L : List (List UInt8)} (h : Own w B s L) (k : Nat) (hk : s.ownBlock = some k) : B ≤ k ∧ k < w.heap.size := World.ownsRow.lt h k hk
end Go.Proofs.YtlckcfpdiigjiaaGreatDoor
namespace Go.Proofs.YtlckcfpdiigjiaaGreatDoor
open Go.RowKit

theorem wpList_append_run {P : Program} {w w' : World} {ops : Array Oper} {rest : List Oper} {o : Oper} {a : Act} {Q : Exit → Act → World → Prop} (hg : o.guard = none) (s x : Operand) (t : TypeId) (hop : o.op = Op.call { callee := Callee.builtin Builtin.append, args := #[s, x], argTypes := #[t, t] })
    (sv xv r : Value) (hs : a.eval s = sv) (hx : a.eval x = xv) (hrun : (Builtin.append_ #[t, t] o.type #[sv, xv]).run P w = .ok r w') (hK : wpList P ops Q rest (a.put o.dst r) w') :
    wpList P ops Q (o :: rest) a w := by
  refine wpList_plain hg fun K' hK' => ?_
  unfold Oper.wp
  simp [execOp, hop, resolve, invoke, builtin, hs, hx, hrun, Result.andThen]
  exact hK' _ _ hK

def rowsL {α : Type} (f : α → List Value) (L : List α) : List Value := L.flatMap f
theorem rowsL_length {α : Type} {f : α → List Value} {c : Nat} (hf : ∀ a, (f a).length = c) (L : List α) : (rowsL f L).length = L.length * c := by
  induction L with
  | nil => simp [rowsL]
  | cons a L ih =>
    have e : rowsL f (a :: L) = f a ++ rowsL f L := by simp [rowsL]
    rw [e, List.length_append, ih, hf, List.length_cons, Nat.succ_mul, Nat.add_comm]
theorem rowsL_append {α : Type} (f : α → List Value) (S T : List α) : rowsL f (S ++ T) = rowsL f S ++ rowsL f T := by simp [rowsL]
theorem rowsL_at {α : Type} {f : α → List Value} {c : Nat} (hf : ∀ a, (f a).length = c) (S : List α) (i j : Nat) (hi : i < S.length) (hj : j < c) : (rowsL f S)[i * c + j]? = (f S[i])[j]? := by
  induction S generalizing i with
  | nil => simp at hi
  | cons a L ih =>
    have e : rowsL f (a :: L) = f a ++ rowsL f L := by simp [rowsL]
    rw [e]
    cases i with
    | zero =>
      rw [List.getElem?_append_left (by rw [hf]; omega)]
      simp
    | succ i =>
      rw [List.getElem?_append_right (by rw [hf, Nat.succ_mul]; omega)]
      have : (i + 1) * c + j - (f a).length = i * c + j := by rw [hf, Nat.succ_mul]; omega
      rw [this, ih i (by simpa using hi)]
      simp
theorem rowsL_one {α : Type} {f : α → List Value} (h : ∀ a, ∀ u ∈ f a, u.oneCell' = true) (S : List α) : ∀ u ∈ rowsL f S, u.oneCell' = true := by
  intro u hu
  obtain ⟨n, _, hn⟩ := List.mem_flatMap.1 hu
  exact h n u hn
/-- A slice that has the things S. -/
def RowsAt {α : Type} (ty : TypeId) (c : Nat) (f : α → List Value) (w : World) (v : Value) (S : List α) : Prop :=
  ∃ (A : Option Addr) (cap : Nat), v = .slice A S.length cap ∧ S.length ≤ cap ∧ (S = [] → A = none ∧ cap = 0 ∨ ∃ b o, A = some ⟨b, o, none⟩) ∧ (0 < S.length → ∃ b o, A = some ⟨b, o, none⟩ ∧ (∃ cs fl, w.heap[b]? = some (.cells cs ty fl)) ∧ ∀ i (h : i < S.length) j u, (f S[i])[j]? = some u → w.cell? ⟨b, o + i * c + j, none⟩ = some u)
theorem RowsAt.nil {α : Type} (ty : TypeId) (c : Nat) (f : α → List Value) (w : World) : RowsAt ty c f w (.slice none 0 0) [] := ⟨none, 0, rfl, Nat.le_refl _, fun _ => Or.inl ⟨rfl, rfl⟩, fun h => absurd h (by simp)⟩
theorem RowsAt.form {α : Type} {ty : TypeId} {c : Nat} {f : α → List Value} {w : World} {v : Value} {S : List α} (h : RowsAt ty c f w v S) : ∃ A cap, v = .slice A S.length cap ∧ S.length ≤ cap ∧ ((S = [] ∧ A = none ∧ cap = 0) ∨ ∃ b o, A = some ⟨b, o, none⟩) := by
  obtain ⟨A, cap, rfl, hc, h0, h1⟩ := h
  refine ⟨A, cap, rfl, hc, ?_⟩
  by_cases hs : S = []
  · exact (h0 hs).imp (fun h => ⟨hs, h⟩) id
  · obtain ⟨b, o, rfl, _⟩ := h1 (List.length_pos_iff.2 hs)
    exact Or.inr ⟨b, o, rfl⟩
theorem RowsAt.outF {α : Type} {ty : TypeId} {c : Nat} {f : α → List Value} {F : Nat → Prop} {w w' : World} {v : Value} {S : List α} (h : RowsAt ty c f w v S) (ho : Out F w w') (hF : ∀ k cs fl, F k → w.heap[k]? ≠ some (.cells cs ty fl)) : RowsAt ty c f w' v S := by
  obtain ⟨A, cap, rfl, hc, h0, h1⟩ := h
  refine ⟨A, cap, rfl, hc, h0, fun hp => ?_⟩
  obtain ⟨b, o, rfl, ⟨cs, fl, hh⟩, hcell⟩ := h1 hp
  have hb : ¬ F b := fun hf => hF b cs fl hf hh
  exact ⟨b, o, rfl, ⟨cs, fl, ho.heap hh hb⟩, fun i hi j u hu => ho.cell (hcell i hi j u hu) hb⟩
theorem RowsAt.below {α : Type} {ty : TypeId} {c : Nat} {f : α → List Value} {w w' : World} {v : Value} {S : List α} (h : RowsAt ty c f w v S) (hb : Below w.heap.size w w') : RowsAt ty c f w' v S := h.outF (F := fun _ => False) (Out.of hb) fun _ _ _ hf => hf.elim
theorem RowsAt.at {α : Type} {ty : TypeId} {c : Nat} {f : α → List Value} {w : World} {A : Option Addr} {n cap : Nat} {S : List α} (h : RowsAt ty c f w (.slice A n cap) S) (k : Nat) (hk : k < S.length) :
    ∃ b o, A = some ⟨b, o, none⟩ ∧ ∀ j u, (f S[k])[j]? = some u → w.cell? ⟨b, o + k * c + j, none⟩ = some u := by
  obtain ⟨A', cap', hv, _, _, h1⟩ := h
  obtain ⟨rfl, _⟩ : A = A' ∧ _ := by simpa using hv
  obtain ⟨b, o, rfl, _, hcell⟩ := h1 (by omega)
  exact ⟨b, o, rfl, hcell k hk⟩
theorem RowsAt.own {α : Type} {ty : TypeId} {c : Nat} {f : α → List Value} (hf : ∀ a, (f a).length = c) {w : World} {B : Nat} {v : Value} {S : List α} (h : w.ownsRow B ty c v S.length (rowsL f S)) : RowsAt ty c f w v S := by
  rcases h.2 with ⟨rfl, h0⟩ | ⟨g, cap, cur, rfl, hB, hh, hn, _⟩
  · obtain rfl : S = [] := List.eq_nil_of_length_eq_zero h0
    exact RowsAt.nil ty c f w
  · refine ⟨_, cap, rfl, hn, fun _ => Or.inr ⟨_, _, rfl⟩, fun h0 => ⟨g, 0, rfl, ⟨_, _, hh⟩, fun i hi j u hu => ?_⟩⟩
    have hj : j < c := by rw [← hf S[i]]; exact (List.getElem?_eq_some_iff.1 hu).1
    have := h.cells (g := g) rfl (i * c + j) u (by rw [rowsL_at hf S i j hi hj]; exact hu)
    rw [Addr.add_mid] at this; rw [Nat.zero_add]; simpa using this
theorem RowsAt.take {α : Type} {ty : TypeId} {c : Nat} {f : α → List Value} {w : World} {A : Option Addr} {n cap : Nat} {S : List α} (h : RowsAt ty c f w (.slice A n cap) S) (k : Nat) (hk : k ≤ S.length) : RowsAt ty c f w (.slice A k cap) (S.take k) := by
  obtain ⟨A', cap', hv, hcap, h0, h1⟩ := h
  obtain ⟨rfl, rfl, rfl⟩ : A = A' ∧ n = S.length ∧ cap = cap' := by simpa using hv
  have hl : (S.take k).length = k := by simp; omega
  refine ⟨A, cap, by rw [hl], by omega, fun _ => ?_, fun hp => ?_⟩
  · by_cases hs : S = []
    · exact h0 hs
    · obtain ⟨b, o, rfl, _⟩ := h1 (List.length_pos_iff.2 hs)
      exact Or.inr ⟨b, o, rfl⟩
  · obtain ⟨b, o, rfl, hlt, hcell⟩ := h1 (by omega)
    refine ⟨b, o, rfl, hlt, fun i hi j u hu => ?_⟩
    rw [hl] at hi
    exact hcell i (by omega) j u (by simpa using hu)
theorem RowsAt.drop {α : Type} {ty : TypeId} {c : Nat} {f : α → List Value} {w : World} {b o n cap : Nat} {S : List α} (h : RowsAt ty c f w (.slice (some ⟨b, o, none⟩) n cap) S) (k : Nat) (hk : k ≤ S.length) (b' o' : Nat) (hbo : k < S.length → b' = b ∧ o' = o + k * c) : RowsAt ty c f w (.slice (some ⟨b', o', none⟩) (n - k) (cap - k)) (S.drop k) := by
  obtain ⟨A', cap', hv, hcap, h0, h1⟩ := h
  obtain ⟨rfl, rfl, rfl⟩ : some ⟨b, o, none⟩ = A' ∧ n = S.length ∧ cap = cap' := by simpa using hv
  have hl : (S.drop k).length = S.length - k := by simp
  refine ⟨_, _, by rw [hl], by omega, fun _ => Or.inr ⟨_, _, rfl⟩, fun hp => ?_⟩
  rw [hl] at hp
  have hp1 : k < S.length := by omega
  have hp2 : 0 < S.length := by omega
  obtain ⟨rfl, rfl⟩ := hbo hp1
  obtain ⟨b2, o2, he, hlt, hcell⟩ := h1 hp2
  cases he
  refine ⟨_, _, rfl, hlt, fun i hi j u hu => ?_⟩
  have hki : k + i < S.length := by rw [hl] at hi; clear hcell hlt h1 h0; omega
  have := hcell (k + i) hki j u (by simpa using hu)
  rw [Nat.add_mul, ← Nat.add_assoc] at this
  exact this
/-- A slice that has the things S, in a block of any type. -/
def RowsIn {α : Type} (c : Nat) (f : α → List Value) (w : World) (v : Value) (S : List α) : Prop :=
  ∃ (A : Option Addr) (cap : Nat), v = .slice A S.length cap ∧ S.length ≤ cap ∧ (S = [] → A = none ∧ cap = 0 ∨ ∃ b o, A = some ⟨b, o, none⟩) ∧ (0 < S.length → ∃ b o, A = some ⟨b, o, none⟩ ∧ b < w.heap.size ∧ ∀ i (h : i < S.length) j u, (f S[i])[j]? = some u → w.cell? ⟨b, o + i * c + j, none⟩ = some u)
theorem RowsAt.inn {α : Type} {ty : TypeId} {c : Nat} {f : α → List Value} {w : World} {v : Value} {S : List α} (h : RowsAt ty c f w v S) : RowsIn c f w v S := by
  obtain ⟨A, cap, rfl, hc, h0, h1⟩ := h
  refine ⟨A, cap, rfl, hc, h0, fun hp => ?_⟩
  obtain ⟨b, o, rfl, ⟨cs, fl, hh⟩, hcell⟩ := h1 hp
  exact ⟨b, o, rfl, lt_of_heap hh, hcell⟩
theorem RowsIn.form {α : Type} {c : Nat} {f : α → List Value} {w : World} {v : Value} {S : List α} (h : RowsIn c f w v S) : ∃ A cap, v = .slice A S.length cap ∧ S.length ≤ cap ∧ ((S = [] ∧ A = none ∧ cap = 0) ∨ ∃ b o, A = some ⟨b, o, none⟩) := by
  obtain ⟨A, cap, rfl, hc, h0, h1⟩ := h
  refine ⟨A, cap, rfl, hc, ?_⟩
  by_cases hs : S = []
  · exact (h0 hs).imp (fun h => ⟨hs, h⟩) id
  · obtain ⟨b, o, rfl, _⟩ := h1 (List.length_pos_iff.2 hs)
    exact Or.inr ⟨b, o, rfl⟩
theorem RowsIn.below {α : Type} {c : Nat} {f : α → List Value} {w w' : World} {v : Value} {S : List α} (h : RowsIn c f w v S) (hb : Below w.heap.size w w') : RowsIn c f w' v S := by
  obtain ⟨A, cap, rfl, hc, h0, h1⟩ := h
  refine ⟨A, cap, rfl, hc, h0, fun hp => ?_⟩
  obtain ⟨b, o, rfl, hlt, hcell⟩ := h1 hp
  exact ⟨b, o, rfl, Nat.lt_of_lt_of_le hlt hb.size, fun i hi j u hu => (hb.cell hlt).trans (hcell i hi j u hu)⟩
theorem RowsIn.at {α : Type} {c : Nat} {f : α → List Value} {w : World} {A : Option Addr} {n cap : Nat} {S : List α} (h : RowsIn c f w (.slice A n cap) S) (k : Nat) (hk : k < S.length) :
    ∃ b o, A = some ⟨b, o, none⟩ ∧ ∀ j u, (f S[k])[j]? = some u → w.cell? ⟨b, o + k * c + j, none⟩ = some u := by
  obtain ⟨A', cap', hv, _, _, h1⟩ := h
  obtain ⟨rfl, _⟩ : A = A' ∧ _ := by simpa using hv
  obtain ⟨b, o, rfl, _, hcell⟩ := h1 (by omega)
  exact ⟨b, o, rfl, hcell k hk⟩
theorem run_append_nothing_rows {c : Nat} (sty ty : TypeId) (hu : Tryz.prog.underlying sty = some (.slice ty)) (hsz : ∀ w, (sizeOf ty).run Tryz.prog w = .ok c w) (w : World) (v : Value) (n k B : Nat) (xs : List Value) (h : w.ownsRow B ty c v n xs) (tt : TypeId) : (Builtin.append_ #[sty, sty] tt #[v, .slice none 0 k]).run Tryz.prog w = .ok v w := by
  rcases h.2 with ⟨rfl, rfl⟩ | ⟨g, cap, cur, rfl, hB, hh, hn, _⟩
  · simp [Builtin.append_, run_underlying hu, hsz, Builtin.lenOf, Builtin.firstCells, Result.andThen]
  · simp [Builtin.append_, run_underlying hu, hsz, Builtin.lenOf, Builtin.firstCells, Result.andThen, hn, storeCells]
/-- All of a slice behind a row of the call's own. -/
theorem append_rowsIn {α : Type} {f : α → List Value} {c : Nat} {w : World} {v s : Value} {S : List α} {B n : Nat} {xs : List Value} (sty ty : TypeId) (i0 : TypeInfo) (z : Value) (by_ : Nat)
    (hu : Tryz.prog.underlying sty = some (.slice ty)) (hsz : ∀ w, (sizeOf ty).run Tryz.prog w = .ok c w)
    (hi : Tryz.prog.info? ty = some i0) (hz0 : i0.zero = some z) (hz1 : i0.size = c) (hz2 : i0.bytes = by_) (hz : z.cells.size = c) (hc0 : 0 < c) (hby : by_ ≤ 1000)
    (hf : ∀ a, (f a).length = c) (h1 : ∀ a, ∀ u ∈ f a, u.oneCell' = true)
    (hv : RowsIn c f w v S) (hs : w.ownsRow B ty c s n xs) (hl : n + S.length ≤ 1000000) (hB : B ≤ w.heap.size) :
    ∃ v' w', (Builtin.append_ #[sty, sty] sty #[s, v]).run Tryz.prog w = .ok v' w' ∧ w'.ownsRow B ty c v' (n + S.length) (xs ++ rowsL f S) ∧ w.grownBy w' s.ownBlock ∧ (v'.ownBlock = s.ownBlock ∨ v'.ownBlock = some w.heap.size) := by
  obtain ⟨A, cap, rfl, -, -, hc⟩ := hv
  cases A with
  | none =>
    have h0 : S.length = 0 := by
      by_cases h : S.length = 0
      · exact h
      · obtain ⟨b, o, ha, _⟩ := hc (by omega)
        cases ha
    obtain rfl : S = [] := List.eq_nil_of_length_eq_zero h0
    exact ⟨s, w, run_append_nothing_rows sty ty hu hsz w s n cap B xs hs _, by simpa [rowsL] using hs, ⟨rfl, rfl, rfl, Nat.le_refl _, fun _ _ _ => rfl⟩, Or.inl rfl⟩
  | some a =>
    have hbytes : (n + S.length) * by_ ≤ 140737488355328 := Nat.le_trans (Nat.mul_le_mul hl hby) (by omega)
    obtain ⟨v', w', h1, h2, h3, _, h5⟩ := run_append_own_at (P := Tryz.prog) w B sty sty ty i0 z c by_ hu hi hz0 hz1 hz2 hz hc0 s n xs hs a S.length cap (rowsL f S) (rowsL_length hf S)
      (fun j u hu => by
        have hj : j < S.length * c := by
          have := (List.getElem?_eq_some_iff.1 hu).1
          rwa [rowsL_length hf] at this
        have hS : 0 < S.length := Nat.pos_of_ne_zero fun e => by rw [e, Nat.zero_mul] at hj; omega
        obtain ⟨b, o, hb, _, hcell⟩ := hc hS
        cases hb
        have hi' : j / c < S.length := (Nat.div_lt_iff_lt_mul hc0).2 hj
        have hr : j % c < c := Nat.mod_lt _ hc0
        have hjj : j / c * c + j % c = j := by rw [Nat.mul_comm]; exact Nat.div_add_mod j c
        have e := rowsL_at hf S (j / c) (j % c) hi' hr
        rw [hjj, hu] at e
        have := hcell (j / c) hi' (j % c) u e.symm
        rw [Addr.add_mid]
        rw [Nat.add_assoc, hjj] at this
        exact this) (rowsL_one h1 S) (by unfold maxLen; omega) hbytes hB
    exact ⟨v', w', h1, h2, h3, h5⟩
theorem append_rows {α : Type} {f : α → List Value} {c : Nat} {w : World} {v s : Value} {S : List α} {B n : Nat} {xs : List Value} (sty ty : TypeId) (i0 : TypeInfo) (z : Value) (by_ : Nat)
    (hu : Tryz.prog.underlying sty = some (.slice ty)) (hsz : ∀ w, (sizeOf ty).run Tryz.prog w = .ok c w)
    (hi : Tryz.prog.info? ty = some i0) (hz0 : i0.zero = some z) (hz1 : i0.size = c) (hz2 : i0.bytes = by_) (hz : z.cells.size = c) (hc0 : 0 < c) (hby : by_ ≤ 1000)
    (hf : ∀ a, (f a).length = c) (h1 : ∀ a, ∀ u ∈ f a, u.oneCell' = true)
    (hv : RowsAt ty c f w v S) (hs : w.ownsRow B ty c s n xs) (hl : n + S.length ≤ 1000000) (hB : B ≤ w.heap.size) :
    ∃ v' w', (Builtin.append_ #[sty, sty] sty #[s, v]).run Tryz.prog w = .ok v' w' ∧ w'.ownsRow B ty c v' (n + S.length) (xs ++ rowsL f S) ∧ w.grownBy w' s.ownBlock ∧ (v'.ownBlock = s.ownBlock ∨ v'.ownBlock = some w.heap.size) :=
  append_rowsIn sty ty i0 z by_ hu hsz hi hz0 hz1 hz2 hz hc0 hby hf h1 hv.inn hs hl hB
end Go.Proofs.YtlckcfpdiigjiaaGreatDoor
