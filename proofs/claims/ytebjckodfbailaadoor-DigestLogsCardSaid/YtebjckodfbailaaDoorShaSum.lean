/- (*sha.Hash).Sum and sha.Sum. -/
import Derived.Test.YtebjckodfbailaaDoorShaNew
import Derived.Test.YtebjckodfbailaaDoorShaWrite
import Derived.Test.YtebjckodfbailaaDoorShaTail
import Derived.Test.YtebjckodfbailaaDoorShaJoin
namespace Go.Proofs.YtebjckodfbailaaDoor
open Go.RowKit

theorem HashIs.start {w : World} {g : Nat} (h : w.heap[g]? = some (.cells (hashL Sha.first (List.replicate 64 0) 0).toArray 74 (0, 0))) : HashIs w g [] :=
  ⟨List.replicate 64 0, by simp, rfl, h⟩
theorem Tryd.zero73 : (Tryd.prog.info? 74).map (fun i => (i.zero, i.size)) = some (some (.agg (hashL ⟨0, 0, 0, 0, 0, 0, 0, 0⟩ (List.replicate 64 0) 0).toArray), 73) := by kernel_rfl
theorem hash_one (s : Sha.St) (o : List UInt8) (n : Nat) : (hashL s o n).toArray.all (·.oneCell') = true := by
  refine all_oneCell_toArray ?_
  intro v hv
  simp only [hashL, words8, cellsL, List.mem_append, List.mem_map, List.mem_cons, List.not_mem_nil, or_false] at hv
  rcases hv with (rfl | rfl | rfl | rfl | rfl | rfl | rfl | rfl) | ⟨x, _, rfl⟩ | rfl <;> rfl

/-- A whole value into the block that was made last. -/
theorem wpList_store_new {P : Program} {ops : Array Oper} {rest : List Oper} {o : Oper} {a : Act} {w : World} {Q : Exit → Act → World → Prop} (hgd : o.guard = none) (ty : TypeId) (x y : Operand) (ho : o.op = .store ty x y)
    (g : Nat) (hg : g = w.heap.size) (cells : Array Value) (hx : a.eval x = .pointer (some ⟨g, 0, none⟩)) (hy : a.eval y = .agg cells)
    (t : TypeId) (old : Array Value) (hi : (P.info? ty).map (·.size) = some cells.size)
    (hold : old.size = cells.size) (h1 : cells.all (·.oneCell') = true)
    (h : wpList P ops Q rest (a.put o.dst undef) (w.alloc (.cells cells t))) : wpList P ops Q (o :: rest) a (w.alloc (.cells old t)) := by
  subst hg
  exact wpList_store_row hgd ty x y ho w.heap.size cells hx hy t old (heap_alloc_new w _) hi hold h1 (by rw [World.setRow_alloc_new]; exact h)

set_option maxRecDepth 8000 in
set_option maxHeartbeats 1000000 in
theorem hsum_any (t : List UInt8) (g : Nat) (w : World) (hh : HashIs w g t) (hT : Tab w) (hl : t.length ≤ 1152921504606800000) :
    Calls Tryd.prog 34 #[.pointer (some ⟨g, 0, none⟩)] w fun e w' => e = .returned (.string ⟨(Sha.sumP t).toArray⟩) ∧ Below w.heap.size w w' := by
  have hgl := hh.lt
  have hpos := hT.pos
  obtain ⟨o, hol, hoq, hg⟩ := hh
  obtain ⟨c, hc⟩ : ∃ c, t.length = c := ⟨_, rfl⟩
  obtain ⟨C, hC⟩ : ∃ C, (hashL (Sha.wordsP t) o t.length).toArray = C := ⟨_, rfl⟩
  have hz := (zero_of_info Tryd.zero73).1
  obtain ⟨Z, hZ⟩ : ∃ Z, (hashL ⟨0, 0, 0, 0, 0, 0, 0, 0⟩ (List.replicate 64 0) 0).toArray = Z := ⟨_, rfl⟩
  have hZs : Z.size = 73 := by rw [← hZ, List.size_toArray, hashL_length _ _ _ (by simp)]
  have hCs : C.size = 73 := by rw [← hC, List.size_toArray, hashL_length _ _ _ hol]
  have hC1 : C.all (·.oneCell') = true := by rw [← hC]; exact hash_one _ _ _
  have hi : (Tryd.prog.info? 74).map (·.size) = some C.size := by rw [hCs]; exact (zero_of_info Tryd.zero73).2
  have c72 : w.cell? ⟨g, 72, none⟩ = some (.int .u64 (c : Int)) := by rw [← hc]; exact (cell_of_row w g 72 _ _ _ hg).trans (hashL_count _ _ _ hol)
  have hcop : ∀ w' p, w'.heap[p]? = some (.cells C 74 (0, 0)) → HashIs w' p t := fun w' p h => ⟨o, hol, hoq, by rw [hC]; exact h⟩
  rw [hC] at hg
  rw [hZ] at hz
  have HC := Lib.hid hc
  have HG := Lib.hid hg
  have HI := Lib.hid hi
  have HC1 := Lib.hid hC1
  have HZC : Hid (Z.size = C.size) := Lib.hid (by rw [hZs, hCs])
  have HCOP := Lib.hid hcop
  have HT := Lib.hid hT
  clear hc hg hi hC1 hZs hCs hcop hT hC hZ hol hoq
  go_enter Tryd.func34, Tryd.ntmps34
  go_wp2_with (first | (refine wpList_load_row (by rfl) _ _ (by rfl) g (by rfl) _ C _ _ HG.out Tryd.underlying74 (by rfl) HI.out ?_) | (refine wpList_store_new (by rfl) _ _ _ (by rfl) w.heap.size rfl C (by rfl) (by rfl) _ Z HI.out HZC.out HC1.out ?_))
  refine (tail_any c _ (by have := HC.out; omega)).mono ?_
  rintro e w2 ⟨rfl, hb2⟩
  have hB1 : Below w.heap.size w (w.alloc (.cells C 74)) := (Below.refl _ w).alloc (Nat.le_refl _) _
  have hB2 : Below w.heap.size w w2 := hB1.trans (hb2.mono hB1.size)
  have hh2 : HashIs w2 w.heap.size t := (HCOP.out _ _ (heap_new_at w _ _ rfl)).below hb2
  have hT2 : Tab w2 := HT.out.below hB2
  have hlt : (Sha.tailP c).length ≤ 72 := by rw [Sha.tailP_length]; unfold Sha.padN; omega
  have HW := Lib.hid (write_any t (Sha.tailP c) w.heap.size w2 hh2 hT2 hpos (by omega))
  have HB2 := Lib.hid hB2
  clear hb2 hB1 hB2 hh2 hT2 hlt
  go_wp2_with fail
  refine HW.out.mono ?_
  rintro e w3 ⟨rfl, hh3, ho3⟩
  have hB3 : Below w.heap.size w w3 := HB2.out.trans (ho3.below (Nat.le_refl _) HB2.out.size)
  have HR : Hid (Sha.sumP t = Sha.joinP (Sha.wordsP (t ++ Sha.tailP c))) := Lib.hid (by unfold Sha.sumP; rw [HC.out])
  obtain ⟨o3, hol3, _, hg3⟩ := hh3
  obtain ⟨S, hS⟩ : ∃ S, Sha.wordsP (t ++ Sha.tailP c) = S := ⟨_, rfl⟩
  rw [hS] at hg3 HR
  have HJ := Lib.hid (join_any S w3)
  have HB3 := Lib.hid hB3
  obtain ⟨z0, z1, z2, z3, z4, z5, z6, z7, y0, y1, y2, y3, y4, y5, y6, y7⟩ := words_there hg3
  obtain ⟨a, b, c1, d, e, f, g1, h⟩ := S
  simp only [Sha.St.list, u32s, List.map_cons, List.map_nil] at HJ
  dsimp only at z0 z1 z2 z3 z4 z5 z6 z7
  clear hS hg3 hB3 ho3 y0 y1 y2 y3 y4 y5 y6 y7
  go_wp2_with fail
  refine HJ.out.mono ?_
  rintro e w4 ⟨rfl, hb4⟩
  go_wp2
  go_ret
  exact ⟨by rw [HR.out]; rfl, HB3.out.trans (hb4.mono HB3.out.size)⟩
end Go.Proofs.YtebjckodfbailaaDoor
