/- (*digest.Log).Clash. -/
import Derived.Test.YtebjckodfbailaaDoorDigFind
namespace Go.Proofs.YtebjckodfbailaaDoor
open Go.RowKit

/-- What Clash answers. -/
def Dig.clashA (L : List Dig.N) : Dig.N := ((Dig.clash L).map (·.1)).getD Dig.zero
def Dig.clashB (L : List Dig.N) : Dig.N := ((Dig.clash L).map (·.2)).getD Dig.zero
theorem Dig.clash_none {L : List Dig.N} (h : ∀ (j : Nat) (hj : j < L.length), Dig.find L L[j].dig = some L[j]) : Dig.clash L = none := by
  unfold Dig.clash
  rw [Option.map_eq_none_iff, List.find?_eq_none]
  intro n hn
  obtain ⟨j, hj, rfl⟩ := List.getElem_of_mem hn
  simp [h j hj]
theorem Dig.clash_some {L : List Dig.N} {k : Nat} (hk : k < L.length) (h : ∀ (j : Nat) (hj : j < k), Dig.find L (L[j]'(by omega)).dig = some (L[j]'(by omega))) {m : Dig.N} (hm : Dig.find L L[k].dig = some m) (hne : m ≠ L[k]) : Dig.clash L = some (m, L[k]) := by
  have hf : L.find? (fun n => decide (Dig.find L n.dig ≠ some n)) = some L[k] := by
    rw [List.find?_eq_some_iff_getElem]
    refine ⟨by simp [hm, hne], k, hk, rfl, ?_⟩
    intro j hj
    simp [h j hj]
  unfold Dig.clash
  rw [hf]
  simp [hm]
theorem Dig.find_mem {L : List Dig.N} {n : Dig.N} (h : n ∈ L) : ∃ m, Dig.find L n.dig = some m := by
  cases hf : Dig.find L n.dig with
  | none => exact absurd rfl (Dig.find_none.1 hf n h)
  | some m => exact ⟨m, rfl⟩
theorem row_cells {w : World} {B : Nat} {s : Value} {L : List Dig.N} (h : w.ownsRow B 35 3 s L.length (rows L)) (k : Nat) (hk : k < L.length) :
    ∃ b cap, s = .slice (some ⟨b, 0, none⟩) L.length cap ∧ B ≤ b ∧ b < w.heap.size ∧ w.cell? ⟨b, k * 3, none⟩ = some (.int .i64 L[k].tag) ∧ w.cell? ⟨b, k * 3 + 1, none⟩ = some (.string ⟨L[k].text.toArray⟩) ∧ w.cell? ⟨b, k * 3 + 2, none⟩ = some (.string ⟨L[k].dig.toArray⟩) := by
  obtain ⟨b, cap, hv, hB, hlt⟩ := h.form (by omega)
  have hc := h.cells (g := b) (by rw [hv]; rfl)
  refine ⟨b, cap, hv, hB, hlt, ?_, ?_, ?_⟩
  · have := hc (k * 3 + 0) _ (by rw [rows_at L k 0 hk (by omega)]; rfl)
    rw [Addr.add_mid] at this; simpa using this
  · have := hc (k * 3 + 1) _ (by rw [rows_at L k 1 hk (by omega)]; rfl)
    rw [Addr.add_mid] at this; simpa using this
  · have := hc (k * 3 + 2) _ (by rw [rows_at L k 2 hk (by omega)]; rfl)
    rw [Addr.add_mid] at this; simpa using this

theorem set33 {w : World} {g g' : Nat} {a b c a' b' c' : Value} {T T' : TypeId} (x y z x' y' z' : Value) (h : w.heap[g]? = some (.cells #[a, b, c] T (0, 0))) (h' : w.heap[g']? = some (.cells #[a', b', c'] T' (0, 0))) (hne : g ≠ g') :
    ((((((w.setCell ⟨g, 0, none⟩ x).setCell ⟨g, 1, none⟩ y).setCell ⟨g, 2, none⟩ z).setCell ⟨g', 0, none⟩ x').setCell ⟨g', 1, none⟩ y').setCell ⟨g', 2, none⟩ z').heap[g]? = some (.cells #[x, y, z] T (0, 0)) ∧
    ((((((w.setCell ⟨g, 0, none⟩ x).setCell ⟨g, 1, none⟩ y).setCell ⟨g, 2, none⟩ z).setCell ⟨g', 0, none⟩ x').setCell ⟨g', 1, none⟩ y').setCell ⟨g', 2, none⟩ z').heap[g']? = some (.cells #[x', y', z'] T' (0, 0)) := by
  constructor
  · rw [Below.heap_setCell _ _ _ _ hne, Below.heap_setCell _ _ _ _ hne, Below.heap_setCell _ _ _ _ hne]
    exact set3 x y z h
  · refine set3 (a := a') (b := b') (c := c') x' y' z' ?_
    rw [Below.heap_setCell _ _ _ _ hne.symm, Below.heap_setCell _ _ _ _ hne.symm, Below.heap_setCell _ _ _ _ hne.symm]
    exact h'

set_option maxRecDepth 8000 in
set_option maxHeartbeats 2000000 in
theorem clash_any (L : List Dig.N) (g : Nat) (F : Nat → Prop) (w : World) (hl : LogAt w g F L) :
    Calls Tryd.prog 20 #[.pointer (some ⟨g, 0, none⟩)] w fun e w' => e = .returned (.tuple #[nval (Dig.clashA L), nval (Dig.clashB L), .bool (Dig.clash L).isSome]) ∧ Below w.heap.size w w' := by
  have HL := Lib.hid hl
  obtain ⟨s, m1, m2, M, hp⟩ := hl.parts
  have HP := Lib.hid hp
  have hgl := lt_of_heap hp.here
  obtain ⟨c0, c1, c2, -, -, -⟩ := cells3 hp.here
  obtain ⟨A, cap, rfl⟩ := own_form hp.row
  have hlen : L.length ≤ 1024 := hl.len
  clear hl hp
  go_enter Tryd.func20, Tryd.ntmps20
  go_wp2
  go_loopw [13] (fun i wr => ∃ k : Nat, k ≤ L.length ∧ i = .int .i64 k ∧ (∀ (j : Nat) (hj : j < k) (hj' : j < L.length), Dig.find L L[j].dig = some L[j]) ∧ Below w.heap.size w wr ∧ wr.heap[w.heap.size]? = some (.cells #[.int .i64 0, .string ⟨#[]⟩, .string ⟨#[]⟩] 35 (0, 0)) ∧ wr.heap[w.heap.size + 1]? = some (.cells #[.int .i64 0, .string ⟨#[]⟩, .string ⟨#[]⟩] 35 (0, 0))) (fun i _ => L.length - (intOf i).toNat)
  case atStart => exact ⟨0, Nat.zero_le _, rfl, fun j hj => absurd hj (Nat.not_lt_zero j), ((Below.refl _ w).alloc (Nat.le_refl _) _).alloc (by simp) _, heap_old_at _ (heap_new_at _ _ _ rfl), heap_new_at _ _ _ (by simp)⟩
  case round =>
    obtain ⟨k, hk, rfl, hall, hb, hz1, hz2⟩ := hrel
    clear c0 c1 c2
    have HB := Lib.hid hb
    have HA := Lib.hid hall
    have HZ1 := Lib.hid hz1
    have HZ2 := Lib.hid hz2
    have hp := HP.out.out (G := fun _ => False) (Out.of hb) (fun _ _ => id)
    by_cases hlt : k < L.length
    · have h1 : (k : Int) < (L.length : Int) := by omega
      obtain ⟨b, cap', hv, _, hbl, n0, n1, n2⟩ := row_cells hp.row k hlt
      obtain ⟨rfl, rfl⟩ : A = some ⟨b, 0, none⟩ ∧ cap = cap' := by simpa using hv
      obtain ⟨m, hm⟩ := Dig.find_mem (List.getElem_mem hlt)
      have hokM : ∀ k ∈ M, OkN k := fun k hk => HL.out.ok k (hp.sub k hk)
      have hnok := HL.out.ok _ (List.getElem_mem hlt)
      have hmok := HL.out.ok m (Dig.find_some hm).1
      obtain ⟨n, hn⟩ : ∃ n, L[k] = n := ⟨_, rfl⟩
      have HM := Lib.hid hm
      rw [hn] at n0 n1 n2 hm hnok
      have HN := Lib.hid hn
      obtain ⟨c0, c1, c2, -, -, -⟩ := cells3 hp.here
      have q1 := lt_of_heap hp.here
      have hmp := hp.map2.alloc (.cells #[.int .i64 n.tag, .string ⟨n.text.toArray⟩, .string ⟨n.dig.toArray⟩] 35)
      have l1 := look2_some hp.firsts hokM hnok.dig hm false _ m2 hmp.drew
      have l2 := look2_some hp.firsts hokM hnok.dig hm false _ m2 (hmp.alloc (.cells #[.int .i64 0, .string ⟨#[]⟩, .string ⟨#[]⟩] 35)).drew
      have HC1 := Lib.hid (fun w => copied_any n w hnok)
      have HC2 := Lib.hid (fun w => copied_any m w hmok)
      unfold nval at l1 l2 HC1 HC2
      have k0 : (0 : Int) ≤ (k : Int) := by omega
      have hmd : m.dig = n.dig := by have := (Dig.find_some HM.out).2; rw [HN.out] at this; exact this
      clear hv hn hm hnok hmok hokM hmp hp hb hall hz1 hz2
      by_cases hmn : m = n
      · subst hmn
        have HMN := Lib.hid hmd
        clear hmd HC1 HC2
        go_wp2
        go_cut [7, 13] from 13 to 31 (fun p i wx => p = .pointer (some ⟨wr.heap.size + 1, 0, none⟩) ∧ i = .int .i64 k ∧ wx = ((wr.alloc (.cells #[.int .i64 m.tag, .string ⟨m.text.toArray⟩, .string ⟨m.dig.toArray⟩] 35)).alloc (.cells #[.int .i64 m.tag, .string ⟨m.text.toArray⟩, .string ⟨m.dig.toArray⟩] 35)).drew)
        case first =>
          go_region
          all_goals
            go_wp2_with fail
            go_meet
            case rel => exact ⟨rfl, rfl, rfl⟩
        case rest =>
          obtain ⟨rfl, rfl, rfl⟩ := hcut
          have hb2 := (HB.out.alloc HB.out.size (.cells #[.int .i64 m.tag, .string ⟨m.text.toArray⟩, .string ⟨m.dig.toArray⟩] 35)).alloc (by have := HB.out.size; simp; omega) (.cells #[.int .i64 m.tag, .string ⟨m.text.toArray⟩, .string ⟨m.dig.toArray⟩] 35)
          have HB2 := Lib.hid hb2.drew
          clear hb2
          go_wp2
          refine ⟨⟨k + 1, by omega, by go_num, ?_, HB2.out, heap_old_at _ (heap_old_at _ HZ1.out), heap_old_at _ (heap_old_at _ HZ2.out)⟩, by simp [intOf]; omega⟩
          intro j hj hj'
          by_cases e : j < k
          · exact HA.out j e hj'
          · obtain rfl : j = k := by omega
            rw [HM.out, HN.out]
      · have HMN := Lib.hid hmn
        have HMD := Lib.hid hmd
        clear hmn hmd
        go_wp2
        go_cut [7, 13] from 13 to 31 (fun p i wx => p = .pointer (some ⟨wr.heap.size + 1, 0, none⟩) ∧ i = .int .i64 k ∧ wx = ((wr.alloc (.cells #[.int .i64 n.tag, .string ⟨n.text.toArray⟩, .string ⟨n.dig.toArray⟩] 35)).alloc (.cells #[.int .i64 m.tag, .string ⟨m.text.toArray⟩, .string ⟨m.dig.toArray⟩] 35)).drew)
        case first =>
          go_region
          all_goals
            go_wp2_with fail
            go_meet
            case rel => exact ⟨rfl, rfl, rfl⟩
        case rest =>
          obtain ⟨rfl, rfl, rfl⟩ := hcut
          have hb2 := ((HB.out.alloc HB.out.size (.cells #[.int .i64 n.tag, .string ⟨n.text.toArray⟩, .string ⟨n.dig.toArray⟩] 35)).alloc (by have := HB.out.size; simp; omega) (.cells #[.int .i64 m.tag, .string ⟨m.text.toArray⟩, .string ⟨m.dig.toArray⟩] 35)).drew
          have g6 : (((wr.alloc (.cells #[.int .i64 n.tag, .string ⟨n.text.toArray⟩, .string ⟨n.dig.toArray⟩] 35)).alloc (.cells #[.int .i64 m.tag, .string ⟨m.text.toArray⟩, .string ⟨m.dig.toArray⟩] 35)).drew).heap[wr.heap.size]? = some (.cells #[.int .i64 n.tag, .string ⟨n.text.toArray⟩, .string ⟨n.dig.toArray⟩] 35 (0, 0)) := heap_old_at _ (heap_new_at _ _ _ rfl)
          have g7 : (((wr.alloc (.cells #[.int .i64 n.tag, .string ⟨n.text.toArray⟩, .string ⟨n.dig.toArray⟩] 35)).alloc (.cells #[.int .i64 m.tag, .string ⟨m.text.toArray⟩, .string ⟨m.dig.toArray⟩] 35)).drew).heap[wr.heap.size + 1]? = some (.cells #[.int .i64 m.tag, .string ⟨m.text.toArray⟩, .string ⟨m.dig.toArray⟩] 35 (0, 0)) := heap_new_at _ _ _ (by simp)
          have y1 : (((wr.alloc (.cells #[.int .i64 n.tag, .string ⟨n.text.toArray⟩, .string ⟨n.dig.toArray⟩] 35)).alloc (.cells #[.int .i64 m.tag, .string ⟨m.text.toArray⟩, .string ⟨m.dig.toArray⟩] 35)).drew).heap[w.heap.size]? = some (.cells #[.int .i64 0, .string ⟨#[]⟩, .string ⟨#[]⟩] 35 (0, 0)) := heap_old_at _ (heap_old_at _ HZ1.out)
          have y2 : (((wr.alloc (.cells #[.int .i64 n.tag, .string ⟨n.text.toArray⟩, .string ⟨n.dig.toArray⟩] 35)).alloc (.cells #[.int .i64 m.tag, .string ⟨m.text.toArray⟩, .string ⟨m.dig.toArray⟩] 35)).drew).heap[w.heap.size + 1]? = some (.cells #[.int .i64 0, .string ⟨#[]⟩, .string ⟨#[]⟩] 35 (0, 0)) := heap_old_at _ (heap_old_at _ HZ2.out)
          obtain ⟨a0, a1, a2, -, -, -⟩ := cells3 g6
          obtain ⟨b0, b1, b2, -, -, -⟩ := cells3 g7
          go_upto_region 5 with fail
          go_cut [13, 26] from 13 to 31 (fun i c wx => i = .int .i64 k ∧ c = .bool true ∧ wx = (((wr.alloc (.cells #[.int .i64 n.tag, .string ⟨n.text.toArray⟩, .string ⟨n.dig.toArray⟩] 35)).alloc (.cells #[.int .i64 m.tag, .string ⟨m.text.toArray⟩, .string ⟨m.dig.toArray⟩] 35)).drew))
          case first =>
            go_wp2_with fail
            any_goals (exfalso; refine absurd ?_ HMN.out; refine Dig.N.ext' ?_ ?_ HMD.out <;> assumption)
            all_goals
              go_meet
              case rel => first | exact ⟨rfl, rfl, rfl⟩ | (refine ⟨rfl, rfl, ?_⟩; simp [*])
          case rest =>
            obtain ⟨rfl, rfl, rfl⟩ := hcut
            generalize hw0 : (((wr.alloc (.cells #[.int .i64 n.tag, .string ⟨n.text.toArray⟩, .string ⟨n.dig.toArray⟩] 35)).alloc (.cells #[.int .i64 m.tag, .string ⟨m.text.toArray⟩, .string ⟨m.dig.toArray⟩] 35)).drew) = w0 at *
            have hsz : w0.heap.size = wr.heap.size + 2 := by rw [← hw0]; simp
            have hz2 := lt_of_heap HZ2.out
            have HS : Hid (∀ w', Below w0.heap.size w0 w' → w'.heap[w.heap.size]? = some (.cells #[.int .i64 0, .string ⟨#[]⟩, .string ⟨#[]⟩] 35 (0, 0)) ∧ w'.heap[w.heap.size + 1]? = some (.cells #[.int .i64 0, .string ⟨#[]⟩, .string ⟨#[]⟩] 35 (0, 0))) := Lib.hid (fun w' hb => ⟨(hb.block _ (by omega)).trans y1, (hb.block _ (by omega)).trans y2⟩)
            have HC : Hid (∀ w', Below w0.heap.size w0 w' → w'.cell? ⟨wr.heap.size, 0, none⟩ = some (.int .i64 n.tag) ∧ w'.cell? ⟨wr.heap.size, 1, none⟩ = some (.string ⟨n.text.toArray⟩) ∧ w'.cell? ⟨wr.heap.size, 2, none⟩ = some (.string ⟨n.dig.toArray⟩) ∧ w'.cell? ⟨wr.heap.size + 1, 0, none⟩ = some (.int .i64 m.tag) ∧ w'.cell? ⟨wr.heap.size + 1, 1, none⟩ = some (.string ⟨m.text.toArray⟩) ∧ w'.cell? ⟨wr.heap.size + 1, 2, none⟩ = some (.string ⟨m.dig.toArray⟩)) :=
              Lib.hid (fun w' hb => ⟨(hb.cell (by dsimp only; omega)).trans a0, (hb.cell (by dsimp only; omega)).trans a1, (hb.cell (by dsimp only; omega)).trans a2, (hb.cell (by dsimp only; omega)).trans b0, (hb.cell (by dsimp only; omega)).trans b1, (hb.cell (by dsimp only; omega)).trans b2⟩)
            have HW0 := Lib.hid hb2
            have HBD : Hid (Below w0.heap.size w0 w0.drew) := Lib.hid (Below.refl _ w0).drew
            have HSZ := Lib.hid hz2
            have HCL : Hid (Dig.clashA L = m ∧ Dig.clashB L = n ∧ (Dig.clash L).isSome = true) := Lib.hid (by
              have hcl := Dig.clash_some hlt (fun j hj => HA.out j hj (by omega)) HM.out (by rw [HN.out]; exact HMN.out)
              simp [Dig.clashA, Dig.clashB, hcl, HN.out])
            clear hw0 hsz hz2 hb2 g6 g7 y1 y2
            go_wp2_with fail
            go_region_with (first | (go_at_call 29; (with_reducible refine (HC2.out _).mono ?_); rintro e wa ⟨rfl, hwa⟩; (have hB1 : Below w0.heap.size w0 wa := bchain HBD.out hwa); obtain ⟨a0, a1, a2, b0, b1, b2⟩ := HC.out _ hB1; have HB1 := Lib.hid hB1; clear hB1 hwa) | (go_at_call 29; (with_reducible refine (HC1.out _).mono ?_); rintro e wb ⟨rfl, hwb⟩; (have hB2 : Below w0.heap.size w0 wb := bchain HB1.out hwb); obtain ⟨g2, g3⟩ := HS.out _ hB2; obtain ⟨d0, d1, d2, f0, f1, f2⟩ := cells3 g2; obtain ⟨e0, e1, e2, j0, j1, j2⟩ := cells3 g3; have HG2 := Lib.hid g2; have HG3 := Lib.hid g3; have HBB := Lib.hid hB2; clear g2 g3 hwb hB2))
            all_goals
              go_wp2
              refine bodyPost_ret (results_c2t rfl _ _ w.heap.size (w.heap.size + 1) _ _ _ _ (0, 0) (0, 0) _ rfl (set33 _ _ _ _ _ _ HG2.out HG3.out (by omega)).1 rfl (set33 _ _ _ _ _ _ HG2.out HG3.out (by omega)).2 Tryd.underlying35 rfl (by kernel_rfl) (by kernel_rfl)) rfl ⟨?_, ?_⟩
              · rw [HCL.out.1, HCL.out.2.1, HCL.out.2.2]; rfl
              · exact (((((((bchain HW0.out HBB.out).setCell (by dsimp only; omega) _).setCell (by dsimp only; omega) _).setCell (by dsimp only; omega) _).setCell (by dsimp only; omega) _).setCell (by dsimp only; omega) _).setCell (by dsimp only; omega) _)
    · have h1 : ¬ ((k : Int) < (L.length : Int)) := by omega
      obtain ⟨a0, a1, a2, f0, f1, f2⟩ := cells3 hz1
      obtain ⟨b0, b1, b2, e0, e1, e2⟩ := cells3 hz2
      have hcl : Dig.clash L = none := Dig.clash_none (fun j hj => HA.out j (by omega) hj)
      have HCL : Hid (Dig.clashA L = Dig.zero ∧ Dig.clashB L = Dig.zero ∧ (Dig.clash L).isSome = false) := Lib.hid (by simp [Dig.clashA, Dig.clashB, hcl])
      clear hcl hz1 hz2 hall hp hb
      go_wp2
      refine bodyPost_ret (results_c2t rfl _ _ w.heap.size (w.heap.size + 1) _ _ _ _ (0, 0) (0, 0) _ rfl (set33 _ _ _ _ _ _ HZ1.out HZ2.out (by omega)).1 rfl (set33 _ _ _ _ _ _ HZ1.out HZ2.out (by omega)).2 Tryd.underlying35 rfl (by kernel_rfl) (by kernel_rfl)) rfl ⟨?_, ?_⟩
      · rw [HCL.out.1, HCL.out.2.1, HCL.out.2.2]; rfl
      · exact (((((((HB.out).setCell (by dsimp only; omega) _).setCell (by dsimp only; omega) _).setCell (by dsimp only; omega) _).setCell (by dsimp only; omega) _).setCell (by dsimp only; omega) _).setCell (by dsimp only; omega) _)
end Go.Proofs.YtebjckodfbailaaDoor
