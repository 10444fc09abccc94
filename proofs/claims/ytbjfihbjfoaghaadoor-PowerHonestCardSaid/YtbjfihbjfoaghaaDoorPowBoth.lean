/- power.Both. -/
import Derived.Test.YtbjfihbjfoaghaaDoorPowOf
import Derived.Test.YtbjfihbjfoaghaaDoorSorted
namespace Go.Proofs.YtbjfihbjfoaghaaDoor
open Go.RowKit
open Go.Proofs.YtbjfihbjfoaghaaDoor.Pw (M)

/-- The texts of a list, as a set. -/
def Pw.setF (b : List (List UInt8)) (s : List UInt8) : Option Unit := if s ∈ b then some () else none
theorem Pw.setF_step (b : List (List UInt8)) (k : Nat) (hk : k < b.length) (s : List UInt8) : updF (Pw.setF (b.take k)) b[k] (some ()) s = Pw.setF (b.take (k + 1)) s := by
  have hm : s ∈ b.take (k + 1) ↔ s ∈ b.take k ∨ s = b[k] := by rw [List.take_succ_eq_append_getElem hk, List.mem_append, List.mem_singleton]
  unfold Pw.setF updF
  show (if s = b[k] then some () else if s ∈ b.take k then some () else none) = if s ∈ b.take (k + 1) then some () else none
  by_cases e : s = b[k]
  · rw [if_pos e, if_pos (hm.2 (Or.inr e))]
  · rw [if_neg e]
    by_cases e2 : s ∈ b.take k
    · rw [if_pos e2, if_pos (hm.2 (Or.inl e2))]
    · rw [if_neg e2, if_neg (fun h => (hm.1 h).elim e2 e)]
/-- Those that are not out yet. -/
def Pw.restF (b out : List (List UInt8)) (s : List UInt8) : Option Unit := if s ∈ b ∧ s ∉ out then some () else none
theorem Pw.restF_step (b out : List (List UInt8)) (x : List UInt8) (s : List UInt8) : updF (Pw.restF b out) x none s = Pw.restF b (out ++ [x]) s := by
  unfold Pw.restF updF
  show (if s = x then none else if s ∈ b ∧ s ∉ out then some () else none) = if s ∈ b ∧ s ∉ out ++ [x] then some () else none
  by_cases e : s = x
  · rw [if_pos e, if_neg (by simp [e])]
  · rw [if_neg e]
    simp [e]

/-- The set in block g, the row s of texts. -/
structure BothAt (w : World) (B g : Nat) (s : Value) (b out : List (List UInt8)) : Prop where
  map : FnAt strUnit w g (Pw.restF b out)
  row : Own w B s out
  from_ : B ≤ g
theorem BothAt.below {w w' : World} {B g : Nat} {s : Value} {b out : List (List UInt8)} (h : BothAt w B g s b out) (hb : Below w.heap.size w w') : BothAt w' B g s b out := ⟨h.map.below hb, h.row.below hb, h.from_⟩
theorem BothAt.append {w w' : World} {B g : Nat} {s : Value} {b out : List (List UInt8)} (h : BothAt w B g s b out) (hg : w.grownBy w' s.ownBlock) : FnAt strUnit w' g (Pw.restF b out) := by
  refine h.map.out (Out.grown hg (F := fun k => s.ownBlock = some k) (fun k e => e)) (fun e => ?_)
  rcases h.row.2 with ⟨rfl, _⟩ | ⟨k, cap, cur, rfl, _, hk, _⟩
  · simp [Value.ownBlock] at e
  · simp [Value.ownBlock] at e
    subst e
    exact h.map.no_cells _ _ _ _ rfl hk

theorem BothAt.dropped {w w2 w3 : World} {G g' cap : Nat} {t : Value} {b O : List (List UInt8)} {x : List UInt8} (h : BothAt w2 G G t b O) (hb : Below G w w2) (hG : w.heap.size = G) (hx : x.length ≤ 140737488351232)
    (hown : w3.ownsRow G 9 1 (.slice (some ⟨g', 0, none⟩) (O.length + 1) cap) (O.length + 1) (scells O ++ scells [x])) (hgrow : (w2.alloc (.cells #[.string ⟨x.toArray⟩] 9)).grownBy w3 t.ownBlock) :
    ∃ w4, (∀ ty, (Builtin.delete_ #[44, 9] ty #[.map (some G), .string ⟨x.toArray⟩]).run Tryd.prog w3 = .ok (.tuple #[]) w4) ∧ BothAt w4 G G (.slice (some ⟨g', 0, none⟩) (O.length + 1) cap) b (O ++ [x]) ∧ Below G w w4 := by
  have hb0 := (Below.refl w2.heap.size w2).alloc (Nat.le_refl _) (.cells #[.string ⟨x.toArray⟩] 9)
  have hf3 := (h.below hb0).append hgrow
  obtain ⟨w4, hrun, hf4, ho4, hs4⟩ := FnAt.drop hf3 Tryd.underlying44 (s := x) hx
  have hown4 : Own w4 G (.slice (some ⟨g', 0, none⟩) (O.length + 1) cap) (O ++ [x]) := by
    have h := row_out hown ho4 (fun k cs t f e => hf3.no_cells k cs t f e)
    unfold Own
    rw [scells_append, List.length_append]
    exact h
  have hsz := hb.size
  have hB3 : Below G w w3 := by
    have h3 : Out (fun j => t.ownBlock = some j) w2 w3 := (Out.of hb0).trans (Out.grown hgrow (fun j e => e))
    exact hb.trans (h3.below (fun j hj => (h.row.lt j hj).1) (by omega))
  have hsz3 := hB3.size
  exact ⟨w4, hrun, ⟨hf4.congr (Pw.restF_step b O x), hown4, Nat.le_refl _⟩, hB3.trans (ho4.below (fun k hk => Nat.le_of_eq hk.symm) (by omega))⟩

def BothPost (a b : List (List UInt8)) (w : World) (e : Ending) (w' : World) : Prop := ∃ s, e = .returned s ∧ Own w' w.heap.size s (Pw.both a b) ∧ Below w.heap.size w w'

set_option maxRecDepth 8000 in
set_option maxHeartbeats 2000000 in
theorem both_any (a b : List (List UInt8)) (u v : Value) (w : World) (hu : Strs w u a) (hv : Strs w v b) (ha : ∀ s ∈ a, s.length ≤ 140737488351232) (hb : ∀ s ∈ b, s.length ≤ 140737488351232) (hla : a.length ≤ 1000000) (hlb : b.length ≤ 1000000) :
    Calls Tryd.prog 10 #[u, v] w (BothPost a b w) := by
  have HU := Lib.hid hu
  have HV := Lib.hid hv
  have HA := Lib.hid ha
  have HBB := Lib.hid hb
  obtain ⟨A, cap, rfl, -⟩ := hu
  obtain ⟨A2, cap2, rfl, -⟩ := hv
  have hmm := @run_makeMap Tryd.prog
  obtain ⟨i0, hi, hz0, hz1, hz2⟩ := info_parts Tryd.infoStr
  clear ha hb
  go_enter Tryd.func10, Tryd.ntmps10
  go_wp2
  obtain ⟨G, hG⟩ : ∃ G, w.heap.size = G := ⟨_, rfl⟩
  have HF0 := Lib.hid (FnAt.made strUnit w G hG.symm)
  have HB0 : Hid (Below G w (w.alloc (.map #[] 0))) := Lib.hid (by rw [← hG]; exact (Below.refl _ w).alloc (Nat.le_refl _) _)
  have HG := Lib.hid hG
  rw [hG]
  clear hmm hG
  go_loopw [16] (fun i wr => ∃ k : Nat, k ≤ b.length ∧ i = .int .i64 k ∧ FnAt strUnit wr G (Pw.setF (b.take k)) ∧ Below G w wr) (fun i _ => b.length - (intOf i).toNat)
  case atStart => exact ⟨0, Nat.zero_le _, rfl, HF0.out.congr (fun s => by simp [Pw.setF]), HB0.out⟩
  case round =>
    obtain ⟨k, hk, rfl, hf, hb⟩ := hrel
    have HB := Lib.hid hb
    have HF := Lib.hid hf
    clear hf hb HF0 HB0
    by_cases hlt : k < b.length
    · have h1 : (k : Int) < (b.length : Int) := by omega
      have h0 : (0 : Int) ≤ (k : Int) := by omega
      obtain ⟨A3, cap3, hv3, hc3⟩ := HV.out.below (by rw [HG.out]; exact HB.out)
      obtain ⟨rfl, rfl⟩ : A2 = A3 ∧ cap2 = cap3 := by simpa using hv3
      obtain ⟨p, rfl, n0⟩ := hc3 k hlt
      have HST := Lib.hid (Pw.setF_step b k hlt)
      have HX := Lib.hid (HBB.out b[k] (List.getElem_mem hlt))
      obtain ⟨x, hx⟩ : ∃ x, b[k] = x := ⟨_, rfl⟩
      rw [hx] at n0 HST HX
      clear hx hv3 hc3
      obtain ⟨w3, hrun, hf3, ho3, hs3⟩ := FnAt.put HF.out Tryd.underlying44 (s := x) HX.out ()
      dsimp only [strUnit] at hrun
      have HF3 := Lib.hid (hf3.congr HST.out)
      have HB3 := Lib.hid (HB.out.trans (ho3.below (fun k hk => Nat.le_of_eq hk.symm) (by have := HB.out.size; have := HG.out; omega)))
      clear hf3 ho3 hs3
      go_wp2
      exact ⟨⟨k + 1, by omega, by go_num, HF3.out, HB3.out⟩, by simp [intOf]; omega⟩
    · have h1 : ¬ ((k : Int) < (b.length : Int)) := by omega
      obtain rfl : k = b.length := by omega
      have hat : BothAt wr G G (.slice none 0 0) b [] := ⟨HF.out.congr (fun s => by simp [Pw.setF, Pw.restF]), Own.nil _ _, Nat.le_refl _⟩
      have HAT := Lib.hid hat
      clear hat hk hlt HF
      go_wp2
      go_loopw [8, 26] (fun s i wr => ∃ (j : Nat) (t : Value), t = s ∧ j ≤ a.length ∧ i = .int .i64 j ∧ BothAt wr G G t b (Pw.uniq (a.take j) b) ∧ Below G w wr) (fun _ i _ => a.length - (intOf i).toNat)
      case atStart => exact ⟨0, _, rfl, Nat.zero_le _, rfl, by simpa [Pw.uniq] using HAT.out, HB.out⟩
      case round =>
        obtain ⟨j, t, rfl, hj, rfl, hat, hb⟩ := hrel
        have HBx := Lib.hid hb
        have HATx := Lib.hid hat
        clear hb hat h1 HAT HB
        by_cases hlt : j < a.length
        · have h1 : (j : Int) < (a.length : Int) := by omega
          have h0 : (0 : Int) ≤ (j : Int) := by omega
          obtain ⟨A3, cap3, hv3, hc3⟩ := HU.out.below (by rw [HG.out]; exact HBx.out)
          obtain ⟨rfl, rfl⟩ : A = A3 ∧ cap = cap3 := by simpa using hv3
          obtain ⟨p, rfl, n0⟩ := hc3 j hlt
          have HS := Lib.hid (Pw.uniq_take a b j hlt)
          have HX := Lib.hid (HA.out a[j] (List.getElem_mem hlt))
          have HLN := Lib.hid (Pw.uniq_length (a.take j) b)
          obtain ⟨x, hx⟩ : ∃ x, a[j] = x := ⟨_, rfl⟩
          obtain ⟨O, hO⟩ : ∃ O, Pw.uniq (a.take j) b = O := ⟨_, rfl⟩
          rw [hx, hO] at HS
          rw [hx] at n0 HX
          rw [hO] at HATx HLN
          have HGS : Hid (G ≤ wr.heap.size) := Lib.hid (by have := HBx.out.size; have := HG.out; omega)
          have HOl : Hid (O.length ≤ 1000000) := Lib.hid (by have := HLN.out; simp at this; omega)
          clear hx hv3 hc3 hO
          have hlook := FnAt.look HATx.out.map Tryd.underlying44 (s := x) HX.out true (zeroU wr)
          by_cases hin : x ∈ b ∧ x ∉ O
          · have hres : Pw.restF b O x = some () := by simp [Pw.restF, hin]
            have HK : Hid (Pw.uniq (a.take (j + 1)) b = O ++ [x]) := Lib.hid (by rw [HS.out, Pw.keepI, if_pos hin])
            rw [hres] at hlook
            have hlook2 : (Instr.lookup 44 (.map (some G)) (.string ⟨x.toArray⟩) true).run Tryd.prog wr = .ok (.tuple #[.agg #[], .bool true]) wr := hlook
            have HCL := Lib.hid (fun w => dclone_any x w HX.out)
            have hbw : Below wr.heap.size wr (wr.alloc (.cells #[] 45)) := (Below.refl _ wr).alloc (Nat.le_refl _) _
            have HBW := Lib.hid hbw
            clear hlook hres hin HS hbw
            go_wp2_with fail
            refine (HCL.out _).mono ?_
            rintro e w2 ⟨rfl, hb2⟩
            have HAT2 := Lib.hid ((HATx.out.below HBW.out).below hb2)
            have HBw2 := Lib.hid ((HBx.out.trans (HBW.out.mono HGS.out)).trans (hb2.mono (Nat.le_trans HGS.out HBW.out.size)))
            clear hb2
            have HGW : Hid (G ≤ w2.heap.size) := Lib.hid (Nat.le_trans (Nat.le_of_eq HG.out.symm) HBw2.out.size)
            have HDR := Lib.hid (fun w3 g' cap' h1 h2 => HAT2.out.dropped (w := w) (w3 := w3) (g' := g') (cap := cap') HBw2.out HG.out HX.out h1 h2)
            go_wp2_with (first | (at_builtin; refine wpList_append_lies _ rfl _ _ _ rfl G 9 i0 (.string ⟨#[]⟩) 1 16 Tryd.underlying23 hi hz0 hz1 hz2 rfl (by decide) t O.length (scells O) (by rfl) (World.ownsRow.alloc HAT2.out.row _) ⟨w2.heap.size, 0, none⟩ 1 1 (scells [x]) (by rfl) rfl (World.news_of_block (heap_new_at _ _ _ rfl)) (by simp [scells, Value.oneCell']) (by decide) (by have := HOl.out; unfold maxLen; omega) (by have := HOl.out; omega) (by have := HGW.out; simp; omega) (w2.heap.size + 1) (by simp) ?_; intro g' cap' w3 hown3 hgrow3 hat3 hlt3) | (at_delete; obtain ⟨w4, hrun, HAT4, HB4⟩ := HDR.out w3 g' cap' hown3 hgrow3; refine wpList_delete_run rfl _ _ _ _ rfl (.map (some G)) (.string ⟨x.toArray⟩) (by rfl) (by rfl) hrun ?_; clear hrun hown3 hgrow3 hat3 hlt3))
            exact ⟨⟨j + 1, _, rfl, by omega, by go_num, by rw [HK.out]; exact HAT4, HB4⟩, by simp [intOf]; omega⟩
          · have hres : Pw.restF b O x = none := by simp [Pw.restF, hin]
            have HK : Hid (Pw.uniq (a.take (j + 1)) b = O) := Lib.hid (by rw [HS.out, Pw.keepI, if_neg hin])
            rw [hres] at hlook
            have hlook2 : (Instr.lookup 44 (.map (some G)) (.string ⟨x.toArray⟩) true).run Tryd.prog wr = .ok (.tuple #[.agg #[], .bool false]) wr := hlook
            have hbw : Below wr.heap.size wr (wr.alloc (.cells #[] 45)) := (Below.refl _ wr).alloc (Nat.le_refl _) _
            have HBW := Lib.hid hbw
            clear hlook hres hin HS hbw
            go_wp2
            exact ⟨⟨j + 1, _, rfl, by omega, by go_num, by rw [HK.out]; exact HATx.out.below HBW.out, HBx.out.trans (HBW.out.mono HGS.out)⟩, by simp [intOf]; omega⟩
        · have h1 : ¬ ((j : Int) < (a.length : Int)) := by omega
          obtain rfl : j = a.length := by omega
          have HLN := Lib.hid (Pw.uniq_length a b)
          have HSO := Lib.hid (sort_any (Pw.uniq a b) t G wr (by have := HATx.out.row; rwa [List.take_length] at this) (by have := HLN.out; omega) (by have := HBx.out.size; have := HG.out; omega))
          clear HATx
          go_wp2_with fail
          refine HSO.out.mono ?_
          rintro e w2 ⟨rfl, hown, hb2⟩
          go_wp2
          go_ret
          exact ⟨t, rfl, by rw [HG.out]; exact hown, by rw [HG.out]; exact HBx.out.trans hb2⟩
end Go.Proofs.YtbjfihbjfoaghaaDoor
