/- ArgItems, SpanSome, SpanHelp, ShaLaid, ArgPages, ArgEnds, ArgShown, ArgUpto, SpanStepCalls, BookBelow, ItemsIn -/
import Derived.Test.YtaficmboooaknaaGreatDoorPk14
import Derived.Deep.Slices
import Derived.DataReads
import Derived.OpenShut
import Derived.SizedLaws
import Derived.Lib.LaidU8
import Derived.Test.YtaficmboooaknaaGreatDoorPk17
import Derived.Deep.RegionHeld3
import Derived.Test.YtaficmboooaknaaGreatDoorPk24
import Derived.Test.YtaficmboooaknaaGreatDoorPk16
import Derived.Test.YtaficmboooaknaaGreatDoorRows
import Derived.Test.YtaficmboooaknaaGreatDoorPk08
import Derived.LaidMore
import Derived.Stop.Joined
import Derived.ProofKit
import Derived.Test.YtaficmboooaknaaGreatDoorPk21
import Derived.Test.YtaficmboooaknaaGreatDoorPk13
import Derived.Test.YtaficmboooaknaaGreatDoorPk02
import Derived.Lib.Strings
import Derived.Test.YtaficmboooaknaaGreatDoorPk15
namespace Go.Proofs.YtaficmboooaknaaGreatDoor
open Go.RowKit Go.ChangeShapes Go.WideShapes
open Sto (T St)

set_option maxRecDepth 100000 in
theorem cellsItem : Tryz.prog.cellsOf 60 = 2 := by kernel_rfl
theorem okWide_slice_at {P : Program} {W : World} {r : Reach} {b0 : Nat} {t e : TypeId} {v : Value} (ht : P.underlying t = some (.slice e)) (h : Value.okWide P W r b0 t v) : v = .slice none 0 0 ∨ ∃ b o len cap, v = .slice (some ⟨b, o, none⟩) len cap ∧ len ≤ cap := by
  obtain ⟨a, len, cap, rfl⟩ := okWide_slice ht h
  simp only [Value.okWide, ht, Cell.okWide, Cell.ok] at h
  cases a with
  | none =>
    left
    cases len <;> cases cap <;> simp_all
  | some a =>
    right
    obtain ⟨h1, _, h2⟩ := h
    obtain ⟨b, o, sp⟩ := a
    have h3 : sp = none := h2.2.1
    subst h3
    exact ⟨b, o, len, cap, rfl, h1⟩
set_option maxRecDepth 100000 in
theorem item_cells {H : Type} {enc : TypeId × Value → H} {W : World} {fuel : Nat} {cs : List Value} {x : DataW H × List MemPlace} (ht : DataW.trod enc Tryz.prog W 0 (fun _ => true) true fuel 60 cs = some x) :
    ∃ s : T × T, cs = itcl s := by
  obtain ⟨ys, n', _, hy, hcl, hyl, hfs⟩ := DataW.trod_struct Tryz.underlying60 ht
  rw [cellsItem] at hcl
  match cs, hcl, ys, hyl with
  | [v0, v1], _, [y0, y1], _ =>
    have g0 := hfs 0 _ rfl
    have g1 := hfs 1 _ rfl
    simp [cellsS] at g0 g1
    obtain ⟨s0, e0, _, _⟩ := DataW.trod_string Tryz.underlying9 g0
    obtain ⟨s1, e1, _, _⟩ := DataW.trod_string Tryz.underlying9 g1
    obtain rfl : v0 = .string s0 := by simpa using e0
    obtain rfl : v1 = .string s1 := by simpa using e1
    exact ⟨(s0.data.toList, s1.data.toList), by simp [itcl]⟩
set_option maxRecDepth 100000 in
theorem items_open {H : Type} {enc : TypeId × Value → H} {W : World} {r : Reach} {b0 : Nat} {v : Value} {d : DataW H} {p : List MemPlace}
    (hv : Value.okWide Tryz.prog W r b0 22 v) (h : DataW.Trod enc Tryz.prog W 0 (fun _ => true) true 22 v d p)
    (hz : ∀ n ∈ d.weights Tryz.prog 22, n ≤ reachBytes) :
    ∃ L, ItIn W v L ∧ L.length * 32 ≤ reachBytes := by
  obtain ⟨fuel, hf⟩ := h
  rcases okWide_slice_at Tryz.underlying22 hv with rfl | ⟨b, o, len, cap, rfl, hlc⟩
  · exact ⟨[], ⟨none, 0, rfl, Nat.le_refl _, fun _ => Or.inl ⟨rfl, rfl⟩, fun h => absurd h (by simp)⟩, by simp⟩
  rcases Go.Deep.open_slice Tryz.underlying22 hf with ⟨hcs, _⟩ | ⟨x, l, c, m, n, D, Pl, hcs, _, hl, hm, hmm, hx, hel⟩
  · simp [Value.cells] at hcs
  · simp [Value.cells] at hcs
    obtain ⟨rfl, rfl, rfl⟩ := hcs
    simp only [if_true] at hmm
    subst hmm
    rw [cellsItem] at hel hx
    obtain ⟨hd, -⟩ := Prod.mk.inj hx
    have hlen32 : len * 32 ≤ reachBytes := by
      have h1 := hz ((((List.range len).map D).length + ((List.range (m - len)).map fun j => D (len + j)).length) * Tryz.prog.bytesOf 60) (by
        rw [hd]; simp [DataW.weights, Tryz.underlying22])
      rw [show Tryz.prog.bytesOf 60 = 32 from by kernel_rfl] at h1
      simp only [List.length_map, List.length_range] at h1
      omega
    have key : ∀ i, i < len → ∃ q : T × T, W.cell? ⟨b, o + i * 2 + 0, none⟩ = some (.string ⟨q.1.toArray⟩) ∧ W.cell? ⟨b, o + i * 2 + 1, none⟩ = some (.string ⟨q.2.toArray⟩) := fun i hi => by
      obtain ⟨cs', hc, ht⟩ := hel i (by omega)
      obtain ⟨_, _, hat⟩ := World.cells?_some hc
      obtain ⟨q, rfl⟩ := item_cells ht
      have q0 := hat 0 (by omega)
      have q1 := hat 1 (by omega)
      rw [Addr.add_mid, Addr.add_mid] at q0 q1
      exact ⟨q, by simpa [itcl] using q0, by simpa [itcl] using q1⟩
    obtain ⟨f, hf⟩ := Go.Deep.choose_lt (fun i hi => key i hi)
    have hlen : ((List.range len).map f).length = len := by simp
    refine ⟨(List.range len).map f, ⟨some ⟨b, o, none⟩, _, by rw [hlen], by rw [hlen]; exact hlc, fun _ => Or.inr ⟨b, o, rfl⟩, fun h0 => ?_⟩, by rw [hlen]; exact hlen32⟩
    rw [hlen] at h0
    obtain ⟨q0, _⟩ := hf 0 h0
    refine ⟨b, o, rfl, block_lt_of_cell q0, fun i hi j u hu => ?_⟩
    rw [hlen] at hi
    obtain ⟨q0, q1⟩ := hf i hi
    have e : ((List.range len).map f)[i]'(by rw [hlen]; exact hi) = f i := by simp
    rw [e] at hu
    match j, hu with
    | 0, hu => simp [itcl] at hu; subst hu; exact q0
    | 1, hu => simp [itcl] at hu; subst hu; exact q1
    | j + 2, hu => simp [itcl] at hu
end Go.Proofs.YtaficmboooaknaaGreatDoor
namespace Go.Proofs.YtaficmboooaknaaGreatDoor
open Go.RowKit
open Sto (T St)

def Spn.someS (L : St) : St := (L.take 30).foldl Prf.stepS []
def SSomePost (L : St) (w : World) (e : Ending) (w' : World) : Prop :=
  ∃ g z, e = .returned (.tuple #[.pointer (some ⟨g, 0, none⟩), z]) ∧ TrAt w' g (Spn.someS L) ∧ ItAt w' z (Spn.someS L) ∧ Below w.heap.size w w'
theorem sputL_good {S : St} {x y : T} (h : Tri.putC S x y = 0) : Tri.putL S x y = Tri.put S x y := by unfold Tri.putL; rw [if_pos h]
set_option maxRecDepth 100000 in
set_option maxHeartbeats 4000000 in
theorem ssome_any (L : St) (v : Value) (w : World) (hv : ItIn w v L) (hT : Tab w) :
    Calls Tryz.prog 11 #[v] w (SSomePost L w) := by
  have HV := Lib.hid hv
  have HT := Lib.hid hT
  have HNW := Lib.hid (tnew_any w)
  unfold ptr at HNW
  obtain ⟨A, cap, rfl, -, -⟩ := hv.form
  clear hv hT
  go_enter Tryz.func11, Tryz.ntmps11
  go_wp2_with fail
  refine HNW.out.mono ?_
  rintro e w1 ⟨g0, rfl, ht0, -, hb1⟩
  have HB1 := Lib.hid hb1
  have H0 := Lib.hid ht0
  clear ht0 hb1
  go_wp2
  go_loopw [4, 5, 6] (fun av zv iv wr => ∃ (k : Nat) (gk : Nat) (zz : Value), zz = zv ∧ av = .pointer (some ⟨gk, 0, none⟩) ∧ k ≤ L.length ∧ k ≤ 30 ∧ iv = .int .i64 k ∧ TrAt wr gk ((L.take k).foldl Prf.stepS []) ∧ ItAt wr zz ((L.take k).foldl Prf.stepS []) ∧ Below w.heap.size w wr) (fun _ _ i _ => 30 - (intOf i).toNat)
  case atStart => exact ⟨0, g0, _, rfl, rfl, Nat.zero_le _, Nat.zero_le _, rfl, H0.out, RowsAt.nil .., HB1.out⟩
  case round =>
    obtain ⟨k, gk, zz, rfl, rfl, hk, hk30, rfl, htr, hit, hb⟩ := hrel
    have HB := Lib.hid hb
    have HTR := Lib.hid htr
    have HIT := Lib.hid hit
    have h0 : (0 : Int) ≤ (k : Int) := by omega
    have hnb : (k : Int) ≤ 100 := by omega
    by_cases hlt : k < L.length
    case neg =>
      obtain rfl : k = L.length := by omega
      have h1 : ¬ ((L.length : Int) < (L.length : Int)) := by omega
      have h1d : decide ((L.length : Int) < (L.length : Int)) = false := decide_eq_false h1
      have HS : Hid ((L.take L.length).foldl Prf.stepS [] = Spn.someS L) := Lib.hid (by unfold Spn.someS; rw [List.take_length, List.take_of_length_le hk30])
      rw [HS.out] at HTR HIT
      clear htr hit hb
      go_wp2
      go_ret2
      exact ⟨gk, _, rfl, HTR.out, HIT.out, HB.out⟩
    by_cases hl30 : k < 30
    case neg =>
      obtain rfl : k = 30 := by omega
      have h1 : ((30 : Nat) : Int) < (L.length : Int) := by omega
      have h1d : decide (((30 : Nat) : Int) < (L.length : Int)) = true := decide_eq_true h1
      have h2 : ((30 : Int)) < (L.length : Int) := by omega
      have h2d : decide (((30 : Int)) < (L.length : Int)) = true := decide_eq_true h2
      have HS : Hid ((L.take 30).foldl Prf.stepS [] = Spn.someS L) := Lib.hid rfl
      rw [HS.out] at HTR HIT
      clear htr hit hb
      go_wp2
      go_ret2
      exact ⟨gk, _, rfl, HTR.out, HIT.out, HB.out⟩
    have h1 : (k : Int) < (L.length : Int) := by omega
    have h1d : decide ((k : Int) < (L.length : Int)) = true := decide_eq_true h1
    have h2 : (k : Int) < 30 := by omega
    have h2d : decide ((k : Int) < 30) = true := decide_eq_true h2
    have HST := Lib.hid (Prf.some_step L k hlt)
    obtain ⟨b, o, rfl, n0, n1⟩ := ItIn.at (RowsIn.below HV.out hb) k hlt
    obtain ⟨⟨x, y⟩, hxy⟩ : ∃ m, L[k] = m := ⟨_, rfl⟩
    rw [hxy] at n0 n1 HST
    dsimp only at n0 n1
    obtain ⟨S, hS⟩ : ∃ S, (L.take k).foldl Prf.stepS [] = S := ⟨_, rfl⟩
    rw [hS] at HTR HIT HST
    have hSl : S.length ≤ 10000 := by
      obtain ⟨_, t, _, _, ht⟩ := HTR.out
      have := ht.few
      omega
    have HCW : Hid (∀ w', Below wr.heap.size wr w' → w'.cell? ⟨b, o + k * 2, none⟩ = some (.string ⟨x.toArray⟩) ∧ w'.cell? ⟨b, o + k * 2 + 1, none⟩ = some (.string ⟨y.toArray⟩)) := Lib.hid (fun w' h => ⟨(h.cell (World.block_lt_of_cell? _ _ n0)).trans n0, (h.cell (World.block_lt_of_cell? _ _ n1)).trans n1⟩)
    have HPU : Hid (∀ w', Below wr.heap.size wr w' → Calls Tryz.prog 34 #[.pointer (some ⟨gk, 0, none⟩), .string ⟨x.toArray⟩, .string ⟨y.toArray⟩] w' fun e w'' => ∃ z, e = .returned (.tuple #[z, .int .i64 (Tri.putC S x y)]) ∧ (Tri.putC S x y = 0 → ∃ g', z = .pointer (some ⟨g', 0, none⟩) ∧ TrAt w'' g' (Tri.put S x y)) ∧ Below wr.heap.size wr w'') := Lib.hid (fun w' hb' =>
      (tput_any x y w' (HTR.out.below hb') (HT.out.below (bchain HB.out hb'))).mono fun e w'' ⟨z, q1, q2, q3, q4⟩ => ⟨z, q1, q2, bchain hb' q4⟩)
    have HRP : Hid (∀ w', Below wr.heap.size wr w' → Calls Tryz.prog 33 #[zz, .string ⟨x.toArray⟩, .string ⟨y.toArray⟩] w' fun e w'' => ∃ z, e = .returned (.tuple #[z, .int .i64 (Tri.putC S x y)]) ∧ ItAt w'' z (Tri.putL S x y) ∧ Below wr.heap.size wr w'') := Lib.hid (fun w' hb' =>
      (rtPut_all S zz x y w' (RowsAt.below HIT.out hb') hSl).mono fun e w'' ⟨z, q1, q2, q3⟩ => ⟨z, q1, q2, bchain hb' q3⟩)
    have HBW : Hid (∀ w', Below wr.heap.size wr w' → Below w.heap.size w w') := Lib.hid (fun w' hb' => bchain HB.out hb')
    have HPL := Lib.hid (fun h => sputL_good (S := S) (x := x) (y := y) h)
    have HSP : Hid (Prf.stepS S (x, y) = if Tri.putC S x y = 0 then Tri.put S x y else S) := Lib.hid rfl
    rw [HSP.out] at HST
    obtain ⟨c, hc⟩ : ∃ c, Tri.putC S x y = c := ⟨_, rfl⟩
    have HC0 := Lib.hid hc
    rw [hc] at HPU HRP HPL HST
    have BD : Below wr.heap.size wr wr.drew := (Below.refl _ _).drew
    obtain ⟨d0, d1⟩ := HCW.out _ BD
    clear htr hit hb hxy hS hc hSl n0 n1 HSP
    go_upto_region 6 with fail
    go_cut [7, 8] from 20 to 34 (fun nv cv wx => ∃ z : Value, z = nv ∧ cv = .int .i64 c ∧ ItAt wx z (Tri.putL S x y) ∧ Below wr.heap.size wr wx)
    case first =>
      go_region_held3 (fun w' => w'.cell? ⟨b, o + k * 2, none⟩ = some (.string ⟨x.toArray⟩) ∧ w'.cell? ⟨b, o + k * 2 + 1, none⟩ = some (.string ⟨y.toArray⟩))
        ((first | (with_reducible assumption) | (refine (HCW.out _ ?_); with_reducible assumption)))
        (first | (go_at_call 33; refine (HRP.out _ ?_).mono ?_; (with_reducible assumption); rintro e w6 ⟨z1, rfl, hz1, hb6⟩))
      all_goals
        go_wp2_with fail
        go_meet
        exact ⟨_, rfl, rfl, hz1, hb6⟩
    case rest =>
      obtain ⟨z, rfl, rfl, hit2, hb2⟩ := hcut
      obtain ⟨wx, rfl⟩ : ∃ y, y = wc := ⟨_, rfl⟩
      have HI2 := Lib.hid hit2
      have HB2 := Lib.hid hb2
      have BX : Below wx.heap.size wx wx.drew := (Below.refl _ _).drew
      have HCX : Hid (∀ w', Below wx.heap.size wx w' → w'.cell? ⟨b, o + k * 2, none⟩ = some (.string ⟨x.toArray⟩) ∧ w'.cell? ⟨b, o + k * 2 + 1, none⟩ = some (.string ⟨y.toArray⟩)) := Lib.hid (fun w' h => HCW.out w' (bchain HB2.out h))
      obtain ⟨d0, d1⟩ := HCX.out _ BX
      clear hit2 hb2 BD
      by_cases hc : c = 0
      case neg =>
        have e0 : ((c : Int) != 0) = true := by rw [bne_iff_ne]; omega
        have e1 : ((c : Int) == 0) = false := by rw [beq_eq_false_iff_ne]; omega
        rw [if_neg hc] at HST
        clear hc BX d0 d1
        go_wp2
        refine ⟨⟨k + 1, gk, _, rfl, rfl, by omega, by omega, by go_num, ?_, ?_, HBW.out _ HB2.out⟩, by simp [intOf]; omega⟩
        · rw [HST.out]; exact HTR.out.below HB2.out
        · rw [HST.out]; exact RowsAt.below HIT.out HB2.out
      subst hc
      rw [if_pos rfl] at HST
      have HPX : Hid (∀ w', Below wx.heap.size wx w' → Calls Tryz.prog 34 #[.pointer (some ⟨gk, 0, none⟩), .string ⟨x.toArray⟩, .string ⟨y.toArray⟩] w' fun e w'' => ∃ g', e = .returned (.tuple #[.pointer (some ⟨g', 0, none⟩), .int .i64 0]) ∧ TrAt w'' g' (Tri.put S x y) ∧ Below wx.heap.size wx w'') := Lib.hid (fun w' hb' =>
        (tput_any x y w' (HTR.out.below (bchain HB2.out hb')) (HT.out.below (HBW.out _ (bchain HB2.out hb')))).mono fun e w'' ⟨z, q1, q2, q3, q4⟩ => by
          rw [HC0.out] at q1 q2
          obtain ⟨g', rfl, h⟩ := q2 rfl
          exact ⟨g', q1, h, bchain hb' q4⟩)
      have HI3 : Hid (ItAt wx z (Tri.put S x y)) := Lib.hid (by rw [← HPL.out rfl]; exact HI2.out)
      clear HPU HI2 HPL HRP
      go_upto_region 9 with fail
      go_region_held3 (fun w' => w'.cell? ⟨b, o + k * 2, none⟩ = some (.string ⟨x.toArray⟩) ∧ w'.cell? ⟨b, o + k * 2 + 1, none⟩ = some (.string ⟨y.toArray⟩))
        ((first | (with_reducible assumption) | (refine (HCX.out _ ?_); with_reducible assumption)))
        (first | (go_at_call 34; refine (HPX.out _ ?_).mono ?_; (with_reducible assumption); rintro e w7 ⟨g', rfl, ht7, hb7⟩))
      all_goals
        have HT7 := Lib.hid ht7
        have HB7 := Lib.hid hb7
        clear ht7 hb7
        go_wp2
        refine ⟨⟨k + 1, g', _, rfl, rfl, by omega, by omega, by go_num, ?_, ?_, HBW.out _ (bchain HB2.out HB7.out)⟩, by simp [intOf]; omega⟩
        · rw [HST.out]; exact HT7.out
        · rw [HST.out]; exact RowsAt.below HI3.out HB7.out
end Go.Proofs.YtaficmboooaknaaGreatDoor
namespace Go.Proofs.YtaficmboooaknaaGreatDoor
open Go.RowKit
open Sto (T St)

/-- A range in block q. -/
def EndsAt (w : World) (q : Nat) (f e : T) (m : Int) : Prop := w.heap[q]? = some (.cells #[.string ⟨f.toArray⟩, .string ⟨e.toArray⟩, .int .i64 m] 24 (0, 0))
theorem EndsAt.below {w w' : World} {q : Nat} {f e : T} {m : Int} (h : EndsAt w q f e m) (hb : Below w.heap.size w w') : EndsAt w' q f e m := (hb.block q (lt_of_heap h)).trans h
theorem EndsAt.cells {w : World} {q : Nat} {f e : T} {m : Int} (h : EndsAt w q f e m) : w.cell? ⟨q, 0, none⟩ = some (.string ⟨f.toArray⟩) ∧ w.cell? ⟨q, 1, none⟩ = some (.string ⟨e.toArray⟩) ∧ w.cell? ⟨q, 2, none⟩ = some (.int .i64 m) :=
  ⟨by rw [cell_of_row _ _ 0 _ _ _ h]; rfl, by rw [cell_of_row _ _ 1 _ _ _ h]; rfl, by rw [cell_of_row _ _ 2 _ _ _ h]; rfl⟩
/-- A page in block q. -/
def PageAt (w : World) (q : Nat) (zi : Value) (x : T) (zn : Value) : Prop := w.heap[q]? = some (.cells #[zi, .string ⟨x.toArray⟩, zn] 31 (0, 0))
theorem PageAt.below {w w' : World} {q : Nat} {zi zn : Value} {x : T} (h : PageAt w q zi x zn) (hb : Below w.heap.size w w') : PageAt w' q zi x zn := (hb.block q (lt_of_heap h)).trans h
theorem PageAt.cells {w : World} {q : Nat} {zi zn : Value} {x : T} (h : PageAt w q zi x zn) : w.cell? ⟨q, 0, none⟩ = some zi ∧ w.cell? ⟨q, 1, none⟩ = some (.string ⟨x.toArray⟩) ∧ w.cell? ⟨q, 2, none⟩ = some zn :=
  ⟨by rw [cell_of_row _ _ 0 _ _ _ h]; rfl, by rw [cell_of_row _ _ 1 _ _ _ h]; rfl, by rw [cell_of_row _ _ 2 _ _ _ h]; rfl⟩
theorem own_low {w : World} {B B' : Nat} {s : Value} {L : List T} (h : Own w B s L) (hB : B' ≤ B) : Own w B' s L :=
  ⟨h.1, h.2.imp id fun ⟨g, cap, cur, a, b, c⟩ => ⟨g, cap, cur, a, Nat.le_trans hB b, c⟩⟩
theorem page_row {S : St} {f e : T} {m : Int} (hm : 1 ≤ m ∧ m ≤ 16) : (Scn.pageR S f e m).1 = (Scn.allR S f e).take m.toNat ∧ (Scn.pageR S f e m).2.2 = 0 := by
  unfold Scn.pageR
  rw [if_pos hm]
  split
  next h => exact ⟨(List.take_of_length_le h).symm, rfl⟩
  next h => exact ⟨rfl, rfl⟩
theorem page_next {S : St} {t : Tri.Tr} (h : TrS S t) (f e : T) {m : Int} (hm : 1 ≤ m ∧ m ≤ 16) : ((Scn.pageR S f e m).2.1 = [] ↔ ¬ m.toNat < (Scn.allR S f e).length) := by
  rcases Spn.page_reach h f e hm with ⟨h1, _, h3⟩ | ⟨h1, _, h3, _⟩
  · exact ⟨fun _ => by omega, fun _ => h1⟩
  · exact ⟨fun q => absurd q h1, fun q => absurd h3 q⟩
theorem pnodes_ok {S : St} {f e : T} {m : Int} (hm : 1 ≤ m ∧ m ≤ 16) : pnodes S f e m = coverS S f (Spn.upTo (Scn.pageR S f e m).2.1 e) := by
  unfold pnodes; rw [if_pos hm]
theorem verify_page {S : St} {t : Tri.Tr} (h : TrS S t) (f e : T) {m : Int} (hm : 1 ≤ m ∧ m ≤ 16) : Spn.verifyP (rootS S) f e m (Scn.pageR S f e m).1 (Scn.pageR S f e m).2.1 (pnodes S f e m) = ((Scn.pageR S f e m).1, (Scn.pageR S f e m).2.1, 0) := by
  rw [pnodes_ok hm]; exact Spn.verify_whole h f e hm
theorem Spn.stepS_len (S : St) (x : T × T) : (Prf.stepS S x).length ≤ S.length + 1 := by
  unfold Prf.stepS
  split
  · rw [Tri.put_len]; split <;> omega
  · omega
theorem Spn.fold_len : ∀ (L S : St), (L.foldl Prf.stepS S).length ≤ S.length + L.length := by
  intro L
  induction L with
  | nil => intro S; exact Nat.le_refl _
  | cons x r ih =>
    intro S
    have h1 := ih (Prf.stepS S x)
    have h2 := Spn.stepS_len S x
    simp only [List.foldl_cons, List.length_cons]
    omega
theorem Spn.someS_len (L : St) : (Spn.someS L).length ≤ 30 := by
  have h := Spn.fold_len (L.take 30) []
  unfold Spn.someS
  simp only [List.length_nil, List.length_take] at h
  omega
theorem page_next_short (S : St) (f e : T) (m : Int) : (Scn.pageR S f e m).2.1.length ≤ 8 := by
  unfold Scn.pageR
  split
  · split
    · simp
    · exact behind_short _
  · simp
theorem page_nodes_ne {S : St} {t : Tri.Tr} (h : TrS S t) (hr : rootS S ≠ []) (f e : T) {m : Int} (hm : 1 ≤ m ∧ m ≤ 16) : pnodes S f e m ≠ [] := fun h0 => by
  have h1 := verify_page h f e hm
  rw [h0] at h1
  obtain ⟨_, _, _, _, hc⟩ := Spn.verify_ok (by rw [h1])
  rcases hc with ⟨q, _⟩ | ⟨_, hg⟩
  · exact hr q
  · rw [Spn.gather_none (Spn.in_root _ _)] at hg
    cases hg
/-- A copy of a list with one text behind it. -/
theorem one_more {w : World} {u : Value} {P : List T} (hu : Strs w u P) (hl : P.length ≤ 100000) :
    ∃ v1 w1 v2 w2, (Builtin.append_ #[29, 29] 29 #[.slice (some ⟨w.heap.size, 0, none⟩) 0 0, u]).run Tryz.prog (w.alloc (.cells #[] 9)) = .ok v1 w1 ∧
      (Builtin.append_ #[29, 29] 29 #[v1, .slice (some ⟨w1.heap.size, 0, none⟩) 1 1]).run Tryz.prog (w1.alloc (.cells #[.string ⟨#[]⟩] 9)) = .ok v2 w2 ∧ Own w2 w.heap.size v2 (P ++ [[]]) ∧ Below w.heap.size w w2 := by
  have hA : Below w.heap.size w (w.alloc (.cells #[] 9)) := (Below.refl _ w).alloc (Nat.le_refl _) _
  have h0 : (w.alloc (.cells #[] 9)).ownsRow w.heap.size 9 1 (.slice (some ⟨w.heap.size, 0, none⟩) 0 0) 0 [] :=
    ⟨rfl, Or.inr ⟨w.heap.size, 0, #[], rfl, Nat.le_refl _, heap_new_at _ _ _ rfl, Nat.le_refl _, Nat.zero_le _, rfl, rfl⟩⟩
  obtain ⟨v1, w1, r1, o1, g1, _⟩ := append_strs (hu.below hA) h0 (by omega) (by simp)
  rw [Nat.zero_add, List.nil_append] at o1
  have b1 : Below w.heap.size w w1 := own_grown (Nat.le_refl _) h0 hA (Below.refl _ _) g1 o1
  obtain ⟨g, c, w2, r2, o2, b2⟩ := app_one (w := w1) (B := w.heap.size) (L := P) [] o1 (by omega) b1.size
  exact ⟨v1, w1, _, w2, r1, r2, o2, b1.trans b2⟩
end Go.Proofs.YtaficmboooaknaaGreatDoor
namespace Go.Proofs.YtaficmboooaknaaGreatDoor
open Go.ChangeShapes Go.WideShapes Go.ChangeAt Go.RowKit

theorem gK : Tryz.prog.globalNamed "pharos/sha.constants" = some 0 := by kernel_rfl
theorem tK : (Tryz.prog.globals[0]?).map (·.type) = some 224 := by kernel_rfl
theorem cK : Tryz.prog.cellsOf 224 = 64 := by kernel_rfl
theorem cW : Tryz.prog.cellsOf 172 = 1 := by kernel_rfl
def laidK : List (String × DataW Unit) := [("pharos/sha.constants", Rows.laid_pharos_sha_constants)]
theorem tab_of_laid {W : World} (h : laidMetH Tryz.prog laidK W) : Tab W := by
  rw [MakeChecks.laidMetH_plain _ _ _ (by kernel_rfl)] at h
  obtain ⟨g, t, cs, fuel, p, hg, hty, hvar, hd⟩ := Lib.laidMet.reads h (.head _)
  obtain rfl := Option.some.inj (gK.symm.trans hg)
  obtain rfl := Option.some.inj (tK.symm.trans hty)
  have hd' : DataW.trod (fun _ => ()) Tryz.prog W 0 (fun _ => true) false fuel 224 cs.toList = some (Lib.tabData .u32 Sha.kTab, p) := hd
  have hcs := Lib.cells_of_tab Tryz.underlying224 Tryz.underlying172 cW cK hd'
  intro i hi
  have hk : i < Sha.kTab.length := hi
  rw [World.var?_cell hg hvar i, ← Array.getElem?_toList, hcs]
  simp [hk]
/-- The door's own heap meets the condition. -/
theorem door_met (os : Os) (args : Array Value) : laidMetH Tryz.prog laidK ((World.doorLaid Tryz.prog 400 os).forCall (fun _ _ => 0) ⟨#[], args, []⟩).memory :=
  laidMetH_of_parts3 (fuel := 8) (laidMet_of_run' 8 (by kernel_rfl) (by kernel_rfl)) (by kernel_rfl) (by kernel_rfl)
end Go.Proofs.YtaficmboooaknaaGreatDoor
namespace Go.Proofs.YtaficmboooaknaaGreatDoor
open Go.RowKit Go.ChangeShapes Go.WideShapes
open Sto (T St)

set_option maxRecDepth 100000 in
theorem cellsPgS : Tryz.prog.cellsOf 9 = 1 := by kernel_rfl
set_option maxRecDepth 100000 in
theorem cellsPgI : Tryz.prog.cellsOf 22 = 1 := by kernel_rfl
set_option maxRecDepth 100000 in
theorem cellsPgN : Tryz.prog.cellsOf 29 = 1 := by kernel_rfl
set_option maxRecDepth 100000 in
theorem cellsPg : Tryz.prog.cellsOf 31 = 3 := by kernel_rfl
set_option maxRecDepth 100000 in
theorem typesPg : Tryz.prog.cellTypes Tryz.prog.depth 31 = some [22, 9, 29] := by kernel_rfl
theorem cell_slice_at {P : Program} {W : World} {r : Reach} {b0 : Nat} {t e : TypeId} {v : Value} (ht : P.underlying t = some (.slice e)) (h : Cell.okWide P W r b0 t v) : v = .slice none 0 0 ∨ ∃ b o len cap, v = .slice (some ⟨b, o, none⟩) len cap ∧ len ≤ cap := by
  simp only [Cell.okWide, ht, Cell.ok] at h
  cases v with
  | slice a len cap =>
    cases a with
    | none =>
      left
      cases len <;> cases cap <;> simp_all
    | some a =>
      right
      obtain ⟨h1, _, h2⟩ := h
      obtain ⟨b, o, sp⟩ := a
      have h3 : sp = none := h2.2.1
      subst h3
      exact ⟨b, o, len, cap, rfl, h1⟩
  | _ => simp_all
set_option maxRecDepth 100000 in
theorem itemsI_trod {H : Type} {enc : TypeId × Value → H} {W : World} {r : Reach} {b0 fuel : Nat} {v : Value} {z : DataW H × List MemPlace}
    (hv : Cell.okWide Tryz.prog W r b0 22 v) (hf : DataW.trod enc Tryz.prog W 0 (fun _ => true) true fuel 22 [v] = some z) :
    ∃ L, ItIn W v L ∧ L.length ≤ maxLen := by
  rcases cell_slice_at Tryz.underlying22 hv with rfl | ⟨b, o, len, cap, rfl, hlc⟩
  · exact ⟨[], ⟨none, 0, rfl, Nat.le_refl _, fun _ => Or.inl ⟨rfl, rfl⟩, fun h => absurd h (by simp)⟩, by simp⟩
  rcases Go.Deep.open_slice Tryz.underlying22 hf with ⟨hcs, _⟩ | ⟨x, l, c, m, n, D, Pl, hcs, _, hl, hm, hmm, hx, hel⟩
  · simp at hcs
  · obtain ⟨hx0, rfl, rfl⟩ : (⟨b, o, none⟩ : Addr) = x ∧ len = l ∧ cap = c := by simpa using hcs
    subst hx0
    simp only [if_true] at hmm
    subst hmm
    rw [cellsItem] at hel
    have key : ∀ i, i < len → ∃ q : T × T, W.cell? ⟨b, o + i * 2 + 0, none⟩ = some (.string ⟨q.1.toArray⟩) ∧ W.cell? ⟨b, o + i * 2 + 1, none⟩ = some (.string ⟨q.2.toArray⟩) := fun i hi => by
      obtain ⟨cs', hc, ht⟩ := hel i (by omega)
      obtain ⟨_, _, hat⟩ := World.cells?_some hc
      obtain ⟨q, rfl⟩ := item_cells ht
      have q0 := hat 0 (by omega)
      have q1 := hat 1 (by omega)
      rw [Addr.add_mid, Addr.add_mid] at q0 q1
      exact ⟨q, by simpa [itcl] using q0, by simpa [itcl] using q1⟩
    obtain ⟨f, hf⟩ := Go.Deep.choose_lt (fun i hi => key i hi)
    have hlen : ((List.range len).map f).length = len := by simp
    refine ⟨(List.range len).map f, ⟨some ⟨b, o, none⟩, _, by rw [hlen], by rw [hlen]; exact hlc, fun _ => Or.inr ⟨b, o, rfl⟩, fun h0 => ?_⟩, by rw [hlen]; omega⟩
    rw [hlen] at h0
    obtain ⟨q0, _⟩ := hf 0 h0
    refine ⟨b, o, rfl, block_lt_of_cell q0, fun i hi j u hu => ?_⟩
    rw [hlen] at hi
    obtain ⟨q0, q1⟩ := hf i hi
    have e : ((List.range len).map f)[i]'(by rw [hlen]; exact hi) = f i := by simp
    rw [e] at hu
    match j, hu with
    | 0, hu => simp [itcl] at hu; subst hu; exact q0
    | 1, hu => simp [itcl] at hu; subst hu; exact q1
    | j + 2, hu => simp [itcl] at hu
set_option maxRecDepth 100000 in
theorem strsC_trod {H : Type} {enc : TypeId × Value → H} {W : World} {fuel : Nat} {v : Value} {z : DataW H × List MemPlace}
    (hf : DataW.trod enc Tryz.prog W 0 (fun _ => true) true fuel 29 [v] = some z) :
    ∃ L, StrsC W v L ∧ L.length ≤ maxLen := by
  rcases open_strings Tryz.underlying29 Tryz.underlying9 (by kernel_rfl) hf with ⟨hcs, _⟩ | ⟨x, len, cap, ss, hcs, _, hl, hm, hz, _, hcell, hws⟩
  · obtain rfl : v = .slice none 0 0 := by simpa using hcs
    exact ⟨[], StrsC.nil W none 0, Nat.zero_le _⟩
  · obtain rfl : v = .slice (some x) len cap := by simpa using hcs
    simp only [if_true] at hz
    have hlen : ((ss.take len).map (·.data.toList)).length = len := by simp; omega
    refine ⟨(ss.take len).map (·.data.toList), ⟨some x, cap, by rw [hlen], by rw [hlen]; exact hl, fun i hi => ⟨x, rfl, ?_⟩⟩, by omega⟩
    rw [hlen] at hi
    rw [hcell i (by omega)]
    simp [List.getD, List.getElem?_eq_getElem (show i < ss.length by omega)]
/-- The cells of a struct that came in. -/
theorem okWide_cells {P : Program} {W : World} {r : Reach} {b0 : Nat} {t : TypeId} {fs : Array Field} {cs : Array Value} {ts : List TypeId} (ht : P.underlying t = some (.struct fs)) (hts : P.cellTypes P.depth t = some ts) (h : Value.okWide P W r b0 t (.agg cs)) :
    ∀ i v, cs[i]? = some v → ∃ u, ts[i % ts.length]? = some u ∧ Cell.okWide P W r b0 u v := by
  simp only [Value.okWide, ht] at h
  obtain ⟨cs', h1, _, ts', h3, _, h4⟩ := h
  obtain rfl : cs = cs' := by simpa using h1
  rw [hts] at h3
  obtain rfl : ts = ts' := Option.some.inj h3
  exact h4
set_option maxRecDepth 100000 in
/-- A page that came in. -/
theorem page_open {H : Type} {enc : TypeId × Value → H} {W : World} {r : Reach} {b0 : Nat} {v : Value} {d : DataW H} {p : List MemPlace}
    (hv : Value.okWide Tryz.prog W r b0 31 v) (h : DataW.Trod enc Tryz.prog W 0 (fun _ => true) true 31 v d p) :
    ∃ (zi : Value) (I : St) (x : T) (zn : Value) (L : List T), v = .agg #[zi, .string ⟨x.toArray⟩, zn] ∧ ItIn W zi I ∧ I.length ≤ maxLen ∧ StrsC W zn L ∧ L.length ≤ maxLen := by
  obtain ⟨cs, rfl, _⟩ := okWide_struct Tryz.underlying31 hv
  have hcells := okWide_cells Tryz.underlying31 typesPg hv
  obtain ⟨fuel, hf⟩ := h
  obtain ⟨ys, n', _, hy, hcl, hyl, hfs⟩ := DataW.trod_struct Tryz.underlying31 hf
  rw [cellsPg] at hcl
  obtain ⟨l⟩ := cs
  change l.length = 3 at hcl
  match l, hcl, ys, hyl with
  | [v0, v1, v2], _, [y0, y1, y2], _ =>
    have g0 := hfs 0 _ rfl
    have g1 := hfs 1 _ rfl
    have g2 := hfs 2 _ rfl
    simp [cellsPgI, cellsPgS, cellsPgN, Value.cells] at g0 g1 g2
    obtain ⟨u, hu, hok⟩ := hcells 0 v0 rfl
    obtain rfl : u = 22 := by simpa using hu.symm
    obtain ⟨I, hI, hIl⟩ := itemsI_trod hok g0
    obtain ⟨s1, e1, _, _⟩ := DataW.trod_string Tryz.underlying9 g1
    obtain rfl : v1 = .string s1 := by simpa using e1
    obtain ⟨L, hL, hLl⟩ := strsC_trod g2
    exact ⟨v0, I, s1.data.toList, v2, L, by simp, hI, hIl, hL, hLl⟩
end Go.Proofs.YtaficmboooaknaaGreatDoor
namespace Go.Proofs.YtaficmboooaknaaGreatDoor
open Go.RowKit Go.ChangeShapes Go.WideShapes
open Sto (T St)

set_option maxRecDepth 100000 in
theorem cellsEnM : Tryz.prog.cellsOf 3 = 1 := by kernel_rfl
set_option maxRecDepth 100000 in
theorem cellsEn : Tryz.prog.cellsOf 24 = 3 := by kernel_rfl
set_option maxRecDepth 100000 in
theorem ends_open {H : Type} {enc : TypeId × Value → H} {W : World} {r : Reach} {b0 : Nat} {v : Value} {d : DataW H} {p : List MemPlace}
    (hv : Value.okWide Tryz.prog W r b0 24 v) (h : DataW.Trod enc Tryz.prog W 0 (fun _ => true) true 24 v d p) :
    ∃ (f e : T) (m : Int), v = .agg #[.string ⟨f.toArray⟩, .string ⟨e.toArray⟩, .int .i64 m] ∧ (Lit.int .i64 m).wf = true := by
  obtain ⟨cs, rfl, _⟩ := okWide_struct Tryz.underlying24 hv
  obtain ⟨fuel, hf⟩ := h
  obtain ⟨ys, n', _, hy, hcl, hyl, hfs⟩ := DataW.trod_struct Tryz.underlying24 hf
  rw [cellsEn] at hcl
  obtain ⟨l⟩ := cs
  change l.length = 3 at hcl
  match l, hcl, ys, hyl with
  | [v0, v1, v2], _, [y0, y1, y2], _ =>
    have g0 := hfs 0 _ rfl
    have g1 := hfs 1 _ rfl
    have g2 := hfs 2 _ rfl
    simp [cellsPgS, cellsEnM, Value.cells] at g0 g1 g2
    obtain ⟨s0, e0, _, _⟩ := DataW.trod_string Tryz.underlying9 g0
    obtain rfl : v0 = .string s0 := by simpa using e0
    obtain ⟨s1, e1, _, _⟩ := DataW.trod_string Tryz.underlying9 g1
    obtain rfl : v1 = .string s1 := by simpa using e1
    obtain ⟨t, e2, _, wf⟩ := DataW.trod_int Tryz.underlying3 g2
    obtain rfl : v2 = .int .i64 t := by simpa using e2
    exact ⟨s0.data.toList, s1.data.toList, t, by simp, wf⟩
end Go.Proofs.YtaficmboooaknaaGreatDoor
namespace Go.Proofs.YtaficmboooaknaaGreatDoor
open Go.RowKit Go.ChangeShapes Go.WideShapes
open Sto (T St)

end Go.Proofs.YtaficmboooaknaaGreatDoor
namespace Go.Proofs.YtaficmboooaknaaGreatDoor
open Go.RowKit Go.ChangeShapes Go.WideShapes
open Sto (T St)

theorem bulk_bound {H : Type} {l : List (DataW H)} (hk : Rows.uptoSmall H l = true) : Rows.uptoBulkAll l ≤ 1048576 := of_decide_eq_true hk
theorem bulk_part {H : Type} {d : DataW H} {l : List (DataW H)} (h : d ∈ l) : Rows.uptoBulk d ≤ Rows.uptoBulkAll l := by
  induction l with
  | nil => cases h
  | cons x r ih =>
    simp only [Rows.uptoBulkAll]
    cases List.mem_cons.1 h with
    | inl e => subst e; omega
    | inr e => have := ih e; omega
theorem bulk_string {H : Type} (bytes : List UInt8) : Rows.uptoBulk (DataW.lit (H := H) (.string bytes)) = bytes.length + 1 := by
  simp [Rows.uptoBulk]
set_option maxRecDepth 100000 in
theorem ends_bulk {H : Type} {enc : TypeId × Value → H} {W : World} {f e : T} {m : Int} {d : DataW H} {p : List MemPlace}
    (h : DataW.Trod enc Tryz.prog W 0 (fun _ => true) true 24 (.agg #[.string ⟨f.toArray⟩, .string ⟨e.toArray⟩, .int .i64 m]) d p) :
    f.length ≤ Rows.uptoBulk d ∧ e.length ≤ Rows.uptoBulk d := by
  obtain ⟨fuel, hf⟩ := h
  obtain ⟨ys, n', _, hy, hcl, hyl, hfs⟩ := DataW.trod_struct Tryz.underlying24 hf
  match ys, hyl with
  | [y0, y1, y2], _ =>
    have g0 := hfs 0 _ rfl
    have g1 := hfs 1 _ rfl
    simp [cellsPgS, Value.cells] at g0 g1
    obtain ⟨s0, e0, x0, _⟩ := DataW.trod_string Tryz.underlying9 g0
    obtain ⟨s1, e1, x1, _⟩ := DataW.trod_string Tryz.underlying9 g1
    obtain rfl : s0 = ⟨f.toArray⟩ := by simpa using e0.symm
    obtain rfl : s1 = ⟨e.toArray⟩ := by simpa using e1.symm
    subst x0
    subst x1
    injection hy with hd hp
    subst hd
    have h0 := bulk_string (H := H) f
    have h1 := bulk_string (H := H) e
    simp only [List.map_cons, List.map_nil, Rows.uptoBulk, Rows.uptoBulkAll] at h0 h1 ⊢
    constructor <;> simp <;> omega
end Go.Proofs.YtaficmboooaknaaGreatDoor
namespace Go.Proofs.YtaficmboooaknaaGreatDoor
open Go.RowKit

/-- A call of two arguments as a step of a region that draws its order. -/
theorem step_call2 {P : Program} {ops : Array Oper} {o : Oper} {a : Act} {w : World} {K : Act → World → Prop} {Q : Exit → Act → World → Prop} {E : Prop} (hg : o.guard = none) (f : Nat) (x y : Operand) (ts : Array TypeId) (hop : o.op = Op.call { callee := Callee.value (.func f), args := #[x, y], argTypes := ts })
    (hcf : ∀ args w, (callFunc f args).run P w = .ok (.enter f args) w) (R : Ending → World → Prop) (hc : Calls P f #[a.eval x, a.eval y] w R) (hK : ∀ e w', R e w' → ∃ v, e = .returned v ∧ K (a.put o.dst v) w') : if Region.wanted o (yielded ops a.tmps) = true then Oper.wp P o a w K Q else E := by
  have hw : Region.wanted o (yielded ops a.tmps) = true := by simp [Region.wanted, hg]
  rw [if_pos hw]
  obtain ⟨dst, op, type, pos, after, guard⟩ := o
  simp only at hop
  subst hop
  show Oper.upon P _ a K Q ((callFunc f (#[] ++ #[x, y].map a.eval ++ #[])).run P w)
  rw [hcf, Oper.upon_enter]
  refine Calls.mono (by simpa using hc) ?_
  intro e w' h
  obtain ⟨v, rfl, hk⟩ := hK e w' h
  exact hk
end Go.Proofs.YtaficmboooaknaaGreatDoor
namespace Go.Proofs.YtaficmboooaknaaGreatDoor
open Go.RowKit

/-- A number below n. -/
def Bk.below (a n : Int) : Int := (a.tmod n + n) % n
theorem Bk.below_in (a : Int) (n : Nat) (hn : 0 < n) : 0 ≤ Bk.below a n ∧ Bk.below a n < n := by
  have h1 : -(n : Int) < a.tmod n := Int.lt_tmod_of_pos a (by omega)
  unfold Bk.below
  have h2 : 0 ≤ a.tmod n + n := by omega
  exact ⟨Int.emod_nonneg _ (by omega), Int.emod_lt_of_pos _ (by omega)⟩
theorem Bk.below_nat (a : Int) (n : Nat) (hn : 0 < n) : ∃ k : Nat, Bk.below a n = k ∧ k < n := by
  obtain ⟨h1, h2⟩ := Bk.below_in a n hn
  exact ⟨(Bk.below a n).toNat, by omega, by omega⟩
set_option maxHeartbeats 400000 in
theorem below_any (a : Int) (n : Nat) (w : World) (hn : 0 < n) (hb : n ≤ 1000000) :
    Calls Tryz.prog 27 #[.int .i64 a, .int .i64 n] w fun e w' => e = .returned (.int .i64 (Bk.below a n)) ∧ w' = w := by
  have h1 : -(n : Int) < a.tmod n := Int.lt_tmod_of_pos a (by omega)
  have h2 : a.tmod n < (n : Int) := Int.tmod_lt_of_pos a (by omega)
  have h3 : IntKind.i64.wrap (a.tmod n + n) = a.tmod n + n := by
    unfold IntKind.wrap
    simp [IntKind.signed, IntKind.bits]
    omega
  have h0 : ((n : Int) == 0) = false := by rw [beq_eq_false_iff_ne]; omega
  have h00 : ¬ ((n : Int) = 0) := by omega
  have hm : (n : Int) ≠ -1 := by omega
  unfold Bk.below
  go_enter Tryz.func27, Tryz.ntmps27
  go_wp2
  go_ret
  exact ⟨rfl, rfl⟩

/-- At most so many bytes of a text. -/
def Bk.cut (s : List UInt8) (n : Nat) : List UInt8 := s.take n
end Go.Proofs.YtaficmboooaknaaGreatDoor
namespace Go.Proofs.YtaficmboooaknaaGreatDoor
open Go.RowKit
open Sto (T St)

theorem row_zeroI (w : World) : OwnI (w.alloc (.cells #[] 60)) w.heap.size (.slice (some ⟨w.heap.size, 0, none⟩) 0 0) [] :=
  ⟨rfl, Or.inr ⟨w.heap.size, 0, #[], rfl, Nat.le_refl _, heap_new_at _ _ _ rfl, Nat.le_refl _, Nat.zero_le _, rfl, rfl⟩⟩
theorem append_it_in {w : World} {v s : Value} {S : St} {B n : Nat} {xs : List Value} (hv : ItIn w v S) (hs : w.ownsRow B 60 2 s n xs) (hl : n + S.length ≤ 1000000) (hB : B ≤ w.heap.size) :
    ∃ v' w', (Builtin.append_ #[22, 22] 22 #[s, v]).run Tryz.prog w = .ok v' w' ∧ w'.ownsRow B 60 2 v' (n + S.length) (xs ++ rowsL itcl S) ∧ w.grownBy w' s.ownBlock ∧ (v'.ownBlock = s.ownBlock ∨ v'.ownBlock = some w.heap.size) := by
  obtain ⟨i0, hi, hz0, hz1, hz2⟩ := info_parts Tryz.infoItem
  exact append_rowsIn 22 60 i0 _ 32 Tryz.underlying22 Tryz.sizeOf60 hi hz0 hz1 hz2 rfl (by decide) (by decide) itcl_length itcl_one hv hs hl hB
/-- 'append([]api.Item{}, l...)'. -/
theorem own_items {w : World} {v : Value} {L : St} (hv : ItIn w v L) (hl : L.length ≤ 1000) :
    ∃ v' w', (Builtin.append_ #[22, 22] 22 #[.slice (some ⟨w.heap.size, 0, none⟩) 0 0, v]).run Tryz.prog (w.alloc (.cells #[] 60)) = .ok v' w' ∧ OwnI w' w.heap.size v' L ∧ Below w.heap.size w w' := by
  have hA : Below w.heap.size w (w.alloc (.cells #[] 60)) := (Below.refl _ w).alloc (Nat.le_refl _) _
  obtain ⟨v', w', h1, h2, h3, -⟩ := append_it_in (RowsIn.below hv hA) (row_zeroI w) (by simp; omega) (by simp)
  refine ⟨v', w', h1, by simpa [OwnI, rowsL] using h2, hA.trans ((Out.grown h3 (F := fun j => (some j : Option Nat) = (Value.slice (some ⟨w.heap.size, 0, none⟩) 0 0).ownBlock) (fun j e => e.symm)).below (fun j hj => ?_) (by simp))⟩
  simp [Value.ownBlock] at hj
  omega
end Go.Proofs.YtaficmboooaknaaGreatDoor
