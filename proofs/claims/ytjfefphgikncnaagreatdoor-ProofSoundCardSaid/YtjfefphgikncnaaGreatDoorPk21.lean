/- TriNodesWalk, ShaLaid, PowRefRead, CodeRefList, NodeRefRdr -/
import Derived.Test.YtjfefphgikncnaaGreatDoorPk20
import Derived.Test.YtjfefphgikncnaaGreatDoorPk17
import Derived.Test.YtjfefphgikncnaaGreatDoorPk16
import Derived.Test.YtjfefphgikncnaaGreatDoorPk19
import Derived.Test.YtjfefphgikncnaaGreatDoorPk18
import Derived.Deep.RegionHeld3
import Derived.Test.YtjfefphgikncnaaGreatDoorRows
import Derived.Test.YtjfefphgikncnaaGreatDoorPk09
import Derived.Lib.LaidU8
import Derived.LaidMore
import Derived.Stop.Joined
import Derived.ProofKit
import Derived.Test.YtjfefphgikncnaaGreatDoorPk03
import Derived.Test.YtjfefphgikncnaaGreatDoorPk08
import Derived.Test.YtjfefphgikncnaaGreatDoorPk04
namespace Go.Proofs.YtjfefphgikncnaaGreatDoor
open Go.RowKit
open Sto (T St)
open Tri (Tr Ok hb)
open Go.Proofs.YtjfefphgikncnaaGreatDoor.Nd (N)

theorem pick_trail {S : St} {t : Tr} (h : TrS S t) (key : T) : Tri.pickOf (fun p => Tri.begins p (Nib.ofL key)) (t.spots Nd.sumS []) = trailS S key := by
  unfold trailS
  rw [treeS_of h]
  rfl
theorem spots_kids (dg : N → T) (t : Tr) (p : T) : ∀ x ∈ t.spots dg p, x.2.kids.length = 16 := by
  intro x hx
  have : x.2 ∈ t.nodes dg := by
    rw [← Tri.spots_nodes dg t p]
    exact List.mem_map.2 ⟨x, hx, rfl⟩
  clear hx
  induction t with
  | nil => cases this
  | leaf q v => rw [List.mem_singleton.1 this]; exact Tri.node_kids ..
  | ext q t ih =>
    rcases List.mem_cons.1 this with e | e
    · rw [e]; exact Tri.node_kids ..
    · exact ih e
  | br v k ih =>
    rcases List.mem_cons.1 this with e | e
    · rw [e]; exact Tri.node_kids ..
    · obtain ⟨i, _, hi⟩ := List.mem_flatMap.1 e
      exact ih i hi
theorem some_item {t : Tr} (hc : t.canon) (hn : ¬ t.isNil) : ∃ y, y ∈ t.items := by
  cases h : t.items with
  | nil => exact absurd ((Tri.items_nil hc).1 h) hn
  | cons a l => exact ⟨a, List.mem_cons_self ..⟩
theorem spots_reach (dg : N → T) {t : Tr} (hc : t.canon) (p : T) (B : Nat) (h : ∀ y ∈ t.items, y.1.length ≤ B) : ∀ x ∈ t.spots dg p, x.1.length ≤ p.length + B := by
  induction t generalizing p B with
  | nil => intro x hx; cases hx
  | leaf q v =>
    intro x hx
    rw [List.mem_singleton.1 hx]; exact Nat.le_add_right ..
  | ext q t ih =>
    intro x hx
    rcases List.mem_cons.1 hx with e | e
    · rw [e]; exact Nat.le_add_right ..
    · have hn : ¬ t.isNil := by have := hc.2.1; cases t <;> simp_all [Tr.isBr, Tr.isNil]
      obtain ⟨y, hy⟩ := some_item hc.2.2 hn
      have h1 := h (q ++ y.1, y.2) (Tri.mem_behind.2 ⟨y.1, hy, rfl⟩)
      have h2 := ih hc.2.2 (p ++ q) (B - q.length) (fun z hz => by
        have := h (q ++ z.1, z.2) (Tri.mem_behind.2 ⟨z.1, hz, rfl⟩)
        simp at this; omega) x e
      simp at h1 h2; omega
  | br v k ih =>
    intro x hx
    rcases List.mem_cons.1 hx with e | e
    · rw [e]; exact Nat.le_add_right ..
    · obtain ⟨i, _, hi⟩ := List.mem_flatMap.1 e
      by_cases hn : (k i).isNil
      · rw [(Tri.nil_spots dg _ hn).1] at hi; cases hi
      · obtain ⟨y, hy⟩ := some_item (hc.1 i) hn
        have h1 := h (hb i :: y.1, y.2) (Tri.kid_item i hy)
        have h2 := ih i (hc.1 i) (p ++ [hb i]) (B - 1) (fun z hz => by
          have := h (hb i :: z.1, z.2) (Tri.kid_item i hz)
          simp at this; omega) x hi
        simp at h1 h2; omega
end Go.Proofs.YtjfefphgikncnaaGreatDoor
namespace Go.Proofs.YtjfefphgikncnaaGreatDoor
open Go.ChangeShapes Go.WideShapes Go.ChangeAt Go.RowKit

theorem gK : Tryz.prog.globalNamed "pharos/sha.constants" = some 0 := by kernel_rfl
theorem tK : (Tryz.prog.globals[0]?).map (·.type) = some 225 := by kernel_rfl
theorem cK : Tryz.prog.cellsOf 225 = 64 := by kernel_rfl
theorem cW : Tryz.prog.cellsOf 167 = 1 := by kernel_rfl
def laidK : List (String × DataW Unit) := [("pharos/sha.constants", Rows.laid_pharos_sha_constants)]
theorem tab_of_laid {W : World} (h : laidMetH Tryz.prog laidK W) : Tab W := by
  rw [MakeChecks.laidMetH_plain _ _ _ (by kernel_rfl)] at h
  obtain ⟨g, t, cs, fuel, p, hg, hty, hvar, hd⟩ := Lib.laidMet.reads h (.head _)
  obtain rfl := Option.some.inj (gK.symm.trans hg)
  obtain rfl := Option.some.inj (tK.symm.trans hty)
  have hd' : DataW.trod (fun _ => ()) Tryz.prog W 0 (fun _ => true) false fuel 225 cs.toList = some (Lib.tabData .u32 Sha.kTab, p) := hd
  have hcs := Lib.cells_of_tab Tryz.underlying225 Tryz.underlying167 cW cK hd'
  intro i hi
  have hk : i < Sha.kTab.length := hi
  rw [World.var?_cell hg hvar i, ← Array.getElem?_toList, hcs]
  simp [hk]
/-- The door's own heap meets the condition. -/
theorem door_met (os : Os) (args : Array Value) : laidMetH Tryz.prog laidK ((World.doorLaid Tryz.prog 400 os).forCall (fun _ _ => 0) ⟨#[], args, []⟩).memory :=
  laidMetH_of_parts3 (fuel := 8) (laidMet_of_run' 8 (by kernel_rfl) (by kernel_rfl)) (by kernel_rfl) (by kernel_rfl)
end Go.Proofs.YtjfefphgikncnaaGreatDoor
namespace Go.Proofs.YtjfefphgikncnaaGreatDoor
open Go.RowKit

theorem bel_drewN' {B : Nat} {a w : World} (h : Below B a w) (n : Nat) : Below B a (w.drewN n) := h.trans ⟨rfl, rfl, rfl, Nat.le_refl _, fun _ _ => rfl⟩
def Pw.takeR (s : List UInt8) : Nat × List UInt8 × Int := if (Code.leadL s).2.2 ≠ 0 then (0, [], (Code.leadL s).2.2) else ((Code.leadL s).1, s.drop (Code.leadL s).2.1, 0)
theorem index_cons (c : UInt8) (d r2 : List UInt8) (j : Nat) (hj : j < d.length) : ∀ h, (⟨(c :: (d ++ r2)).toArray⟩ : ByteArray)[j + 1]'h = d[j] := by
  intro h
  have e : (c :: (d ++ r2))[j + 1]'(by simp; omega) = d[j] := by rw [List.getElem_cons_succ, List.getElem_append_left hj]
  exact e

set_option maxHeartbeats 400000 in
theorem rtake_nil (w : World) : Calls Tryz.prog 184 #[.string ⟨#[]⟩] w fun e w' => e = .returned (.tuple #[.int .i64 0, .string ⟨#[]⟩, .int .i64 20]) ∧ Below w.heap.size w w' := by
  go_enter Tryz.func184, Tryz.ntmps184
  go_wp2
  go_ret3
  exact ⟨rfl, Below.refl _ _⟩
set_option maxHeartbeats 400000 in
theorem rtake_big (c : UInt8) (r : List UInt8) (w : World) (hc : c.toNat > 8) : Calls Tryz.prog 184 #[.string ⟨(c :: r).toArray⟩] w fun e w' => e = .returned (.tuple #[.int .i64 0, .string ⟨#[]⟩, .int .i64 3]) ∧ Below w.heap.size w w' := by
  have hh : ∀ h, (⟨(c :: r).toArray⟩ : ByteArray)[0]'h = c := fun _ => rfl
  have hcb := c.toNat_lt
  have hc1 : (8 : Int) < (c.toNat : Int) := by omega
  go_enter Tryz.func184, Tryz.ntmps184
  go_wp2
  go_ret3
  exact ⟨rfl, Below.refl _ _⟩
set_option maxHeartbeats 400000 in
theorem rtake_short (c : UInt8) (r : List UInt8) (w : World) (hc : ¬ c.toNat > 8) (hr : r.length < c.toNat) : Calls Tryz.prog 184 #[.string ⟨(c :: r).toArray⟩] w fun e w' => e = .returned (.tuple #[.int .i64 0, .string ⟨#[]⟩, .int .i64 20]) ∧ Below w.heap.size w w' := by
  have hh : ∀ h, (⟨(c :: r).toArray⟩ : ByteArray)[0]'h = c := fun _ => rfl
  have hcb := c.toNat_lt
  have hc1 : ¬ ((8 : Int) < (c.toNat : Int)) := by omega
  have hlen : ((r.length : Int) + 1) < (c.toNat : Int) + 1 := by omega
  go_enter Tryz.func184, Tryz.ntmps184
  go_wp2
  go_ret3
  exact ⟨rfl, Below.refl _ _⟩
set_option maxHeartbeats 1000000 in
theorem rtake_zero (r : List UInt8) (w : World) : Calls Tryz.prog 184 #[.string ⟨((0 : UInt8) :: r).toArray⟩] w fun e w' => e = .returned (.tuple #[.int .i64 0, .string ⟨r.toArray⟩, .int .i64 0]) ∧ Below w.heap.size w w' := by
  have hh : ∀ h, (⟨((0 : UInt8) :: r).toArray⟩ : ByteArray)[0]'h = 0 := fun _ => rfl
  have he : (⟨((0 : UInt8) :: r).toArray⟩ : ByteArray).extract 1 (r.length + 1) = ⟨r.toArray⟩ := extract_mk_tail 0 r
  go_enter Tryz.func184, Tryz.ntmps184
  go_wp2
  go_loop [6, 7] (fun n i => n = .int .i64 0 ∧ i = .int .i64 1) (fun _ _ => 0)
  case atStart => exact ⟨rfl, rfl⟩
  case round =>
    obtain ⟨rfl, rfl⟩ := hrel
    go_wp2
    go_quiet (fail)
    go_wp2
    go_ret3
    exact ⟨rfl, (Below.refl _ w).trans ⟨rfl, rfl, rfl, Nat.le_refl _, fun _ _ => rfl⟩⟩
set_option maxHeartbeats 1000000 in
theorem rtake_bad (c x : UInt8) (d q r2 : List UInt8) (w : World) (hd : d = x :: q) (hc : c.toNat = d.length) (h8 : d.length ≤ 8) (hl : r2.length ≤ 100000000) (hb : x.toNat = 0 ∨ d.length = 8 ∧ 128 ≤ x.toNat) :
    Calls Tryz.prog 184 #[.string ⟨(c :: (d ++ r2)).toArray⟩] w fun e w' => e = .returned (.tuple #[.int .i64 0, .string ⟨#[]⟩, .int .i64 3]) ∧ Below w.heap.size w w' := by
  have hh : ∀ h, (⟨(c :: (d ++ r2)).toArray⟩ : ByteArray)[0]'h = c := fun _ => rfl
  have hx : ∀ h, (⟨(c :: (d ++ r2)).toArray⟩ : ByteArray)[1]'h = x := by subst hd; exact fun _ => rfl
  have hxb := x.toNat_lt
  have hpos : 0 < d.length := by subst hd; simp
  clear hd
  obtain ⟨s, hs⟩ : ∃ s, c :: (d ++ r2) = s := ⟨_, rfl⟩
  have hsl : s.length = d.length + 1 + r2.length := by rw [← hs]; simp; omega
  have hse : s.isEmpty = false := by rw [← hs]; rfl
  have hsn : ¬ (s.length = 0) := by omega
  rw [hs] at hh hx ⊢
  clear hs
  rcases hb with h0 | ⟨h80, h128⟩
  · go_enter Tryz.func184, Tryz.ntmps184
    go_wp2
    go_ret3
    exact ⟨rfl, Below.refl _ _⟩
  · rw [h80] at hc hsl
    have hd1 : (127 : Int) < (x.toNat : Int) := by omega
    have hd0 : ((x.toNat : Int) == 0) = false := by rw [beq_eq_false_iff_ne]; omega
    clear h8 hpos
    go_enter Tryz.func184, Tryz.ntmps184
    go_wp2
    go_ret3
    exact ⟨rfl, Below.refl _ _⟩
set_option maxRecDepth 100000 in
set_option maxHeartbeats 2000000 in
theorem rtake_good (c x : UInt8) (d q r2 : List UInt8) (w : World) (hd : d = x :: q) (hc : c.toNat = d.length) (h8 : d.length ≤ 8) (hl : r2.length ≤ 100000000) (h0 : x.toNat ≠ 0) (hb : d.length = 8 → x.toNat < 128) :
    Calls Tryz.prog 184 #[.string ⟨(c :: (d ++ r2)).toArray⟩] w fun e w' => e = .returned (.tuple #[.int .i64 (Code.val d : Nat), .string ⟨r2.toArray⟩, .int .i64 0]) ∧ Below w.heap.size w w' := by
  have hh : ∀ h, (⟨(c :: (d ++ r2)).toArray⟩ : ByteArray)[0]'h = c := fun _ => rfl
  have hx : ∀ h, (⟨(c :: (d ++ r2)).toArray⟩ : ByteArray)[1]'h = x := by subst hd; exact fun _ => rfl
  have HIX := Lib.hid (index_cons c d r2)
  have hxb := x.toNat_lt
  have HVL := Lib.hid (val_take_lt d h8 (by subst hd; exact hb))
  have hpos : 0 < d.length := by subst hd; simp
  have he := ext_drop (c :: (d ++ r2)) (d.length + 1)
  rw [show (c :: (d ++ r2)).drop (d.length + 1) = r2 by simp] at he
  clear hd
  obtain ⟨s, hs⟩ : ∃ s, c :: (d ++ r2) = s := ⟨_, rfl⟩
  have hsl : s.length = d.length + 1 + r2.length := by rw [← hs]; simp; omega
  have hse : s.isEmpty = false := by rw [← hs]; rfl
  rw [hs] at hh hx he HIX ⊢
  have hd0 : ((x.toNat : Int) == 0) = false := by rw [beq_eq_false_iff_ne]; omega
  obtain ⟨K, hK⟩ : ∃ K, d.length = K := ⟨_, rfl⟩
  have HK := Lib.hid hK
  rw [hK] at hc h8 hpos he hsl hb
  clear hs hK
  have hcp : (0 : Int) < (K : Int) := by omega
  rcases Nat.lt_or_ge K 8 with h7 | h7
  · have hne : ¬ ((K : Int) = 8) := by omega
    have he2 : (⟨s.toArray⟩ : ByteArray).extract (K + 1) (K + 1 + r2.length) = ⟨r2.toArray⟩ := by rw [← hsl]; exact he
    clear hb
    go_enter Tryz.func184, Tryz.ntmps184
    go_wp2
    go_loop [6, 7] (fun n i => ∃ k : Nat, k ≤ K ∧ n = .int .i64 (Code.val (d.take k) : Nat) ∧ i = .int .i64 ((k : Nat) + 1 : Int)) (fun _ i => K + 1 - (intOf i).toNat)
    case atStart => exact ⟨0, Nat.zero_le _, rfl, rfl⟩
    case round =>
      obtain ⟨k, hk, rfl, rfl⟩ := hrel
      by_cases hlt : k < K
      · have h1 : (k : Int) + 1 ≤ ((K : Nat) : Int) := by omega
        have h2 : (0 : Int) ≤ (k : Int) + 1 := by omega
        have h3 : (k : Int) + 1 < (s.length : Int) := by omega
        have hkd : k < d.length := by rw [HK.out]; exact hlt
        have HST := Lib.hid (val_step d k hkd)
        have hvk := HVL.out (k + 1)
        rw [HST.out] at hvk
        have hix := HIX.out k hkd
        obtain ⟨y, hy⟩ : ∃ y, d[k] = y := ⟨_, rfl⟩
        rw [hy] at HST hvk hix
        have hyb := y.toNat_lt
        obtain ⟨V, hV⟩ : ∃ V, Code.val (d.take k) = V := ⟨_, rfl⟩
        rw [hV] at HST hvk ⊢
        clear hy hV
        have hv1 : (V : Int) * 256 + (y.toNat : Int) ≤ 9223372036854775807 := by omega
        have hv2 : (V : Int) ≤ 36028797018963967 := by omega
        have hyb2 : (y.toNat : Int) < 256 := by omega
        clear hvk hyb
        go_wp2
        go_round
        case rel => exact ⟨k + 1, by omega, by rw [HST.out]; go_num, by go_num⟩
        case measure => simp [intOf]; omega
      · obtain rfl : k = K := by omega
        have h1 : ¬ (((k : Nat) : Int) + 1 ≤ ((k : Nat) : Int)) := by omega
        have HD : Hid (d.take k = d) := Lib.hid (by rw [← HK.out, List.take_length])
        rw [HD.out]
        go_wp2
        go_quiet (fail)
        go_wp2
        go_ret3
        exact ⟨rfl, (Below.refl _ w).trans ⟨rfl, rfl, rfl, Nat.le_refl _, fun _ _ => rfl⟩⟩
  · obtain rfl : K = 8 := by omega
    have he2 : (⟨s.toArray⟩ : ByteArray).extract 9 (9 + r2.length) = ⟨r2.toArray⟩ := by rw [show 9 + r2.length = s.length by omega]; exact he
    have hx1 : ¬ ((127 : Int) < (x.toNat : Int)) := by have := hb rfl; omega
    clear hb
    go_enter Tryz.func184, Tryz.ntmps184
    go_wp2
    go_loop [6, 7] (fun n i => ∃ k : Nat, k ≤ 8 ∧ n = .int .i64 (Code.val (d.take k) : Nat) ∧ i = .int .i64 ((k : Nat) + 1 : Int)) (fun _ i => 8 + 1 - (intOf i).toNat)
    case atStart => exact ⟨0, Nat.zero_le _, rfl, rfl⟩
    case round =>
      obtain ⟨k, hk, rfl, rfl⟩ := hrel
      by_cases hlt : k < 8
      · have h1 : (k : Int) + 1 ≤ ((8 : Nat) : Int) := by omega
        have h2 : (0 : Int) ≤ (k : Int) + 1 := by omega
        have h3 : (k : Int) + 1 < (s.length : Int) := by omega
        have hkd : k < d.length := by rw [HK.out]; exact hlt
        have HST := Lib.hid (val_step d k hkd)
        have hvk := HVL.out (k + 1)
        rw [HST.out] at hvk
        have hix := HIX.out k hkd
        obtain ⟨y, hy⟩ : ∃ y, d[k] = y := ⟨_, rfl⟩
        rw [hy] at HST hvk hix
        have hyb := y.toNat_lt
        obtain ⟨V, hV⟩ : ∃ V, Code.val (d.take k) = V := ⟨_, rfl⟩
        rw [hV] at HST hvk ⊢
        clear hy hV
        have hv1 : (V : Int) * 256 + (y.toNat : Int) ≤ 9223372036854775807 := by omega
        have hv2 : (V : Int) ≤ 36028797018963967 := by omega
        have hyb2 : (y.toNat : Int) < 256 := by omega
        clear hvk hyb
        go_wp2
        go_round
        case rel => exact ⟨k + 1, by omega, by rw [HST.out]; go_num, by go_num⟩
        case measure => simp [intOf]; omega
      · obtain rfl : k = 8 := by omega
        have HD : Hid (d.take 8 = d) := Lib.hid (by rw [← HK.out, List.take_length])
        rw [HD.out]
        go_wp2
        go_quiet (fail)
        go_wp2
        go_ret3
        exact ⟨rfl, (Below.refl _ w).trans ⟨rfl, rfl, rfl, Nat.le_refl _, fun _ _ => rfl⟩⟩
end Go.Proofs.YtjfefphgikncnaaGreatDoor
namespace Go.Proofs.YtjfefphgikncnaaGreatDoor
open Go.RowKit

theorem rtake_any (s : List UInt8) (w : World) (hl : s.length ≤ 100000000) :
    Calls Tryz.prog 184 #[.string ⟨s.toArray⟩] w fun e w' => e = .returned (.tuple #[.int .i64 ((Pw.takeR s).1 : Nat), .string ⟨(Pw.takeR s).2.1.toArray⟩, .int .i64 (Pw.takeR s).2.2]) ∧ Below w.heap.size w w' := by
  unfold Pw.takeR
  match s, hl with
  | [], _ => exact rtake_nil w
  | c :: r, hl =>
    simp only [List.length_cons] at hl
    by_cases h1 : c.toNat > 8
    · rw [Code.leadL, if_pos h1]
      exact rtake_big c r w h1
    · by_cases h2 : r.length < c.toNat
      · rw [Code.leadL, if_neg h1, if_pos h2]
        exact rtake_short c r w h1 h2
      · have hr : r = r.take c.toNat ++ r.drop c.toNat := (List.take_append_drop _ _).symm
        have hdl : (r.take c.toNat).length = c.toNat := by rw [List.length_take]; omega
        have hd2 : (r.drop c.toNat).length ≤ 100000000 := by rw [List.length_drop]; omega
        have hdr : (c :: r).drop (1 + c.toNat) = r.drop c.toNat := by rw [Nat.add_comm]; rfl
        rw [Code.leadL, if_neg h1, if_neg h2]
        by_cases h0 : c.toNat = 0
        · have hb : Code.bad c.toNat (r.take c.toNat) = false := by simp [Code.bad, h0]
          have hc0 : c = 0 := by
            have := UInt8.ofNat_toNat (x := c)
            rw [h0] at this
            exact this.symm
          subst hc0
          rw [hb]
          exact rtake_zero r w
        · match hd : r.take c.toNat with
          | [] => rw [hd] at hdl; simp at hdl; omega
          | x :: q =>
            rw [hd] at hr hdl
            rcases hb : Code.bad c.toNat (x :: q) with _ | _
            · simp only [Code.bad, List.headD_cons, Bool.or_eq_false_iff, Bool.and_eq_false_iff, decide_eq_false_iff_not, beq_eq_false_iff_ne] at hb
              have h := rtake_good c x (x :: q) q (r.drop c.toNat) w rfl hdl.symm (by omega) hd2 (by rcases hb.1 with a | a; omega; exact a) (fun h8 => by rcases hb.2 with a | a; omega; exact Nat.not_le.1 (of_decide_eq_false a))
              rw [← hr] at h
              rw [if_neg (by simp), if_neg (by simp)]
              dsimp only
              rw [hdr]
              exact h
            · simp only [Code.bad, List.headD_cons, Bool.or_eq_true, Bool.and_eq_true, decide_eq_true_eq, beq_iff_eq] at hb
              have h := rtake_bad c x (x :: q) q (r.drop c.toNat) w rfl hdl.symm (by omega) hd2 (by rcases hb with a | a; exact .inl a.2; exact .inr ⟨by omega, of_decide_eq_true a.2⟩)
              rw [← hr] at h
              exact h

theorem Pw.takeR_lt (s : List UInt8) : (Pw.takeR s).1 < 2 ^ 63 ∧ (Pw.takeR s).2.1.length ≤ s.length := by
  unfold Pw.takeR
  split
  · simp
  · exact ⟨(Code.lead_range s).1, by simp⟩
/-- The document's reader in memory. -/
def RRd (w : World) (g : Nat) (s : List UInt8) (c : Int) : Prop := w.heap[g]? = some (.cells #[.string ⟨s.toArray⟩, .int .i64 c] 178 (0, 0))
theorem RRd.lt {w : World} {g : Nat} {s : List UInt8} {c : Int} (h : RRd w g s c) : g < w.heap.size := lt_of_block h
theorem RRd.left {w : World} {g : Nat} {s : List UInt8} {c : Int} (h : RRd w g s c) : w.cell? ⟨g, 0, none⟩ = some (.string ⟨s.toArray⟩) := cell_of_row _ _ _ _ _ _ h
theorem RRd.code {w : World} {g : Nat} {s : List UInt8} {c : Int} (h : RRd w g s c) : w.cell? ⟨g, 1, none⟩ = some (.int .i64 c) := cell_of_row _ _ _ _ _ _ h
theorem RRd.free0 {w : World} {g : Nat} {s : List UInt8} {c : Int} (h : RRd w g s c) : w.frozen? ⟨g, 0, none⟩ = false := frozen_of_row _ _ _ _ _ h
theorem RRd.free1 {w : World} {g : Nat} {s : List UInt8} {c : Int} (h : RRd w g s c) : w.frozen? ⟨g, 1, none⟩ = false := frozen_of_row _ _ _ _ _ h
theorem RRd.setLeft {w : World} {g : Nat} {s : List UInt8} {c : Int} (h : RRd w g s c) (t : List UInt8) : RRd (w.setCell ⟨g, 0, none⟩ (.string ⟨t.toArray⟩)) g t c := by
  have := heap_setCell_same _ _ 0 _ _ (.string ⟨t.toArray⟩) h
  simpa [RRd] using this
theorem RRd.setCode {w : World} {g : Nat} {s : List UInt8} {c : Int} (h : RRd w g s c) (d : Int) : RRd (w.setCell ⟨g, 1, none⟩ (.int .i64 d)) g s d := by
  have := heap_setCell_same _ _ 1 _ _ (.int .i64 d) h
  simpa [RRd] using this
theorem RRd.below {w w' : World} {g : Nat} {s : List UInt8} {c : Int} (h : RRd w g s c) (hb : Below w.heap.size w w') : RRd w' g s c := (hb.block g h.lt).trans h

end Go.Proofs.YtjfefphgikncnaaGreatDoor
namespace Go.Proofs.YtjfefphgikncnaaGreatDoor
open Go.RowKit

def Code.textPm (most : Int) (s : List UInt8) : List UInt8 × List UInt8 × Int :=
  if (Pw.takeR s).2.2 ≠ 0 then ([], [], (Pw.takeR s).2.2) else if most < ((Pw.takeR s).1 : Int) then ([], [], 2) else if (Pw.takeR s).2.1.length < (Pw.takeR s).1 then ([], [], 20) else ((Pw.takeR s).2.1.take (Pw.takeR s).1, (Pw.takeR s).2.1.drop (Pw.takeR s).1, 0)
theorem Code.textR_Pm (most : Int) (s : List UInt8) : Code.textR most s = if (Code.textPm most s).2.2 ≠ 0 then ([], s, (Code.textPm most s).2.2) else ((Code.textPm most s).1, (Code.textPm most s).2.1, 0) := by
  unfold Code.textR Code.countL Code.textPm Pw.takeR
  by_cases he : (Code.leadL s).2.2 = 0
  · have e1 : ¬ ((Code.leadL s).2.2 ≠ 0) := by simpa using he
    simp only [if_neg e1]
    by_cases h6 : most < ((Code.leadL s).1 : Int)
    · simp [h6]
    · simp only [if_neg h6]
      by_cases hlen : (s.drop (Code.leadL s).2.1).length < (Code.leadL s).1
      · simp only [if_pos hlen]
        simp
      · simp only [if_neg hlen]
        simp
  · simp [he]
set_option maxRecDepth 8000 in
set_option maxHeartbeats 1000000 in
theorem rtextm_any (most : Int) (s : List UInt8) (w : World) (hl : s.length ≤ 100000000) :
    Calls Tryz.prog 158 #[.string ⟨s.toArray⟩, .int .i64 most] w fun e w' => e = .returned (.tuple #[.string ⟨(Code.textPm most s).1.toArray⟩, .string ⟨(Code.textPm most s).2.1.toArray⟩, .int .i64 (Code.textPm most s).2.2]) ∧ Below w.heap.size w w' := by
  have HT := Lib.hid (rtake_any s w hl)
  have hr := Pw.takeR_lt s
  unfold Code.textPm
  obtain ⟨⟨n, r, e⟩, hp⟩ : ∃ p, Pw.takeR s = p := ⟨_, rfl⟩
  rw [hp] at HT hr ⊢
  dsimp only at HT hr ⊢
  have hrl : r.length ≤ 100000000 := by omega
  clear hp hl
  by_cases he : e = 0
  · subst he
    rw [if_neg (by simp)]
    by_cases h6 : most < (n : Int)
    · rw [if_pos h6]
      clear hr
      go_enter Tryz.func158, Tryz.ntmps158
      go_wp2_with fail
      refine HT.out.mono ?_
      rintro e w1 ⟨rfl, hb⟩
      go_wp2
      go_ret3
      exact ⟨rfl, hb⟩
    · rw [if_neg h6]
      by_cases hlen : r.length < n
      · rw [if_pos hlen]
        have hlen' : (r.length : Int) < (n : Int) := by omega
        clear hr
        go_enter Tryz.func158, Tryz.ntmps158
        go_wp2_with fail
        refine HT.out.mono ?_
        rintro e w1 ⟨rfl, hb⟩
        go_wp2
        go_ret3
        exact ⟨rfl, hb⟩
      · rw [if_neg hlen]
        have hlen' : ¬ ((r.length : Int) < (n : Int)) := by omega
        have he1 := ext_take r n
        have he2 := ext_drop r n
        have hn0 : (0 : Int) ≤ (n : Int) := by omega
        have hn1 : (n : Int) ≤ (r.length : Int) := by omega
        clear hr
        go_enter Tryz.func158, Tryz.ntmps158
        go_wp2_with fail
        refine HT.out.mono ?_
        rintro e w1 ⟨rfl, hb⟩
        go_wp2
        go_quiet (fail)
        go_wp2
        go_ret3
        exact ⟨rfl, bel_drewN' hb _⟩
  · rw [if_pos he]
    have he' : (e != 0) = true := by rw [bne_iff_ne]; exact he
    clear hr
    go_enter Tryz.func158, Tryz.ntmps158
    go_wp2_with fail
    refine HT.out.mono ?_
    rintro e w1 ⟨rfl, hb⟩
    go_wp2
    go_ret3
    exact ⟨rfl, hb⟩

/-- What is left to be read behind k texts, against the whole. -/
def Code.Left (Q : List (List UInt8) × List UInt8 × Int) (n k : Nat) (each : Int) (r : List UInt8) (O : List (List UInt8)) (c : Int) : Prop :=
  (c = 0 ∧ Q.2.2 = (Code.readN (n - k) each r).2.2 ∧ (Q.2.2 = 0 → Q.1 = O ++ (Code.readN (n - k) each r).1 ∧ Q.2.1 = (Code.readN (n - k) each r).2.1)) ∨ (c ≠ 0 ∧ Q.2.2 = c)
theorem Code.Left.bad {Q : List (List UInt8) × List UInt8 × Int} {n k : Nat} {each : Int} {r : List UInt8} {O : List (List UInt8)} (h : Code.Left Q n k each r O 0) (hk : k < n) (he : (Code.textR each r).2.2 ≠ 0) (r' : List UInt8) (O' : List (List UInt8)) : Code.Left Q n (k + 1) each r' O' (Code.textR each r).2.2 := by
  rcases h with ⟨_, h1, h2⟩ | ⟨h, _⟩
  · refine Or.inr ⟨he, ?_⟩
    obtain ⟨m, hm⟩ : ∃ m, n - k = m + 1 := ⟨n - k - 1, by omega⟩
    rw [h1, hm, Code.readN, if_pos he]
  · exact absurd rfl h
theorem Code.Left.good {Q : List (List UInt8) × List UInt8 × Int} {n k : Nat} {each : Int} {r : List UInt8} {O : List (List UInt8)} (h : Code.Left Q n k each r O 0) (hk : k < n) (he : (Code.textR each r).2.2 = 0) : Code.Left Q n (k + 1) each (Code.textR each r).2.1 (O ++ [(Code.textR each r).1]) 0 := by
  rcases h with ⟨_, h1, h2⟩ | ⟨h, _⟩
  · refine Or.inl ⟨rfl, ?_⟩
    obtain ⟨m, hm⟩ : ∃ m, n - k = m + 1 := ⟨n - k - 1, by omega⟩
    have hm' : n - (k + 1) = m := by omega
    rw [hm, Code.readN, if_neg (by simpa using he)] at h1 h2
    rw [hm']
    refine ⟨h1, fun q => ?_⟩
    obtain ⟨h3, h4⟩ := h2 q
    exact ⟨by rw [h3]; simp, h4⟩
  · exact absurd rfl h

theorem Own.only {w w' : World} {B g : Nat} {v : Value} {L : List (List UInt8)} (h : Own w B v L) (ho : Only g w w') (hg : g < B) : Own w' B v L := by
  refine ⟨h.1, ?_⟩
  rcases h.2 with hn | ⟨k, cap, cur, hv, hb, hk, hr⟩
  · exact Or.inl hn
  · exact Or.inr ⟨k, cap, cur, hv, hb, (ho.block k (lt_of_heap hk) (by omega)).trans hk, hr⟩

end Go.Proofs.YtjfefphgikncnaaGreatDoor
namespace Go.Proofs.YtjfefphgikncnaaGreatDoor
open Go.RowKit

set_option maxRecDepth 8000 in
set_option maxHeartbeats 1000000 in
theorem rntext_st (most : Int) (st : Nd.St) (g : Nat) (w : World) (h : RRd w g st.1 st.2) (hl : st.1.length ≤ 100000000) :
    Calls Tryz.prog 122 #[.pointer (some ⟨g, 0, none⟩), .int .i64 most] w fun e w' => e = .returned (.string ⟨(Nd.rdT most st).1.toArray⟩) ∧ RRd w' g (Nd.rdT most st).2.1 (Nd.rdT most st).2.2 ∧ Only g w w' := by
  obtain ⟨s, c⟩ := st
  dsimp only at h hl
  have h0 := h.left
  have h1 := h.code
  unfold Nd.rdT
  dsimp only
  by_cases hc : c = 0
  · subst hc
    rw [if_neg (by simp)]
    have HT := Lib.hid (rtextm_any most s w hl)
    have HP := Lib.hid (Code.textR_Pm most s)
    obtain ⟨⟨x, r, e⟩, hp⟩ : ∃ p, Code.textPm most s = p := ⟨_, rfl⟩
    rw [hp] at HT HP
    dsimp only at HT HP
    rw [HP.out]
    have HR := Lib.hid h
    clear hp hl
    by_cases he : e = 0
    · subst he
      rw [if_neg (by simp)]
      dsimp only
      go_enter Tryz.func122, Tryz.ntmps122
      go_wp2_with fail
      refine HT.out.mono ?_
      rintro e w1 ⟨rfl, hb⟩
      have h2 := HR.out.below hb
      have h3 := h2.setCode 0
      have HO : Hid (Only g w w1) := Lib.hid (Only.of hb)
      have g1 := h2.code
      have g0 := h3.left
      have f1 := h2.free1
      have f0 := h3.free0
      have HR3 := Lib.hid h3
      clear h2 h3 hb h0 h1 h
      go_wp2
      go_ret
      exact ⟨rfl, HR3.out.setLeft r, (HO.out.setCell rfl _).setCell rfl _⟩
    · rw [if_pos he]
      dsimp only
      have he' : (e != 0) = true := by rw [bne_iff_ne]; exact he
      go_enter Tryz.func122, Tryz.ntmps122
      go_wp2_with fail
      refine HT.out.mono ?_
      rintro e w1 ⟨rfl, hb⟩
      have h2 := HR.out.below hb
      have HO : Hid (Only g w w1) := Lib.hid (Only.of hb)
      have g1 := h2.code
      have f1 := h2.free1
      have HR2 := Lib.hid h2
      clear h2 hb h0 h1 h
      go_wp2
      go_ret
      exact ⟨rfl, HR2.out.setCode _, HO.out.setCell rfl _⟩
  · rw [if_pos hc]
    have hc' : (c != 0) = true := by rw [bne_iff_ne]; exact hc
    go_enter Tryz.func122, Tryz.ntmps122
    go_wp2
    go_ret
    exact ⟨rfl, h, Only.refl _ _⟩
set_option maxRecDepth 8000 in
set_option maxHeartbeats 1000000 in
theorem rnbytes_st (n : Nat) (st : Nd.St) (g : Nat) (w : World) (h : RRd w g st.1 st.2) (hl : st.1.length ≤ 100000000) :
    Calls Tryz.prog 121 #[.pointer (some ⟨g, 0, none⟩), .int .i64 n] w fun e w' => e = .returned (.string ⟨(Nd.rdB n st).1.toArray⟩) ∧ RRd w' g (Nd.rdB n st).2.1 (Nd.rdB n st).2.2 ∧ Only g w w' := by
  obtain ⟨s, c⟩ := st
  dsimp only at h hl
  have h0 := h.left
  have h1 := h.code
  have f0 := h.free0
  have f1 := h.free1
  unfold Nd.rdB
  dsimp only
  by_cases hc : c = 0
  · subst hc
    rw [if_neg (by simp)]
    have hn0 : ¬ ((n : Int) < 0) := by omega
    by_cases hs : s.length < n
    · rw [if_pos hs]
      have hs1 : (s.length : Int) < (n : Int) := by omega
      have HR := Lib.hid h
      clear hs
      go_enter Tryz.func121, Tryz.ntmps121
      go_wp2
      go_ret
      exact ⟨rfl, HR.out.setCode _, (Only.refl g w).setCell rfl _⟩
    · rw [if_neg hs]
      have hs1 : ¬ ((s.length : Int) < (n : Int)) := by omega
      have hs2 : (n : Int) ≤ (s.length : Int) := by omega
      have HR := Lib.hid h
      have et := ext_take s n
      have ed := ext_drop s n
      clear hs
      go_enter Tryz.func121, Tryz.ntmps121
      go_wp2
      go_ret
      exact ⟨rfl, HR.out.setLeft _, (Only.refl g w).setCell rfl _⟩
  · rw [if_pos hc]
    have hc' : (c != 0) = true := by rw [bne_iff_ne]; exact hc
    go_enter Tryz.func121, Tryz.ntmps121
    go_wp2
    go_ret
    exact ⟨rfl, h, Only.refl _ _⟩
theorem rnunpack_any (s : List UInt8) (w : World) (hl : s.length ≤ 100000) :
    Calls Tryz.prog 123 #[.string ⟨s.toArray⟩] w fun e w' => ((Nib.unpackL s = none ∧ e = .returned (.tuple #[.string ⟨#[]⟩, .bool false, .int .i64 3])) ∨ ∃ p is, Nib.unpackL s = some (p, is) ∧ e = .returned (.tuple #[.string ⟨p.toArray⟩, .bool is, .int .i64 0])) ∧ Below w.heap.size w w' := by
  match h : Nib.unpackL s with
  | none =>
    refine (runpack_none s w hl h).mono ?_
    rintro e w' ⟨rfl, hb⟩
    exact ⟨Or.inl ⟨rfl, rfl⟩, hb⟩
  | some (p, is) =>
    refine (runpack_some s p is w hl h).mono ?_
    rintro e w' ⟨rfl, hb⟩
    exact ⟨Or.inr ⟨p, is, rfl, rfl⟩, hb⟩
/-- The document's reading. -/
def Nd.rdR (k : UInt8) (r : List UInt8) : Option (Nd.N × Nd.St) :=
  if k.toNat = 3 then (if (Nd.rdB 2 (r, 0)).1.length < 2 then none else some (⟨3, [], (Nd.rdT 32 (Nd.rdK (r, 0)).2).1, (Nd.rdK (r, 0)).1⟩, (Nd.rdT 32 (Nd.rdK (r, 0)).2).2))
  else match Nib.unpackL (Nd.rdT 100 (r, 0)).1 with
    | none => none
    | some (p, _) => if k.toNat = 1 then some (⟨1, p, (Nd.rdT 32 (Nd.rdT 100 (r, 0)).2).1, Nd.none16⟩, (Nd.rdT 32 (Nd.rdT 100 (r, 0)).2).2)
      else some (⟨(k.toNat : Int), p, [], Nd.none16.set 0 (Nd.rdB 32 (Nd.rdT 100 (r, 0)).2).1⟩, (Nd.rdB 32 (Nd.rdT 100 (r, 0)).2).2)
def Nd.okR (s : List UInt8) (m : Nd.N) (st : Nd.St) : Bool := decide (st.2 = 0) && (Nd.fine m && decide (Nd.written m = s))
def Nd.decR : List UInt8 → Nd.N × Int
  | [] => (Nd.zero, 80)
  | k :: r => match Nd.rdR k r with
    | none => (Nd.zero, 80)
    | some (m, st) => if Nd.okR (k :: r) m st = true then (m, 0) else (Nd.zero, 80)
theorem Nd.rdR_kids {k : UInt8} {r : List UInt8} {m : Nd.N} {st : Nd.St} (h : Nd.rdR k r = some (m, st)) : m.kids.length = 16 := by
  unfold Nd.rdR at h
  split at h
  · split at h
    · cases h
    · cases h; exact Nd.rdK_len _
  · split at h
    · cases h
    · split at h
      · cases h; rfl
      · cases h; simp [Nd.none16]
theorem Nd.rdR_written (m : Nd.N) (hm : m.kids.length = 16) (hf : Nd.fine m = true) : ∃ k r st, Nd.written m = k :: r ∧ Nd.rdR k r = some (m, st) ∧ st.2 = 0 := by
  have hf0 := hf
  rw [Nd.fine_kinds m hm] at hf
  obtain ⟨kd, p, v, ks⟩ := m
  simp only at hm hf
  by_cases k1 : kd = 1
  · subst k1
    rw [if_pos rfl] at hf
    simp only [Nd.leafB, Nd.pathB, Bool.and_eq_true, decide_eq_true_eq, beq_iff_eq] at hf
    obtain ⟨⟨a, b⟩, c, d, e⟩ := hf
    subst e
    refine ⟨1, Code.textL (Nib.packL p true) ++ Code.textL v, ([], 0), rfl, ?_, rfl⟩
    have h1 := Nd.rdT_text 100 (Nib.packL p true) (Code.textL v) (by rw [Nib.packL_length]; omega) (by decide)
    have h2 := Nd.rdT_text 32 v [] d (by decide)
    rw [List.append_nil] at h2
    rw [show ((100 : Nat) : Int) = 100 from rfl] at h1
    rw [show ((32 : Nat) : Int) = 32 from rfl] at h2
    unfold Nd.rdR
    rw [if_neg (by decide), h1]
    simp only [Nib.unpack_pack p true b]
    rw [if_pos (by decide), h2]
  rw [if_neg k1] at hf
  by_cases k2 : kd = 2
  · subst k2
    rw [if_pos rfl] at hf
    simp only [Nd.extB, Nd.pathB, Bool.and_eq_true, decide_eq_true_eq, beq_iff_eq] at hf
    obtain ⟨a, ⟨b, c⟩, d, e, f⟩ := hf
    subst d
    have hk : Nd.none16.set 0 (ks.getD 0 []) = ks := by
      match ks, hm with
      | z :: l, hm => rw [← f]; simp
    refine ⟨2, Code.textL (Nib.packL p false) ++ ks.getD 0 [], ([], 0), rfl, ?_, rfl⟩
    have h1 := Nd.rdT_text 100 (Nib.packL p false) (ks.getD 0 []) (by rw [Nib.packL_length]; omega) (by decide)
    have h2 := Nd.rdB_app (ks.getD 0 []) [] 32 e
    rw [List.append_nil] at h2
    rw [show ((100 : Nat) : Int) = 100 from rfl] at h1
    unfold Nd.rdR
    rw [if_neg (by decide), h1]
    simp only [Nib.unpack_pack p false c]
    rw [if_neg (by decide), h2]
    simp only
    rw [hk]
    rfl
  rw [if_neg k2] at hf
  by_cases k3 : kd = 3
  · subst k3
    rw [if_pos rfl] at hf
    simp only [Nd.branchB, Bool.and_eq_true, decide_eq_true_eq] at hf
    obtain ⟨a, b, c, d⟩ := hf
    subst a
    refine ⟨3, Nd.takenL ks ++ (ks.flatten ++ Code.textL v), ([], 0), rfl, ?_, rfl⟩
    have h2 := Nd.rdT_text 32 v [] b (by decide)
    rw [List.append_nil] at h2
    rw [show ((32 : Nat) : Int) = 32 from rfl] at h2
    unfold Nd.rdR
    rw [if_pos (by decide), Nd.rdB_app (Nd.takenL ks) _ 2 rfl, if_neg (by show ¬ (2 < 2); decide), Nd.rdK_taken ks _ hm c, h2]
  rw [if_neg k3] at hf
  cases hf
theorem Nd.decR_is (s : List UInt8) : Nd.DecIs s (Nd.decR s) := by
  have key : Nd.decR s = (Nd.zero, 80) → ∀ m : Nd.N, m.kids.length = 16 → Nd.fine m = true → Nd.written m ≠ s := by
    intro h m hm hf he
    obtain ⟨k, r, st, h1, h2, h3⟩ := Nd.rdR_written m hm hf
    rw [← he, h1] at h
    simp only [Nd.decR, h2] at h
    rw [if_pos (by simp [Nd.okR, h3, hf, h1])] at h
    cases h
  match s with
  | [] => exact Or.inr ⟨rfl, rfl, key rfl⟩
  | k :: r =>
    match hR : Nd.rdR k r with
    | none =>
      have e : Nd.decR (k :: r) = (Nd.zero, 80) := by simp only [Nd.decR, hR]
      rw [e]
      exact Or.inr ⟨rfl, rfl, key e⟩
    | some (m, st) =>
      cases ho : Nd.okR (k :: r) m st with
      | false =>
        have e : Nd.decR (k :: r) = (Nd.zero, 80) := by
          simp only [Nd.decR, hR, ho]
          rfl
        rw [e]
        exact Or.inr ⟨rfl, rfl, key e⟩
      | true =>
        have e : Nd.decR (k :: r) = (m, 0) := by
          simp only [Nd.decR, hR, ho]
          rfl
        rw [e]
        simp only [Nd.okR, Bool.and_eq_true, decide_eq_true_eq] at ho
        exact Or.inl ⟨rfl, ho.2.1, Nd.rdR_kids hR, ho.2.2⟩
theorem Nd.dec_same (s : List UInt8) : Nd.decR s = Nd.dec s := Nd.dec_one (Nd.decR_is s) (Nd.dec_is s)
end Go.Proofs.YtjfefphgikncnaaGreatDoor
