/- (*sha.Hash).Write. -/
import Derived.Test.YtbjfihbjfoaghaaDoorShaHash
import Derived.Test.YtbjfihbjfoaghaaDoorShaBlock
import Derived.Deep.RegionLaw
import Derived.Deep.RegionWith
import Derived.Lib.Strings
namespace Go.Proofs.YtbjfihbjfoaghaaDoor
open Go.RowKit
attribute [local go_sem ↓] Go.wp_at_zero Go.wp_at_succ

def load64 (v : Value) : Sem Value := Instr.loadAt 93 v
theorem wp_load64 {P : Program} {dst : Option Tmp} {x : Operand} {ty : TypeId} {pos : String} {after : Array Edge} {guard : Option (Nat × Bool)} {a : Act} {w : World} {K : Act → World → Prop} {Q : Exit → Act → World → Prop} :
    Oper.wp P { dst := dst, op := .load 93 x, type := ty, pos := pos, after := after, guard := guard } a w K Q = Oper.upon P { dst := dst, op := .load 93 x, type := ty, pos := pos, after := after, guard := guard } a K Q (((load64 (a.eval x)).run P w).andThen fun v w' => .ok (.value v) w') := by
  unfold Oper.wp execOp load64
  simp only [Sem.run_bind, Sem.run_pure]
attribute [local go_sem ↓] wp_load64
theorem run_load64 (w : World) (g : Nat) (S : Sha.St) (o : List UInt8) (n : Nat) (ho : o.length = 64) (hg : w.heap[g]? = some (.cells (hashL S o n).toArray 95 (0, 0))) :
    (load64 (.pointer (some ⟨g, 8, none⟩))).run Tryd.prog w = .ok (.agg (u8s o)) w := by
  have := run_loadAt_mid (P := Tryd.prog) w g 8 93 (cellsL o) _ (fun j v hv => by
    have hj : j < o.length := by
      rcases Nat.lt_or_ge j o.length with hq | hq
      · exact hq
      · rw [List.getElem?_eq_none (by rw [cellsL_length]; exact hq)] at hv; cases hv
    refine (cell_of_row w g (8 + j) _ _ _ hg).trans ((hashL_open _ _ _ j hj).trans ?_)
    rw [← hv]
    simp [cellsL, hj]) Tryd.underlying93 rfl (by rw [cellsL_length, ho]; exact Tryd.info64b)
  exact this

theorem words_there {w : World} {p : Nat} {t : TypeId} {s : Sha.St} {o : List UInt8} {n : Nat} (hg : w.heap[p]? = some (.cells (hashL s o n).toArray t (0, 0))) : w.cell? ⟨p, 0, none⟩ = some (.int .u32 s.a) ∧ w.cell? ⟨p, 1, none⟩ = some (.int .u32 s.b) ∧ w.cell? ⟨p, 2, none⟩ = some (.int .u32 s.c) ∧ w.cell? ⟨p, 3, none⟩ = some (.int .u32 s.d) ∧ w.cell? ⟨p, 4, none⟩ = some (.int .u32 s.e) ∧ w.cell? ⟨p, 5, none⟩ = some (.int .u32 s.f) ∧ w.cell? ⟨p, 6, none⟩ = some (.int .u32 s.g) ∧ w.cell? ⟨p, 7, none⟩ = some (.int .u32 s.h) ∧ w.frozen? ⟨p, 0, none⟩ = false ∧ w.frozen? ⟨p, 1, none⟩ = false ∧ w.frozen? ⟨p, 2, none⟩ = false ∧ w.frozen? ⟨p, 3, none⟩ = false ∧ w.frozen? ⟨p, 4, none⟩ = false ∧ w.frozen? ⟨p, 5, none⟩ = false ∧ w.frozen? ⟨p, 6, none⟩ = false ∧ w.frozen? ⟨p, 7, none⟩ = false :=
  ⟨cell_of_row w p 0 _ t _ hg, cell_of_row w p 1 _ t _ hg, cell_of_row w p 2 _ t _ hg, cell_of_row w p 3 _ t _ hg, cell_of_row w p 4 _ t _ hg, cell_of_row w p 5 _ t _ hg, cell_of_row w p 6 _ t _ hg, cell_of_row w p 7 _ t _ hg, frozen_of_row w p 0 _ t hg, frozen_of_row w p 1 _ t hg, frozen_of_row w p 2 _ t hg, frozen_of_row w p 3 _ t hg, frozen_of_row w p 4 _ t hg, frozen_of_row w p 5 _ t hg, frozen_of_row w p 6 _ t hg, frozen_of_row w p 7 _ t hg⟩
theorem hash_set8 {w : World} {g : Nat} {T : TypeId} {s : Sha.St} (t : Sha.St) {o : List UInt8} {n : Nat} (h : w.heap[g]? = some (.cells (hashL s o n).toArray T (0, 0))) : ((((((((w.setCell ⟨g, 0, none⟩ (.int .u32 t.a)).setCell ⟨g, 1, none⟩ (.int .u32 t.b)).setCell ⟨g, 2, none⟩ (.int .u32 t.c)).setCell ⟨g, 3, none⟩ (.int .u32 t.d)).setCell ⟨g, 4, none⟩ (.int .u32 t.e)).setCell ⟨g, 5, none⟩ (.int .u32 t.f)).setCell ⟨g, 6, none⟩ (.int .u32 t.g)).setCell ⟨g, 7, none⟩ (.int .u32 t.h)).heap[g]? = some (.cells (hashL t o n).toArray T (0, 0)) := by
  rw [← hashL_set8 s t o n]
  exact (heap_setCell_same _ _ 7 _ _ (.int .u32 t.h) (heap_setCell_same _ _ 6 _ _ (.int .u32 t.g) (heap_setCell_same _ _ 5 _ _ (.int .u32 t.f) (heap_setCell_same _ _ 4 _ _ (.int .u32 t.e) (heap_setCell_same _ _ 3 _ _ (.int .u32 t.d) (heap_setCell_same _ _ 2 _ _ (.int .u32 t.c) (heap_setCell_same _ _ 1 _ _ (.int .u32 t.b) (heap_setCell_same _ _ 0 _ _ (.int .u32 t.a) h))))))))
theorem only_set8 {a w : World} {g : Nat} (t : Sha.St) (h : Only g a w) : Only g a ((((((((w.setCell ⟨g, 0, none⟩ (.int .u32 t.a)).setCell ⟨g, 1, none⟩ (.int .u32 t.b)).setCell ⟨g, 2, none⟩ (.int .u32 t.c)).setCell ⟨g, 3, none⟩ (.int .u32 t.d)).setCell ⟨g, 4, none⟩ (.int .u32 t.e)).setCell ⟨g, 5, none⟩ (.int .u32 t.f)).setCell ⟨g, 6, none⟩ (.int .u32 t.g)).setCell ⟨g, 7, none⟩ (.int .u32 t.h)) :=
  ((((((((h.setCell rfl _).setCell rfl _).setCell rfl _).setCell rfl _).setCell rfl _).setCell rfl _).setCell rfl _).setCell rfl _)
def strLen : Value → Nat
  | .string b => b.size
  | _ => 0
theorem info_byte : (Tryd.prog.info? 5).map (·.size) = some 1 := by kernel_rfl

set_option maxRecDepth 8000 in
set_option maxHeartbeats 1000000 in
theorem write_any (t s : List UInt8) (g : Nat) (w : World) (hh : HashIs w g t) (hT : Tab w) (hg0 : 0 < g) (hl : t.length + s.length ≤ 1152921504606846975) :
    Calls Tryd.prog 74 #[.pointer (some ⟨g, 0, none⟩), .string ⟨s.toArray⟩] w fun e w' => e = .returned (.tuple #[]) ∧ HashIs w' g (t ++ s) ∧ Only g w w' := by
  have HH := Lib.hid hh
  have HT := Lib.hid hT
  clear hh hT
  go_enter Tryd.func74, Tryd.ntmps74
  go_wp2
  go_loopw [1] (fun v wr => ∃ k : Nat, k ≤ s.length ∧ v = .string ⟨(s.drop k).toArray⟩ ∧ HashIs wr g (t ++ s.take k) ∧ Only g w wr) (fun v _ => strLen v)
  case atStart => exact ⟨0, Nat.zero_le _, rfl, by simpa using HH.out, Only.refl _ _⟩
  case round =>
    obtain ⟨k, hk, rfl, hh, ho⟩ := hrel
    have HO := Lib.hid ho
    have HTr := Lib.hid (HT.out.only ho hg0)
    obtain ⟨x, hx⟩ : ∃ x, s.drop k = x := ⟨_, rfl⟩
    obtain ⟨t1, ht1⟩ : ∃ t1, t ++ s.take k = t1 := ⟨_, rfl⟩
    have HX := Lib.hid hx
    have HT1 := Lib.hid ht1
    have hxl : x.length = s.length - k := by rw [← hx, List.length_drop]
    have htl : t1.length = t.length + k := by rw [← ht1, List.length_append, List.length_take]; omega
    rw [ht1] at hh
    rw [hx]
    clear hx ht1 ho HT
    by_cases hx0 : x = []
    · subst hx0
      have HHF := Lib.hid hh
      clear hh
      go_wp2
      go_end0
      refine ⟨rfl, ?_, HO.out⟩
      have e : s.take k = s := List.take_of_length_le (List.drop_eq_nil_iff.1 HX.out)
      rw [← HT1.out, e] at HHF
      exact HHF.out
    · have hxe : x.isEmpty = false := by cases x <;> simp_all
      obtain ⟨o, hol, hoq, hgr⟩ := hh
      obtain ⟨c, hc⟩ : ∃ c, t1.length = c := ⟨_, rfl⟩
      obtain ⟨m, hm⟩ : ∃ m : Nat, t1.length % 64 = m := ⟨_, rfl⟩
      have hm64 : m < 64 := by omega
      obtain ⟨n, hn⟩ : ∃ n, n = Nat.min x.length (64 - m) := ⟨_, rfl⟩
      have hnx : n ≤ x.length := by rw [hn]; exact Nat.min_le_left _ _
      have hnm : n ≤ 64 - m := by rw [hn]; exact Nat.min_le_right _ _
      have hn1 : 1 ≤ n := by
        have : x.length ≠ 0 := fun h => hx0 (List.eq_nil_of_length_eq_zero h)
        rw [hn, Nat.le_min]; omega
      have hcm : (c : Int) % 64 = (m : Int) := by omega
      have hct : (c : Int).tmod 64 = (m : Int) := by rw [Int.tmod_eq_emod_of_nonneg (by omega)]; exact hcm
      rw [hm] at hoq
      rw [hc] at hgr
      have hcopy := hashL_copy (Sha.wordsP t1) o (x.take n) c m hol (by rw [List.length_take]; omega)
      rw [show (x.take n).length = n by rw [List.length_take]; omega] at hcopy
      obtain ⟨o1, ho1⟩ : ∃ o1, o.take m ++ x.take n ++ o.drop (m + n) = o1 := ⟨_, rfl⟩
      rw [ho1] at hcopy
      have ho1l : o1.length = 64 := by rw [← ho1]; simp; omega
      have ho1t : o1.take (m + n) = Sha.restP t1 ++ x.take n := by
        rw [← ho1, ← hoq, List.take_append_of_le_length (by simp; omega), List.take_of_length_le (by simp; omega)]
      have HGR := Lib.hid hgr
      have HOL := Lib.hid ho1l
      have HOT := Lib.hid ho1t
      have HCO := Lib.hid hcopy
      have HNN := Lib.hid hn
      have HC := Lib.hid hc
      have HM := Lib.hid hm
      have hfit : 8 + m + n ≤ (hashL (Sha.wordsP t1) o c).toArray.size := by rw [List.size_toArray, hashL_length _ _ _ hol]; omega
      have HFI := Lib.hid hfit
      have c72 : wr.cell? ⟨g, 72, none⟩ = some (.int .u64 (c : Int)) := (cell_of_row wr g 72 _ _ _ hgr).trans (hashL_count _ _ _ hol)
      have hmI : (m : Int) ≤ 64 := by omega
      have hm0 : (0 : Int) ≤ (m : Int) := by omega
      have hmne : ¬ (64 = m) := by omega
      have hcn : (c : Int) + (n : Int) ≤ 1152921504606846975 := by omega
      have hnxI : (n : Int) ≤ (x.length : Int) := by omega
      have hex := ext_drop x n
      obtain ⟨S, hS⟩ : ∃ S, Sha.wordsP t1 = S := ⟨_, rfl⟩
      rw [hS] at HGR HCO HFI
      have HS := Lib.hid hS
      have HST : Hid (x.drop n = s.drop (k + n)) := Lib.hid (by rw [← HX.out, List.drop_drop])
      have HTX : Hid (t1 ++ x.take n = t ++ s.take (k + n)) := Lib.hid (by rw [← HX.out, ← HT1.out, List.append_assoc, List.take_add])
      have hxs : n + k ≤ s.length := by omega
      have HXL := Lib.hid hxl
      have HTL := Lib.hid htl
      clear hxl htl hgr ho1l ho1t hcopy hn hc hm hfit hoq hol ho1 hS hx0
      go_wp2
      go_region_law ((refine step_copy_part (by rfl) _ _ 64 9 (by rfl) 5 Tryd.underlying64 info_byte g (8 + m) (64 - m) (64 - m) n x (by rfl) (by rfl) (hashL S o c).toArray 95 HGR.out HNN.out HFI.out ?_; intro w4 hg4 ho4))
      have h4 : w4.heap[g]? = some (.cells ((hashL S o c).take (8 + m) ++ cellsL (x.take n) ++ (hashL S o c).drop (8 + m + n)).toArray 95 (0, 0)) := hg4.out
      rw [HCO.out] at h4
      have HG4 := Lib.hid h4
      have HO4 : Hid (Only g w w4) := Lib.hid (HO.out.trans ho4.out.of_drew)
      have HT4 : Hid (Tab w4) := Lib.hid (HTr.out.only ho4.out.of_drew hg0)
      have d72 : w4.cell? ⟨g, 72, none⟩ = some (.int .u64 (c : Int)) := (cell_of_row w4 g 72 _ _ _ h4).trans (hashL_count _ _ _ HOL.out)
      have f72 : w4.frozen? ⟨g, 72, none⟩ = false := frozen_of_row w4 g 72 _ _ h4
      clear hg4 ho4 h4 c72 HGR HCO HFI HTr HO hct hcm
      by_cases hfull : m + n = 64
      · have hr : ((c : Int) + (n : Int)).tmod 64 = 0 := by
          have h1 := HC.out; have h2 := HM.out
          rw [Int.tmod_eq_emod_of_nonneg (by omega)]; omega
        have hr' : ((c : Int) + (n : Int)) % 64 = 0 := by
          have h1 := HC.out; have h2 := HM.out
          omega
        go_wp2
        obtain ⟨w5, hw5⟩ : ∃ w5, w4.setCell ⟨g, 72, none⟩ (.int .u64 ((c : Int) + (n : Int))) = w5 := ⟨_, rfl⟩
        have h5 : w5.heap[g]? = some (.cells (hashL S o1 (c + n)).toArray 95 (0, 0)) := by
          rw [← hw5, ← hashL_setCount S o1 c (c + n) HOL.out]
          exact heap_setCell_same _ _ _ _ _ _ HG4.out
        have HO5 : Hid (Only g w w5) := Lib.hid (by rw [← hw5]; exact HO4.out.setCell rfl _)
        have HT5 : Hid (Tab w5) := Lib.hid (by rw [← hw5]; exact HT4.out.only ((Only.refl g w4).setCell rfl _) hg0)
        have HG5 := Lib.hid h5
        rw [hw5]
        obtain ⟨a, b, c1, d, e, f, g1, h⟩ := S
        have k0 : w5.cell? ⟨g, 0, none⟩ = some (.int .u32 a) := cell_of_row w5 g 0 _ _ _ h5
        have k1 : w5.cell? ⟨g, 1, none⟩ = some (.int .u32 b) := cell_of_row w5 g 1 _ _ _ h5
        have k2 : w5.cell? ⟨g, 2, none⟩ = some (.int .u32 c1) := cell_of_row w5 g 2 _ _ _ h5
        have k3 : w5.cell? ⟨g, 3, none⟩ = some (.int .u32 d) := cell_of_row w5 g 3 _ _ _ h5
        have k4 : w5.cell? ⟨g, 4, none⟩ = some (.int .u32 e) := cell_of_row w5 g 4 _ _ _ h5
        have k5 : w5.cell? ⟨g, 5, none⟩ = some (.int .u32 f) := cell_of_row w5 g 5 _ _ _ h5
        have k6 : w5.cell? ⟨g, 6, none⟩ = some (.int .u32 g1) := cell_of_row w5 g 6 _ _ _ h5
        have k7 : w5.cell? ⟨g, 7, none⟩ = some (.int .u32 h) := cell_of_row w5 g 7 _ _ _ h5
        have kl : (load64 (.pointer (some ⟨g, 8, none⟩))).run Tryd.prog w5.drew = .ok (.agg (u8s o1)) w5.drew := run_load64 w5.drew g _ o1 _ HOL.out h5
        have hbl := fun W (hW : Tab W) => block_any ⟨a, b, c1, d, e, f, g1, h⟩ o1 W HOL.out hW
        obtain ⟨T, hT⟩ : ∃ T, Sha.blockP ⟨a, b, c1, d, e, f, g1, h⟩ o1 = T := ⟨_, rfl⟩
        rw [hT] at hbl
        have HTT := Lib.hid hT
        have HTD : Hid (Tab w5.drew) := Lib.hid HT5.out
        obtain ⟨ta, tb, tc, td, te, tf, tg, th⟩ := T
        simp only [Sha.St.list, u32s, List.map_cons, List.map_nil] at hbl
        have HBL := Lib.hid hbl
        have HG5 := Lib.hid h5
        clear hw5 h5 d72 f72 HG4 HO4 HT4 hr hr' hbl hT
        go_region_with ((go_at_call 85; refine (HBL.out _ HTD.out).mono ?_; rintro e w6 ⟨rfl, hb6⟩; obtain ⟨z0, z1, z2, z3, z4, z5, z6, z7, y0, y1, y2, y3, y4, y5, y6, y7⟩ := words_there ((hb6.block g (lt_of_heap HG5.out)).trans HG5.out)))
        all_goals go_wp2
        all_goals go_roundw
        case rel =>
          refine ⟨k + n, by omega, by rw [HST.out], ?_, only_set8 ⟨ta, tb, tc, td, te, tf, tg, th⟩ (HO5.out.trans (Only.of hb6).of_drew)⟩
          have hm := HM.out
          have hxn : (x.take n).length = n := by rw [List.length_take]; omega
          obtain ⟨hw, hr⟩ := Sha.words_next t1 (x.take n) (by omega)
          have ho1 : o1 = Sha.restP t1 ++ x.take n := by rw [← HOT.out, hfull, List.take_of_length_le (by rw [HOL.out]; omega)]
          have hlen : (t1 ++ x.take n).length = c + n := by rw [List.length_append, hxn, HC.out]
          rw [← HTX.out]
          refine ⟨o1, HOL.out, ?_, ?_⟩
          · rw [hr, show (t1 ++ x.take n).length % 64 = 0 by rw [List.length_append]; omega, List.take_zero]
          · rw [hlen, hw, ← ho1, HS.out, HTT.out]
            exact hash_set8 ⟨ta, tb, tc, td, te, tf, tg, th⟩ ((hb6.block g (lt_of_heap HG5.out)).trans HG5.out)
        case measure =>
          simp [strLen, ByteArray.size]; omega
        case rel =>
          refine ⟨k + n, by omega, by rw [HST.out], ?_, only_set8 ⟨ta, tb, tc, td, te, tf, tg, th⟩ (HO5.out.trans (Only.of hb6).of_drew)⟩
          have hm := HM.out
          have hxn : (x.take n).length = n := by rw [List.length_take]; omega
          obtain ⟨hw, hr⟩ := Sha.words_next t1 (x.take n) (by omega)
          have ho1 : o1 = Sha.restP t1 ++ x.take n := by rw [← HOT.out, hfull, List.take_of_length_le (by rw [HOL.out]; omega)]
          have hlen : (t1 ++ x.take n).length = c + n := by rw [List.length_append, hxn, HC.out]
          rw [← HTX.out]
          refine ⟨o1, HOL.out, ?_, ?_⟩
          · rw [hr, show (t1 ++ x.take n).length % 64 = 0 by rw [List.length_append]; omega, List.take_zero]
          · rw [hlen, hw, ← ho1, HS.out, HTT.out]
            exact hash_set8 ⟨ta, tb, tc, td, te, tf, tg, th⟩ ((hb6.block g (lt_of_heap HG5.out)).trans HG5.out)
        case measure =>
          simp [strLen, ByteArray.size]; omega
      · obtain ⟨r, hrr⟩ : ∃ r : Nat, r = m + n := ⟨_, rfl⟩
        have hr : ((c : Int) + (n : Int)).tmod 64 = (r : Int) := by
          have h1 := HC.out; have h2 := HM.out
          rw [Int.tmod_eq_emod_of_nonneg (by omega)]; omega
        have hr' : ((c : Int) + (n : Int)) % 64 = (r : Int) := by
          have h1 := HC.out; have h2 := HM.out
          omega
        have hr0 : ¬ ((r : Int) = 0) := by omega
        have hrb : ((r : Int) == 0) = false := by simpa using hr0
        go_wp2
        go_roundw
        case rel =>
          refine ⟨k + n, by omega, by rw [HST.out], ?_, HO4.out.setCell rfl _⟩
          have hm := HM.out
          have hxn : (x.take n).length = n := by rw [List.length_take]; omega
          obtain ⟨hw, hr⟩ := Sha.words_same t1 (x.take n) (by omega)
          have hlen : (t1 ++ x.take n).length = c + n := by rw [List.length_append, hxn, HC.out]
          rw [← HTX.out]
          refine ⟨o1, HOL.out, ?_, ?_⟩
          · rw [hr, show (t1 ++ x.take n).length % 64 = m + n by rw [List.length_append]; omega, HOT.out]
          · rw [hlen, hw, HS.out, ← hashL_setCount S o1 c (c + n) HOL.out]
            exact heap_setCell_same _ _ _ _ _ _ HG4.out
        case measure =>
          simp [strLen, ByteArray.size]; omega
end Go.Proofs.YtbjfihbjfoaghaaDoor
