/- CertDec, CertRefEnc, CertEnc, CertDecMath, BookCert, ShaLaid, PowBoth, CertLaw, AppendArg -/
import Derived.Test.YtojpkodmpjibkaaDoorPk09
import Derived.Test.YtojpkodmpjibkaaDoorPk11
import Derived.Test.YtojpkodmpjibkaaDoorPk06
import Derived.Test.YtojpkodmpjibkaaDoorPk07
import Derived.Test.YtojpkodmpjibkaaDoorPk10
import Derived.Test.YtojpkodmpjibkaaDoorPk01
import Derived.Test.YtojpkodmpjibkaaDoorPk05
import Derived.WalkSpells
import Derived.WalkLawsBesides
import Derived.Test.YtojpkodmpjibkaaDoorRows
import Derived.Test.YtojpkodmpjibkaaDoorPk03
import Derived.Lib.LaidU8
import Derived.LaidMore
import Derived.Stop.Joined
import Derived.ProofKit
import Derived.Maps.AppendAt
namespace Go.Proofs.YtojpkodmpjibkaaDoor
open Go.RowKit Go.ChangeShapes Go.WideShapes
open Go.Proofs.YtojpkodmpjibkaaDoor.Ct (C)

def Ct.decS (s : List UInt8) : List (List UInt8) × List UInt8 × Int := Code.listR 7 6 (s.drop 32)
def Ct.decOK (s : List UInt8) : Bool := decide (32 ≤ s.length) && (decide (Pw.endC (Ct.decS s).2 = 0) && Ct.may ⟨s.take 32, (Ct.decS s).1⟩)
def Ct.decV (s : List UInt8) : C := if Ct.decOK s then ⟨s.take 32, (Ct.decS s).1⟩ else ⟨[], []⟩
def Ct.decC (s : List UInt8) : Int := if Ct.decOK s then 0 else 3
def CDecPost (s : List UInt8) (w : World) (e : Ending) (w' : World) : Prop :=
  ∃ z, e = .returned (.tuple #[.agg #[.string ⟨(Ct.decV s).dig.toArray⟩, z], .int .i64 (Ct.decC s)]) ∧ Own w' w.heap.size z (Ct.decV s).sig ∧ Below w.heap.size w w'

set_option maxRecDepth 8000 in
set_option maxHeartbeats 400000 in
theorem rlist_stuck (most each : Int) (s : List UInt8) (c : Int) (g : Nat) (w : World) (h : Rd w g s c) (hc : c ≠ 0) :
    Calls Tryd.prog 58 #[.pointer (some ⟨g, 0, none⟩), .int .i64 most, .int .i64 each] w fun e w' => e = .returned (.slice none 0 0) ∧ Below w.heap.size w w' := by
  have h0 := h.left
  have HC := Lib.hid (count_stuck most s c g w h hc)
  clear h hc
  go_enter Tryd.func58, Tryd.ntmps58
  go_wp2_with fail
  refine HC.out.mono ?_
  rintro e w1 ⟨rfl, rfl⟩
  go_wp2
  go_loopw [9, 19] (fun v i wr => v = .slice none 0 0 ∧ i = .int .i64 0 ∧ wr = w1) (fun _ _ _ => 0)
  case atStart => exact ⟨rfl, rfl, rfl⟩
  case round =>
    obtain ⟨rfl, rfl, rfl⟩ := hrel
    go_wp2
    go_ret
    exact ⟨rfl, Below.refl _ _⟩

theorem own_after {w : World} {p : Nat} {z : Value} {N : List (List UInt8)} {B : Nat} (h : Own w (p + 1) z N) (hB : B ≤ p) (x y : Value) : Own ((w.setCell ⟨p, 0, none⟩ x).setCell ⟨p, 1, none⟩ y) B z N :=
  (h.out (((Out.refl _ w).setCell (p := ⟨p, 0, none⟩) (Nat.lt_succ_self p) x).setCell (p := ⟨p, 1, none⟩) (Nat.lt_succ_self p) y)).low (Nat.le_trans hB (Nat.le_succ p))

set_option maxRecDepth 100000 in
set_option maxHeartbeats 2000000 in
theorem cdecode_any (s : List UInt8) (w : World) (hl : s.length ≤ 1000000) :
    Calls Tryd.prog 25 #[.string ⟨s.toArray⟩] w (CDecPost s w) := by
  unfold CDecPost
  have hb0 : Below w.heap.size w (w.alloc (.cells #[.string ⟨#[]⟩, .slice none 0 0] 28)) := (Below.refl _ w).alloc (Nat.le_refl _) _
  have HB0 := Lib.hid hb0
  have HL := Lib.hid hl
  obtain ⟨V, hV⟩ : ∃ V, Ct.decV s = V := ⟨_, rfl⟩
  obtain ⟨K, hK⟩ : ∃ K, Ct.decC s = K := ⟨_, rfl⟩
  have HV := Lib.hid hV
  have HK := Lib.hid hK
  rw [hV, hK]
  clear hV hK hb0 hl
  go_enter Tryd.func25, Tryd.ntmps25
  go_wp2_with fail
  have HROW := Lib.hid (heap_new_at w (.cells #[.string ⟨#[]⟩, .slice none 0 0] 28) w.heap.size rfl)
  have hsz := lt_of_heap HROW.out
  obtain ⟨p, hp⟩ : ∃ p, w.heap.size = p := ⟨_, rfl⟩
  have HPW := Lib.hid hp
  rw [hp] at hsz HROW ⊢
  have HSZ := Lib.hid hsz
  generalize (w.alloc (.cells #[.string ⟨#[]⟩, .slice none 0 0] 28)) = w0 at *
  have HBP : Hid (∀ w' x y, Below w0.heap.size w0 w' → Below w.heap.size w ((w'.setCell ⟨p, 0, none⟩ x).setCell ⟨p, 1, none⟩ y)) := Lib.hid (fun w' x y h => HB0.out.trans ((((Out.of (F := fun k => k = p) h).setCell (p := ⟨p, 0, none⟩) rfl x).setCell (p := ⟨p, 1, none⟩) rfl y).below (fun k hk => by rw [hp]; exact Nat.le_of_eq hk.symm) (by rw [hp]; exact Nat.le_of_lt hsz)))
  have HRP : Hid (∀ w', Below w0.heap.size w0 w' → w'.heap[p]? = some (.cells #[.string ⟨#[]⟩, .slice none 0 0] 28 (0, 0))) := Lib.hid (fun w' h => (h.block p hsz).trans HROW.out)
  clear hsz hp
  refine (read_any s w0).mono ?_
  rintro e w1 ⟨rfl, hr1, hb1⟩
  obtain ⟨g, hg⟩ : ∃ g, w0.heap.size = g := ⟨_, rfl⟩
  have HG := Lib.hid hg
  rw [hg] at hr1 hb1 ⊢
  have HB1 := Lib.hid hb1
  have HRB : Hid (∀ w', Below g w0 w' → w'.heap[p]? = some (.cells #[.string ⟨#[]⟩, .slice none 0 0] 28 (0, 0))) := Lib.hid (by rw [← hg]; exact HRP.out)
  have HPP : Hid (p < g) := Lib.hid (by rw [← hg]; exact HSZ.out)
  have HBPg : Hid (∀ w' x y, Below g w0 w' → Below w.heap.size w ((w'.setCell ⟨p, 0, none⟩ x).setCell ⟨p, 1, none⟩ y)) := Lib.hid (by rw [← hg]; exact HBP.out)
  clear hg hb1
  have HBY := Lib.hid (bytes_any 32 s g w1 hr1 (by have := HL.out; omega))
  clear hr1
  by_cases h32 : 32 ≤ s.length
  case neg =>
    have hby : Code.bytesR 32 s = ([], s, 20) := by
      unfold Code.bytesR
      rw [if_neg (by decide), if_pos (by show (32 : Int).toNat > _; simp; omega)]
    rw [hby] at HBY
    have hok : Ct.decOK s = false := by simp [Ct.decOK, h32]
    obtain rfl : V = ⟨[], []⟩ := by rw [← HV.out, Ct.decV, hok]; rfl
    obtain rfl : K = 3 := by rw [← HK.out, Ct.decC, hok]; rfl
    clear hby hok h32
    go_wp2_with fail
    refine HBY.out.mono ?_
    rintro e w2 ⟨rfl, hr2, ho2⟩
    have HB2 := Lib.hid (HB1.out.trans (ho2.below (Nat.le_refl g) (by have := HB1.out.size; have := HG.out; omega)))
    have HLI := Lib.hid (rlist_stuck 7 6 s 20 g w2 hr2 (by decide))
    have HR2 := Lib.hid hr2
    clear hr2 ho2
    go_wp2_with fail
    refine HLI.out.mono ?_
    rintro e w3 ⟨rfl, hb3⟩
    have HB3 := Lib.hid (HB2.out.trans (hb3.mono (by have := HB2.out.size; have := HG.out; omega)))
    have hr4 := (HR2.out.below hb3).below ((Below.refl _ w3).alloc (Nat.le_refl _) (.cells #[.string ⟨#[]⟩, .slice none 0 0] 28))
    have HB4 : Hid (Below g w0 (w3.alloc (.cells #[.string ⟨#[]⟩, .slice none 0 0] 28))) := Lib.hid (HB3.out.alloc (by have := HB3.out.size; have := HG.out; omega) _)
    have HE := Lib.hid (rend_st (s, 20) g _ hr4)
    rw [show Pw.endC (s, 20) = 20 by simp [Pw.endC]] at HE
    clear hr4 hb3
    go_wp2_with fail
    refine HE.out.mono ?_
    rintro e w5 ⟨rfl, ho5⟩
    have HB5 := Lib.hid (HB4.out.trans (ho5.below (Nat.le_refl g) (by have := HB4.out.size; have := HG.out; omega)))
    have hrp := HRB.out _ HB5.out
    obtain ⟨r0, r1, r2, r3⟩ := cells2 hrp
    clear ho5
    go_wp2
    refine bodyPost_ret (results_c1t rfl _ _ p _ _ (0, 0) _ rfl (set2 _ _ hrp) Tryd.underlying28 rfl (by kernel_rfl)) rfl ⟨_, rfl, Own.nil _ _, HBPg.out _ _ _ HB5.out⟩
  have hby : Code.bytesR 32 s = (s.take 32, s.drop 32, 0) := by
    unfold Code.bytesR
    rw [if_neg (by decide), if_neg (by show ¬ ((32 : Int).toNat > _); simp; omega)]
    rfl
  rw [hby] at HBY
  dsimp only at HBY
  have hok : Ct.decOK s = (decide (Pw.endC (Ct.decS s).2 = 0) && Ct.may ⟨s.take 32, (Ct.decS s).1⟩) := by simp [Ct.decOK, h32]
  have HLI := Lib.hid (fun w h => rlist_any 7 6 (s.drop 32) g w h (by have := HL.out; simp; omega))
  unfold Ct.decV at HV
  unfold Ct.decC at HK
  unfold Ct.decS at HV hok
  obtain ⟨⟨N, r, c⟩, hN⟩ : ∃ x, Code.listR 7 6 (s.drop 32) = x := ⟨_, rfl⟩
  obtain ⟨D, hD⟩ : ∃ x, s.take 32 = x := ⟨_, rfl⟩
  rw [hN, hD] at hok HV
  rw [hN] at HLI
  rw [hD] at HBY
  rw [hok] at HV HK
  dsimp only at HLI HV HK
  clear hN hD hby h32 hok
  go_wp2_with fail
  refine HBY.out.mono ?_
  rintro e w2 ⟨rfl, hr2, ho2⟩
  have HB2 := Lib.hid (HB1.out.trans (ho2.below (Nat.le_refl g) (by have := HB1.out.size; have := HG.out; omega)))
  have HLR := Lib.hid (HLI.out w2 hr2)
  have HR2L := Lib.hid hr2.lt
  clear hr2 ho2
  go_wp2_with fail
  refine HLR.out.mono ?_
  rintro e w3 ⟨z, rfl, hown, hr3, ho3⟩
  have HB3 := Lib.hid (HB2.out.trans (ho3.below (Nat.le_refl g) (by have := HB2.out.size; have := HG.out; omega)))
  change Own w3 w2.heap.size z N at hown
  obtain ⟨A, cap, rfl⟩ := own_form hown
  have hb4 : Below w3.heap.size w3 (w3.alloc (.cells #[.string ⟨D.toArray⟩, .slice A N.length cap] 28)) := (Below.refl _ w3).alloc (Nat.le_refl _) _
  have hr4 := hr3.below hb4
  have HB4 : Hid (Below g w0 (w3.alloc (.cells #[.string ⟨D.toArray⟩, .slice A N.length cap] 28))) := Lib.hid (HB3.out.alloc (by have := HB3.out.size; have := HG.out; omega) _)
  have HROWC := Lib.hid (heap_new_at w3 (.cells #[.string ⟨D.toArray⟩, .slice A N.length cap] 28) w3.heap.size rfl)
  have HGC : Hid (g < w3.heap.size) := Lib.hid hr3.lt
  have HOW4 := Lib.hid ((hown.below hb4).low (B' := g + 1) HR2L.out)
  have HE := Lib.hid (rend_st (r, c) g _ hr4)
  obtain ⟨E, hE⟩ : ∃ x, Pw.endC (r, c) = x := ⟨_, rfl⟩
  rw [hE] at HE HV HK
  clear hr4 hb4 hr3 ho3 hown hE
  go_wp2_with fail
  refine HE.out.mono ?_
  rintro e w5 ⟨rfl, ho5⟩
  have HB5 := Lib.hid (HB4.out.trans (ho5.below (Nat.le_refl g) (by have := HB4.out.size; have := HG.out; omega)))
  have HC5 := Lib.hid ((ho5.block w3.heap.size (lt_of_heap HROWC.out) (by have := HGC.out; omega)).trans HROWC.out)
  have HOW5 := Lib.hid (HOW4.out.only ho5 (Nat.lt_succ_self g))
  have hrp := HRB.out _ HB5.out
  clear ho5
  by_cases hE0 : E = 0
  case neg =>
    obtain ⟨r0, r1, r2, r3⟩ := cells2 hrp
    have hE1 : (E == 0) = false := by rw [beq_eq_false_iff_ne]; exact hE0
    have hE2 : (E != 0) = true := by rw [bne_iff_ne]; exact hE0
    obtain rfl : V = ⟨[], []⟩ := by rw [← HV.out]; simp [hE0]
    obtain rfl : K = 3 := by rw [← HK.out]; simp [hE0]
    go_wp2
    refine bodyPost_ret (results_c1t rfl _ _ p _ _ (0, 0) _ rfl (set2 _ _ hrp) Tryd.underlying28 rfl (by kernel_rfl)) rfl ⟨_, rfl, Own.nil _ _, HBPg.out _ _ _ HB5.out⟩
  subst hE0
  have HMY := Lib.hid (cmay_any ⟨D, N⟩ (.slice A N.length cap) w5 HOW5.out.strs)
  simp only [decide_true, Bool.true_and] at HV HK
  dsimp only at HMY
  obtain ⟨q0, q1, -, -⟩ := cells2 HC5.out
  cases hm : Ct.may ⟨D, N⟩ with
  | false =>
    rw [hm] at HMY HV HK
    obtain rfl : V = ⟨[], []⟩ := HV.out.symm
    obtain rfl : K = 3 := HK.out.symm
    clear hm hrp
    go_wp2_with fail
    refine HMY.out.mono ?_
    rintro e w6 ⟨rfl, hb6⟩
    have HB6 := Lib.hid (HB5.out.trans (hb6.mono (by have := HB5.out.size; have := HG.out; omega)))
    have hrp := HRB.out _ HB6.out
    obtain ⟨r0, r1, r2, r3⟩ := cells2 hrp
    clear hb6
    go_wp2
    refine bodyPost_ret (results_c1t rfl _ _ p _ _ (0, 0) _ rfl (set2 _ _ hrp) Tryd.underlying28 rfl (by kernel_rfl)) rfl ⟨_, rfl, Own.nil _ _, HBPg.out _ _ _ HB6.out⟩
  | true =>
    rw [hm] at HMY HV HK
    obtain rfl : V = ⟨D, N⟩ := HV.out.symm
    obtain rfl : K = 0 := HK.out.symm
    clear hm hrp
    go_wp2_with fail
    refine HMY.out.mono ?_
    rintro e w6 ⟨rfl, hb6⟩
    have HB6 := Lib.hid (HB5.out.trans (hb6.mono (by have := HB5.out.size; have := HG.out; omega)))
    have hrp := HRB.out _ HB6.out
    obtain ⟨r0, r1, r2, r3⟩ := cells2 hrp
    obtain ⟨s0, s1, -, -⟩ := cells2 ((hb6.block _ (lt_of_heap HC5.out)).trans HC5.out)
    have HOW6 := Lib.hid ((HOW5.out.below hb6).low (B' := p + 1) (by have := HPP.out; omega))
    clear hb6 q0 q1
    go_wp2
    refine bodyPost_ret (results_c1t rfl _ _ p _ _ (0, 0) _ rfl (set2 _ _ hrp) Tryd.underlying28 rfl (by kernel_rfl)) rfl ⟨_, rfl, own_after HOW6.out (Nat.le_of_eq HPW.out) _ _, HBPg.out _ _ _ HB6.out⟩

theorem Code.readN_len (n : Nat) (each : Int) (r : List UInt8) : (Code.readN n each r).1.length ≤ n := by
  induction n generalizing r with
  | zero => simp [Code.readN]
  | succ n ih =>
    rw [Code.readN]
    split
    · simp
    · have := ih (Code.textR each r).2.1
      simp only [List.length_cons]
      omega
theorem Code.listR_len (most each : Int) (s : List UInt8) (h : 0 ≤ most) : ((Code.listR most each s).1.length : Int) ≤ most := by
  unfold Code.listR
  split
  · simpa using h
  · rename_i h1
    split
    · simpa using h
    · have h2 := Code.readN_len (Code.countL most s).1 each (Code.countL most s).2.1
      have h3 : ((Code.countL most s).1 : Int) ≤ most := by
        unfold Code.countL
        split
        · simpa using h
        · split
          · simpa using h
          · omega
      omega

set_option maxRecDepth 100000 in
set_option maxHeartbeats 2000000 in
theorem rDecodeC_any (s : List UInt8) (w : World) (hl : s.length ≤ 1000000) :
    Calls Tryd.prog 26 #[.string ⟨s.toArray⟩] w (CDecPost s w) := by
  unfold CDecPost
  have hb0 : Below w.heap.size w (w.alloc (.cells #[.string ⟨#[]⟩, .slice none 0 0] 28)) := (Below.refl _ w).alloc (Nat.le_refl _) _
  have HB0 := Lib.hid hb0
  have HL := Lib.hid hl
  by_cases h32 : 32 ≤ s.length
  case neg =>
    have hok : Ct.decOK s = false := by simp [Ct.decOK, h32]
    rw [show Ct.decV s = ⟨[], []⟩ by rw [Ct.decV, hok]; rfl, show Ct.decC s = 3 by rw [Ct.decC, hok]; rfl]
    have hli : (s.length : Int) < 32 := by omega
    obtain ⟨r0, r1, r2, r3⟩ := cells2 (heap_new_at w (.cells #[.string ⟨#[]⟩, .slice none 0 0] 28) w.heap.size rfl)
    clear hok h32 hb0 hl
    go_enter Tryd.func26, Tryd.ntmps26
    go_wp2
    refine bodyPost_ret (results_c1t rfl _ _ w.heap.size _ _ (0, 0) _ rfl (heap_new_at w _ _ rfl) Tryd.underlying28 rfl (by kernel_rfl)) rfl ⟨_, rfl, Own.nil _ _, HB0.out⟩
  obtain ⟨V, hV⟩ : ∃ V, Ct.decV s = V := ⟨_, rfl⟩
  obtain ⟨K, hK⟩ : ∃ K, Ct.decC s = K := ⟨_, rfl⟩
  have HV := Lib.hid hV
  have HK := Lib.hid hK
  rw [hV, hK]
  clear hV hK hb0 hl
  have hok : Ct.decOK s = (decide (Pw.endC (Ct.decS s).2 = 0) && Ct.may ⟨s.take 32, (Ct.decS s).1⟩) := by simp [Ct.decOK, h32]
  have HLI := Lib.hid (fun g w h => rrlist_any 7 6 (s.drop 32) g w h (by have := HL.out; simp; omega))
  have hln := Code.listR_len 7 6 (s.drop 32) (by decide)
  unfold Ct.decV at HV
  unfold Ct.decC at HK
  unfold Ct.decS at HV hok
  unfold RListPost at HLI
  obtain ⟨⟨N, r, c⟩, hN⟩ : ∃ x, Code.listR 7 6 (s.drop 32) = x := ⟨_, rfl⟩
  have ht := ext_take s 32
  have hd := ext_drop s 32
  obtain ⟨D, hD⟩ : ∃ x, s.take 32 = x := ⟨_, rfl⟩
  obtain ⟨S, hS⟩ : ∃ x, s.drop 32 = x := ⟨_, rfl⟩
  rw [hN, hD] at hok HV
  rw [hN, hS] at HLI
  rw [hN] at hln
  rw [hD] at ht
  rw [hS] at hd
  rw [hok] at HV HK
  dsimp only at HLI HV HK hln
  have hli : ¬ ((s.length : Int) < 32) := by omega
  have hl2 : (32 : Int) ≤ (s.length : Int) := by omega
  have HN7 := Lib.hid hln
  clear hN hD hS hok hln h32
  go_enter Tryd.func26, Tryd.ntmps26
  go_wp2_with fail
  have hr1 : RRd ((w.alloc (.cells #[.string ⟨#[]⟩, .slice none 0 0] 28)).alloc (.cells #[.string ⟨S.toArray⟩, .int .i64 0] 85)) (w.heap.size + 1) S 0 := heap_new_at _ _ _ (by simp)
  have HROW := Lib.hid (heap_new_at w (.cells #[.string ⟨#[]⟩, .slice none 0 0] 28) w.heap.size rfl)
  have hsz := lt_of_heap HROW.out
  have hg0 : w.heap.size + 1 = (w.alloc (.cells #[.string ⟨#[]⟩, .slice none 0 0] 28)).heap.size := by simp
  have hb1 : Below (w.heap.size + 1) (w.alloc (.cells #[.string ⟨#[]⟩, .slice none 0 0] 28)) ((w.alloc (.cells #[.string ⟨#[]⟩, .slice none 0 0] 28)).alloc (.cells #[.string ⟨S.toArray⟩, .int .i64 0] 85)) := (Below.refl _ _).alloc (Nat.le_of_eq hg0) _
  obtain ⟨p, hp⟩ : ∃ p, w.heap.size = p := ⟨_, rfl⟩
  obtain ⟨g, hg⟩ : ∃ g, w.heap.size + 1 = g := ⟨_, rfl⟩
  have HPW := Lib.hid hp
  rw [hg] at hr1 hg0 hb1 ⊢
  have hpg : p < g := by omega
  rw [hp] at hsz HROW ⊢
  have HBP : Hid (∀ w' x y, Below g (w.alloc (.cells #[.string ⟨#[]⟩, .slice none 0 0] 28)) w' → Below w.heap.size w ((w'.setCell ⟨p, 0, none⟩ x).setCell ⟨p, 1, none⟩ y)) := Lib.hid (fun w' x y h => HB0.out.trans ((((Out.of (F := fun k => k = p) (hg0 ▸ h)).setCell (p := ⟨p, 0, none⟩) rfl x).setCell (p := ⟨p, 1, none⟩) rfl y).below (fun k hk => by rw [hp]; exact Nat.le_of_eq hk.symm) (by rw [hp]; exact Nat.le_of_lt hsz)))
  have HRB : Hid (∀ w', Below g (w.alloc (.cells #[.string ⟨#[]⟩, .slice none 0 0] 28)) w' → w'.heap[p]? = some (.cells #[.string ⟨#[]⟩, .slice none 0 0] 28 (0, 0))) := Lib.hid (fun w' h => (h.block p hpg).trans HROW.out)
  have HG := Lib.hid hg0
  have HPP := Lib.hid hpg
  have HB1 := Lib.hid hb1
  have HR1 := Lib.hid hr1
  clear hr1 hb1 hg0 hpg hsz
  generalize (w.alloc (.cells #[.string ⟨#[]⟩, .slice none 0 0] 28)) = w0 at *
  generalize (w0.alloc (.cells #[.string ⟨S.toArray⟩, .int .i64 0] 85)) = w1 at *
  clear hp hg
  refine (HLI.out _ _ HR1.out).mono ?_
  rintro e w3 ⟨z, rfl, hown, hr3, ho3⟩
  have HB3 := Lib.hid (HB1.out.trans (ho3.below (Nat.le_refl g) (by have := HB1.out.size; have := HG.out; omega)))
  obtain ⟨A, cap, rfl⟩ := own_form hown
  have hb4 : Below w3.heap.size w3 (w3.alloc (.cells #[.string ⟨D.toArray⟩, .slice A N.length cap] 28)) := (Below.refl _ w3).alloc (Nat.le_refl _) _
  have hr4 := hr3.below hb4
  have HB4 : Hid (Below g w0 (w3.alloc (.cells #[.string ⟨D.toArray⟩, .slice A N.length cap] 28))) := Lib.hid (HB3.out.alloc (by have := HB3.out.size; have := HG.out; omega) _)
  have HROWC := Lib.hid (heap_new_at w3 (.cells #[.string ⟨D.toArray⟩, .slice A N.length cap] 28) w3.heap.size rfl)
  have HGC : Hid (g < w3.heap.size) := Lib.hid hr3.lt
  have HOW4 := Lib.hid ((hown.below hb4).low (B' := g + 1) HR1.out.lt)
  have HE := Lib.hid (rrend_st (r, c) g _ hr4)
  obtain ⟨E, hE⟩ : ∃ x, Pw.endC (r, c) = x := ⟨_, rfl⟩
  rw [hE] at HE HV HK
  clear hr4 hb4 hr3 ho3 hown hE
  go_wp2_with fail
  refine HE.out.mono ?_
  rintro e w5 ⟨rfl, ho5⟩
  have HB5 := Lib.hid (HB4.out.trans (ho5.below (Nat.le_refl g) (by have := HB4.out.size; have := HG.out; omega)))
  have HC5 := Lib.hid ((ho5.block w3.heap.size (lt_of_heap HROWC.out) (by have := HGC.out; omega)).trans HROWC.out)
  have HOW5 := Lib.hid (HOW4.out.only ho5 (Nat.lt_succ_self g))
  have hrp := HRB.out _ HB5.out
  clear ho5
  by_cases hE0 : E = 0
  case neg =>
    obtain ⟨r0, r1, r2, r3⟩ := cells2 hrp
    have hE1 : (E == 0) = false := by rw [beq_eq_false_iff_ne]; exact hE0
    have hE2 : (E != 0) = true := by rw [bne_iff_ne]; exact hE0
    obtain rfl : V = ⟨[], []⟩ := by rw [← HV.out]; simp [hE0]
    obtain rfl : K = 3 := by rw [← HK.out]; simp [hE0]
    go_wp2
    refine bodyPost_ret (results_c1t rfl _ _ p _ _ (0, 0) _ rfl (set2 _ _ hrp) Tryd.underlying28 rfl (by kernel_rfl)) rfl ⟨_, rfl, Own.nil _ _, HBP.out _ _ _ HB5.out⟩
  subst hE0
  have HMY := Lib.hid (rMay_any ⟨D, N⟩ (.slice A N.length cap) w5 HOW5.out.strs (by have := HN7.out; dsimp only; omega))
  simp only [decide_true, Bool.true_and] at HV HK
  dsimp only at HMY
  obtain ⟨q0, q1, -, -⟩ := cells2 HC5.out
  cases hm : Ct.may ⟨D, N⟩ with
  | false =>
    rw [hm] at HMY HV HK
    obtain rfl : V = ⟨[], []⟩ := HV.out.symm
    obtain rfl : K = 3 := HK.out.symm
    clear hm hrp
    go_wp2_with fail
    refine HMY.out.mono ?_
    rintro e w6 ⟨rfl, hb6⟩
    have HB6 := Lib.hid (HB5.out.trans (hb6.mono (by have := HB5.out.size; have := HG.out; omega)))
    have hrp := HRB.out _ HB6.out
    obtain ⟨r0, r1, r2, r3⟩ := cells2 hrp
    clear hb6
    go_wp2
    refine bodyPost_ret (results_c1t rfl _ _ p _ _ (0, 0) _ rfl (set2 _ _ hrp) Tryd.underlying28 rfl (by kernel_rfl)) rfl ⟨_, rfl, Own.nil _ _, HBP.out _ _ _ HB6.out⟩
  | true =>
    rw [hm] at HMY HV HK
    obtain rfl : V = ⟨D, N⟩ := HV.out.symm
    obtain rfl : K = 0 := HK.out.symm
    clear hm hrp
    go_wp2_with fail
    refine HMY.out.mono ?_
    rintro e w6 ⟨rfl, hb6⟩
    have HB6 := Lib.hid (HB5.out.trans (hb6.mono (by have := HB5.out.size; have := HG.out; omega)))
    have hrp := HRB.out _ HB6.out
    obtain ⟨r0, r1, r2, r3⟩ := cells2 hrp
    obtain ⟨s0, s1, -, -⟩ := cells2 ((hb6.block _ (lt_of_heap HC5.out)).trans HC5.out)
    have HOW6 := Lib.hid ((HOW5.out.below hb6).low (B' := p + 1) (by have := HPP.out; omega))
    clear hb6 q0 q1
    go_wp2
    refine bodyPost_ret (results_c1t rfl _ _ p _ _ (0, 0) _ rfl (set2 _ _ hrp) Tryd.underlying28 rfl (by kernel_rfl)) rfl ⟨_, rfl, own_after HOW6.out (Nat.le_of_eq HPW.out) _ _, HBP.out _ _ _ HB6.out⟩
end Go.Proofs.YtojpkodmpjibkaaDoor
namespace Go.Proofs.YtojpkodmpjibkaaDoor
open Go.RowKit Go.ChangeShapes Go.WideShapes
open Go.Proofs.YtojpkodmpjibkaaDoor.Ct (C)

/-- A certificate's bytes. -/
def Ct.encB (c : C) : List UInt8 := c.dig ++ Code.listL c.sig
def Ct.encL (c : C) : List UInt8 := if Ct.may c then Ct.encB c else []
def Ct.encC (c : C) : Int := if Ct.may c then 0 else 3

set_option maxRecDepth 100000 in
set_option maxHeartbeats 1000000 in
theorem rEncodeC_any (c : C) (s : Value) (w : World) (hs : Strs w s c.sig) (hls : c.sig.length ≤ 1000000) :
    Calls Tryd.prog 24 #[.agg #[.string ⟨c.dig.toArray⟩, s]] w fun e w' => e = .returned (.tuple #[.string ⟨(Ct.encL c).toArray⟩, .int .i64 (Ct.encC c)]) ∧ Below w.heap.size w w' := by
  obtain ⟨D, N⟩ := c
  dsimp only at hs hls ⊢
  have HS := Lib.hid hs
  have HMY := Lib.hid (fun w hs => rMay_any ⟨D, N⟩ s w hs hls)
  obtain ⟨A2, cap2, rfl, -⟩ := hs
  dsimp only at HMY
  have hb0 : Below w.heap.size w (w.alloc (.cells #[.string ⟨D.toArray⟩, .slice A2 N.length cap2] 28)) := (Below.refl _ w).alloc (Nat.le_refl _) _
  have HB0 := Lib.hid hb0
  have HSB := Lib.hid (HS.out.below hb0)
  unfold Ct.encL Ct.encC
  cases hm : Ct.may ⟨D, N⟩ with
  | false =>
    rw [hm] at HMY
    rw [if_neg (by simp), if_neg (by simp)]
    clear hm hb0
    go_enter Tryd.func24, Tryd.ntmps24
    go_wp2_with fail
    refine (HMY.out _ HSB.out).mono ?_
    rintro e w1 ⟨rfl, hb1⟩
    go_wp2
    go_ret2
    exact ⟨rfl, HB0.out.trans (hb1.mono HB0.out.size)⟩
  | true =>
    rw [hm] at HMY
    rw [if_pos rfl, if_pos rfl]
    have hml := Ct.may_len hm
    have htx : (Code.textsL N).length ≤ 200 := by
      have h1 := Code.texts_bound N 6 (by omega) (fun x hx => (Ct.okNs_mem hml.2.2 x hx).2)
      have h2 := hml.2.1
      dsimp only at h2
      omega
    have hE1 : (Code.listL N).length ≤ 300 := by
      have h3 := Code.numL_length N.length
      have h4 := Code.sz_le8 N.length (by omega)
      rw [Code.listL, List.length_append]
      omega
    have hD1 : D.length ≤ 32 := Nat.le_of_eq hml.1
    have HTX := Lib.hid htx
    unfold Ct.encB
    dsimp only
    have HLI := Lib.hid (fun w hs => rList_any N (.slice A2 N.length cap2) w hs (by omega) (by omega))
    obtain ⟨E, hE⟩ : ∃ E, Code.listL N = E := ⟨_, rfl⟩
    rw [hE] at HLI hE1 ⊢
    have hcat := cat_mk D E
    have hZ1 : (D ++ E).length ≤ 332 := by rw [List.length_append]; omega
    obtain ⟨Z, hZ⟩ : ∃ Z, D ++ E = Z := ⟨_, rfl⟩
    rw [hZ] at hcat hZ1 ⊢
    clear hm hb0 hE hml htx hZ
    go_enter Tryd.func24, Tryd.ntmps24
    go_wp2_with fail
    obtain ⟨g0, g1, -, -⟩ := cells2 (heap_new_at w (.cells #[.string ⟨D.toArray⟩, .slice A2 N.length cap2] 28) w.heap.size rfl)
    have hsz := lt_of_heap (heap_new_at w (.cells #[.string ⟨D.toArray⟩, .slice A2 N.length cap2] 28) w.heap.size rfl)
    obtain ⟨p, hp⟩ : ∃ p, w.heap.size = p := ⟨_, rfl⟩
    rw [hp] at g0 g1 hsz
    generalize (w.alloc (.cells #[.string ⟨D.toArray⟩, .slice A2 N.length cap2] 28)) = w0 at *
    refine (HMY.out _ HSB.out).mono ?_
    rintro e w1 ⟨rfl, hb1⟩
    have HG : Hid (∀ w', Below w0.heap.size w0 w' → w'.cell? ⟨p, 0, none⟩ = some (.string ⟨D.toArray⟩) ∧ w'.cell? ⟨p, 1, none⟩ = some (.slice A2 N.length cap2)) := Lib.hid (fun w' h => ⟨(h.cell hsz).trans g0, (h.cell hsz).trans g1⟩)
    have HBD : Hid (Below w0.heap.size w0 w1.drew) := Lib.hid hb1.drew
    have HFI : Hid (∀ w', Below w0.heap.size w0 w' → Below w.heap.size w w') := Lib.hid (fun w' h => HB0.out.trans (h.mono (Nat.le_of_lt (hp ▸ hsz))))
    clear g0 g1 hsz
    obtain ⟨g0, g1⟩ := HG.out _ hb1
    clear hb1
    go_wp2
    go_region_with (go_at_call 55; refine (HLI.out _ (HSB.out.below HBD.out)).mono ?_; rintro e w2 ⟨rfl, hb2⟩; have hB2 : Below w0.heap.size w0 w2 := HBD.out.trans (hb2.mono HBD.out.size); have c0 := (HG.out w2 hB2).1; have c1 := (HG.out w2 hB2).2)
    all_goals
      go_wp2
      go_ret2
      exact ⟨rfl, HFI.out _ hB2⟩
end Go.Proofs.YtojpkodmpjibkaaDoor
namespace Go.Proofs.YtojpkodmpjibkaaDoor
open Go.RowKit Go.ChangeShapes Go.WideShapes
open Go.Proofs.YtojpkodmpjibkaaDoor.Ct (C)

set_option maxRecDepth 100000 in
set_option maxHeartbeats 1000000 in
theorem cencode_any (c : C) (s : Value) (w : World) (hs : Strs w s c.sig) :
    Calls Tryd.prog 23 #[.agg #[.string ⟨c.dig.toArray⟩, s]] w fun e w' => e = .returned (.tuple #[.string ⟨(Ct.encL c).toArray⟩, .int .i64 (Ct.encC c)]) ∧ Below w.heap.size w w' := by
  obtain ⟨D, N⟩ := c
  dsimp only at hs ⊢
  have HS := Lib.hid hs
  have HMY := Lib.hid (fun w hs => cmay_any ⟨D, N⟩ s w hs)
  obtain ⟨A2, cap2, rfl, -⟩ := hs
  dsimp only at HMY
  have hb0 : Below w.heap.size w (w.alloc (.cells #[.string ⟨D.toArray⟩, .slice A2 N.length cap2] 28)) := (Below.refl _ w).alloc (Nat.le_refl _) _
  have HB0 := Lib.hid hb0
  have HSB := Lib.hid (HS.out.below hb0)
  unfold Ct.encL Ct.encC
  cases hm : Ct.may ⟨D, N⟩ with
  | false =>
    rw [hm] at HMY
    rw [if_neg (by simp), if_neg (by simp)]
    obtain ⟨g0, g1, -, -⟩ := cells2 (heap_new_at w (.cells #[.string ⟨D.toArray⟩, .slice A2 N.length cap2] 28) w.heap.size rfl)
    clear hm hb0
    go_enter Tryd.func23, Tryd.ntmps23
    go_wp2_with fail
    refine (HMY.out _ HSB.out).mono ?_
    rintro e w1 ⟨rfl, hb1⟩
    go_wp2
    go_ret2
    exact ⟨rfl, HB0.out.trans (hb1.mono HB0.out.size)⟩
  | true =>
    rw [hm] at HMY
    rw [if_pos rfl, if_pos rfl]
    have hml := Ct.may_len hm
    have htx : (Code.textsL N).length ≤ 200 := by
      have h1 := Code.texts_bound N 6 (by omega) (fun x hx => (Ct.okNs_mem hml.2.2 x hx).2)
      have h2 := hml.2.1
      dsimp only at h2
      omega
    have hN7 : N.length ≤ 7 := hml.2.1
    have hE1 : (Code.listL N).length ≤ 300 := by
      have h3 := Code.numL_length N.length
      have h4 := Code.sz_le8 N.length (by omega)
      rw [Code.listL, List.length_append]
      omega
    have hD1 : D.length ≤ 32 := Nat.le_of_eq hml.1
    unfold Ct.encB
    dsimp only
    have HLI := Lib.hid (fun w hs => list_any N (.slice A2 N.length cap2) w hs (by omega) (by omega))
    obtain ⟨E, hE⟩ : ∃ E, Code.listL N = E := ⟨_, rfl⟩
    rw [hE] at HLI hE1 ⊢
    have hcat := cat_mk D E
    have hZ1 : (D ++ E).length ≤ 332 := by rw [List.length_append]; omega
    obtain ⟨Z, hZ⟩ : ∃ Z, D ++ E = Z := ⟨_, rfl⟩
    rw [hZ] at hcat hZ1 ⊢
    obtain ⟨g0, g1, -, -⟩ := cells2 (heap_new_at w (.cells #[.string ⟨D.toArray⟩, .slice A2 N.length cap2] 28) w.heap.size rfl)
    clear hm hb0 hE hml htx hZ hN7
    go_enter Tryd.func23, Tryd.ntmps23
    go_wp2_with fail
    have hsz := lt_of_heap (heap_new_at w (.cells #[.string ⟨D.toArray⟩, .slice A2 N.length cap2] 28) w.heap.size rfl)
    obtain ⟨p, hp⟩ : ∃ p, w.heap.size = p := ⟨_, rfl⟩
    rw [hp] at g0 g1 hsz
    generalize (w.alloc (.cells #[.string ⟨D.toArray⟩, .slice A2 N.length cap2] 28)) = w0 at *
    refine (HMY.out _ HSB.out).mono ?_
    rintro e w1 ⟨rfl, hb1⟩
    have HG : Hid (∀ w', Below w0.heap.size w0 w' → w'.cell? ⟨p, 0, none⟩ = some (.string ⟨D.toArray⟩) ∧ w'.cell? ⟨p, 1, none⟩ = some (.slice A2 N.length cap2)) := Lib.hid (fun w' h => ⟨(h.cell hsz).trans g0, (h.cell hsz).trans g1⟩)
    have HBD : Hid (Below w0.heap.size w0 w1.drew) := Lib.hid hb1.drew
    have HFI : Hid (∀ w', Below w0.heap.size w0 w' → Below w.heap.size w w') := Lib.hid (fun w' h => HB0.out.trans (h.mono (Nat.le_of_lt (hp ▸ hsz))))
    clear g0 g1 hsz
    obtain ⟨g0, g1⟩ := HG.out _ hb1
    clear hb1
    go_wp2
    go_region_with (go_at_call 54; refine (HLI.out _ (HSB.out.below HBD.out)).mono ?_; rintro e w2 ⟨rfl, hb2⟩; have hB2 : Below w0.heap.size w0 w2 := HBD.out.trans (hb2.mono HBD.out.size); have c0 := (HG.out w2 hB2).1; have c1 := (HG.out w2 hB2).2)
    all_goals
      go_wp2
      go_ret2
      exact ⟨rfl, HFI.out _ hB2⟩
end Go.Proofs.YtojpkodmpjibkaaDoor
namespace Go.Proofs.YtojpkodmpjibkaaDoor
open Go.Proofs.YtojpkodmpjibkaaDoor.Ct (C)

theorem Code.text6_ok (r : List UInt8) (h : (Code.textR 6 r).2.2 = 0) : r = Code.textL (Code.textR 6 r).1 ++ (Code.textR 6 r).2.1 := by
  have := Pw.rdT_ok (st := (r, 0)) (by simpa [Pw.rdT] using h)
  simpa [Pw.rdT] using this.2
theorem Code.readN6_ok (n : Nat) (r : List UInt8) (h : (Code.readN n 6 r).2.2 = 0) : (Code.readN n 6 r).1.length = n ∧ r = Code.textsL (Code.readN n 6 r).1 ++ (Code.readN n 6 r).2.1 := by
  induction n generalizing r with
  | zero => simp [Code.readN, Code.textsL]
  | succ n ih =>
    rw [Code.readN] at h ⊢
    by_cases ht : (Code.textR 6 r).2.2 = 0
    · rw [if_neg (by simpa using ht)] at h ⊢
      obtain ⟨h1, h2⟩ := ih _ h
      refine ⟨by simp [h1], ?_⟩
      have h3 := Code.text6_ok r ht
      simp only [Code.textsL, List.flatMap_cons, List.append_assoc]
      rw [show List.flatMap Code.textL (Code.readN n 6 (Code.textR 6 r).2.1).1 = Code.textsL (Code.readN n 6 (Code.textR 6 r).2.1).1 from rfl, ← h2]
      exact h3
    · rw [if_pos ht] at h
      exact absurd h ht
theorem Code.count_ok (most : Int) (s : List UInt8) (h : (Code.countL most s).2.2 = 0) : s = Code.numL (Code.countL most s).1 ++ (Code.countL most s).2.1 := by
  unfold Code.countL at h ⊢
  by_cases h1 : (Code.leadL s).2.2 = 0
  · rw [if_neg (by simpa using h1)] at h ⊢
    by_cases h2 : ((Code.leadL s).1 : Int) > most
    · rw [if_pos h2] at h
      cases h
    · rw [if_neg h2]
      have h3 := (Code.lead_ok s h1).2.2
      dsimp only
      rw [← h3, List.take_append_drop]
  · rw [if_pos h1] at h
    exact absurd h h1
theorem Code.list6_ok (most : Int) (s : List UInt8) (h : (Code.listR most 6 s).2.2 = 0) : s = Code.listL (Code.listR most 6 s).1 ++ (Code.listR most 6 s).2.1 := by
  unfold Code.listR at h ⊢
  by_cases h1 : (Code.countL most s).2.2 = 0
  · rw [if_neg (by simpa using h1)] at h ⊢
    by_cases h2 : (Code.readN (Code.countL most s).1 6 (Code.countL most s).2.1).2.2 = 0
    · rw [if_neg (by simpa using h2)] at h ⊢
      obtain ⟨h3, h4⟩ := Code.readN6_ok _ _ h2
      rw [Code.listL, h3, List.append_assoc, ← h4]
      exact Code.count_ok most s h1
    · rw [if_pos h2] at h
      exact absurd h h2
  · rw [if_pos h1] at h
    exact absurd h h1
theorem Ct.endC_ok {st : Pw.St} (h : Pw.endC st = 0) : st.2 = 0 ∧ st.1 = [] := by
  unfold Pw.endC at h
  split at h
  · cases h
  · rename_i hn
    exact ⟨h, Decidable.byContradiction fun e => hn ⟨h, e⟩⟩
/-- Bytes that tell a certificate are that one's. -/
theorem Ct.dec_enc {s : List UInt8} (h : Ct.decOK s = true) : Ct.may (Ct.decV s) = true ∧ Ct.encB (Ct.decV s) = s := by
  have hv : Ct.decV s = ⟨s.take 32, (Ct.decS s).1⟩ := by rw [Ct.decV, if_pos h]
  rw [hv]
  simp only [Ct.decOK, Bool.and_eq_true, decide_eq_true_eq] at h
  obtain ⟨_, h2, h3⟩ := h
  refine ⟨h3, ?_⟩
  obtain ⟨h4, h5⟩ := Ct.endC_ok h2
  have h6 := Code.list6_ok 7 (s.drop 32) h4
  unfold Ct.encB
  dsimp only
  have h7 : (Ct.decS s).2.1 = [] := h5
  change s.drop 32 = Code.listL (Ct.decS s).1 ++ (Ct.decS s).2.1 at h6
  rw [h7, List.append_nil] at h6
  rw [← h6, List.take_append_drop]
/-- A certificate's bytes tell it. -/
theorem Ct.enc_dec {c : C} (h : Ct.may c = true) : Ct.decOK (Ct.encB c) = true ∧ Ct.decV (Ct.encB c) = c := by
  obtain ⟨h1, h2, h3⟩ := Ct.may_len h
  have ht : (Ct.encB c).take 32 = c.dig := by rw [Ct.encB, ← h1, List.take_left]
  have hd : (Ct.encB c).drop 32 = Code.listL c.sig := by rw [Ct.encB, ← h1, List.drop_left]
  have hl : Ct.decS (Ct.encB c) = (c.sig, [], 0) := by
    unfold Ct.decS
    rw [hd]
    have := Code.list_list 7 6 c.sig [] (by omega) (by omega) (fun t ht => by
      have := (Ct.okNs_mem h3 t ht).2
      omega)
    rwa [List.append_nil] at this
  have hok : Ct.decOK (Ct.encB c) = true := by
    simp only [Ct.decOK, Bool.and_eq_true, decide_eq_true_eq]
    refine ⟨by rw [Ct.encB, List.length_append]; omega, ?_, ?_⟩
    · rw [hl]; rfl
    · rw [hl, ht]; exact h
  exact ⟨hok, by rw [Ct.decV, if_pos hok, hl, ht]⟩
theorem Ct.enc_len {c : C} (h : Ct.may c = true) : (Ct.encB c).length ≤ 500 := by
  obtain ⟨h1, h2, h3⟩ := Ct.may_len h
  have h4 := Code.list_bound c.sig 7 6 h2 (by omega) (fun s hs => (Ct.okNs_mem h3 s hs).2) (by omega)
  rw [Ct.encB, List.length_append]
  omega
end Go.Proofs.YtojpkodmpjibkaaDoor
namespace Go.Proofs.YtojpkodmpjibkaaDoor
open Go.RowKit
open Go.Proofs.YtojpkodmpjibkaaDoor.Ct (C)

instance : DecidableEq C := fun a b => decidable_of_iff (a.dig = b.dig ∧ a.sig = b.sig) (by
  obtain ⟨d, s⟩ := a
  obtain ⟨e, t⟩ := b
  simp)
theorem Ct.same_iff (a b : C) : decide (a = b) = (decide (a.dig = b.dig) && decide (a.sig = b.sig)) := by
  obtain ⟨d, s⟩ := a
  obtain ⟨e, t⟩ := b
  by_cases h1 : d = e <;> by_cases h2 : s = t <;> simp [h1, h2]

set_option maxRecDepth 100000 in
set_option maxHeartbeats 400000 in
theorem samecert_any (a b : C) (u v : Value) (w : World) (hu : Strs w u a.sig) (hv : Strs w v b.sig) (hl : a.sig.length ≤ 100000000) (hm : b.sig.length ≤ maxLen) :
    Calls Tryd.prog 19 #[.agg #[.string ⟨a.dig.toArray⟩, u], .agg #[.string ⟨b.dig.toArray⟩, v]] w fun x w' => x = .returned (.bool (decide (a = b))) ∧ Below w.heap.size w w' := by
  rw [Ct.same_iff]
  obtain ⟨d, s⟩ := a
  obtain ⟨e, t⟩ := b
  dsimp only at hu hv hl hm ⊢
  have hb : Below w.heap.size w ((w.alloc (.cells #[.string ⟨d.toArray⟩, u] 28)).alloc (.cells #[.string ⟨e.toArray⟩, v] 28)) := ((Below.refl _ w).alloc (Nat.le_refl _) _).alloc (by simp) _
  have HB := Lib.hid hb
  have HS := Lib.hid (same_any s t u v _ (hu.below hb) (hv.below hb) hl hm)
  obtain ⟨A, cap, rfl, -⟩ := hu
  obtain ⟨A2, cap2, rfl, -⟩ := hv
  obtain ⟨a0, a1, -, -⟩ := cells2 (heap_old_at (.cells #[.string ⟨e.toArray⟩, .slice A2 t.length cap2] 28) (heap_new_at w (.cells #[.string ⟨d.toArray⟩, .slice A s.length cap] 28) w.heap.size rfl))
  obtain ⟨b0, b1, -, -⟩ := cells2 (heap_new_at (w.alloc (.cells #[.string ⟨d.toArray⟩, .slice A s.length cap] 28)) (.cells #[.string ⟨e.toArray⟩, .slice A2 t.length cap2] 28) (w.heap.size + 1) (by simp))
  obtain ⟨R, hR⟩ : ∃ R, decide (s = t) = R := ⟨_, rfl⟩
  rw [hR] at HS ⊢
  by_cases hd : d = e
  · subst hd
    rw [decide_eq_true rfl, Bool.true_and]
    clear hR hb
    go_enter Tryd.func19, Tryd.ntmps19
    go_wp2_with fail
    refine HS.out.mono ?_
    rintro x w1 ⟨rfl, hb1⟩
    go_wp2
    go_ret
    exact ⟨rfl, HB.out.trans (hb1.mono HB.out.size)⟩
  · rw [decide_eq_false hd, Bool.false_and]
    have h1 : (d == e) = false := by rw [beq_eq_false_iff_ne]; exact hd
    clear hR hb
    go_enter Tryd.func19, Tryd.ntmps19
    go_wp2
    go_ret
    exact ⟨rfl, HB.out⟩

/-- At most so many bytes of a text. -/
def Ct.cut (s : List UInt8) (n : Nat) : List UInt8 := s.take n
set_option maxRecDepth 8000 in
set_option maxHeartbeats 400000 in
theorem cut_any (s : List UInt8) (n : Nat) (w : World) (hn : n ≤ 1000000) :
    Calls Tryd.prog 33 #[.string ⟨s.toArray⟩, .int .i64 n] w fun x w' => x = .returned (.string ⟨(Ct.cut s n).toArray⟩) ∧ w' = w := by
  unfold Ct.cut
  by_cases h : n < s.length
  · have h1 : (n : Int) < (s.length : Int) := by omega
    have h2 : (0 : Int) ≤ (n : Int) := by omega
    have h3 : (n : Int) ≤ (s.length : Int) := by omega
    have he := ext_take s n
    clear hn
    go_enter Tryd.func33, Tryd.ntmps33
    go_wp2
    go_ret
    exact ⟨rfl, rfl⟩
  · have h1 : ¬ ((n : Int) < (s.length : Int)) := by omega
    rw [List.take_of_length_le (by omega)]
    clear hn
    go_enter Tryd.func33, Tryd.ntmps33
    go_wp2
    go_ret
    exact ⟨rfl, rfl⟩
end Go.Proofs.YtojpkodmpjibkaaDoor
namespace Go.Proofs.YtojpkodmpjibkaaDoor
open Go.ChangeShapes Go.WideShapes Go.ChangeAt Go.RowKit

theorem gK : Tryd.prog.globalNamed "pharos/sha.constants" = some 1 := by kernel_rfl
theorem tK : (Tryd.prog.globals[1]?).map (·.type) = some 164 := by kernel_rfl
theorem cK : Tryd.prog.cellsOf 164 = 64 := by kernel_rfl
theorem cW : Tryd.prog.cellsOf 120 = 1 := by kernel_rfl
def laidK : List (String × DataW Unit) := [("pharos/sha.constants", Rows.laid_pharos_sha_constants)]
theorem tab_of_laid {W : World} (h : laidMetH Tryd.prog laidK W) : Tab W := by
  rw [MakeChecks.laidMetH_plain _ _ _ (by kernel_rfl)] at h
  obtain ⟨g, t, cs, fuel, p, hg, hty, hvar, hd⟩ := Lib.laidMet.reads h (.head _)
  obtain rfl := Option.some.inj (gK.symm.trans hg)
  obtain rfl := Option.some.inj (tK.symm.trans hty)
  have hd' : DataW.trod (fun _ => ()) Tryd.prog W 0 (fun _ => true) false fuel 164 cs.toList = some (Lib.tabData .u32 Sha.kTab, p) := hd
  have hcs := Lib.cells_of_tab Tryd.underlying164 Tryd.underlying120 cW cK hd'
  intro i hi
  have hk : i < Sha.kTab.length := hi
  rw [World.var?_cell hg hvar i, ← Array.getElem?_toList, hcs]
  simp [hk]
/-- The door's own heap meets the condition. -/
theorem door_met (os : Os) (args : Array Value) : laidMetH Tryd.prog laidK ((World.doorLaid Tryd.prog 400 os).forCall (fun _ _ => 0) ⟨#[], args, []⟩).memory :=
  laidMetH_of_parts3 (fuel := 8) (laidMet_of_run' 8 (by kernel_rfl) (by kernel_rfl)) (by kernel_rfl) (by kernel_rfl)
end Go.Proofs.YtojpkodmpjibkaaDoor
namespace Go.Proofs.YtojpkodmpjibkaaDoor
open Go.RowKit
open Go.Proofs.YtojpkodmpjibkaaDoor.Pw (M)

/-- The texts of a list, as a set. -/
def Pw.setF (b : List (List UInt8)) (s : List UInt8) : Option Unit := if s ∈ b then some () else none
theorem Pw.setF_step (b : List (List UInt8)) (k : Nat) (hk : k < b.length) (s : List UInt8) : updF (Pw.setF (b.take k)) b[k] (some ()) s = Pw.setF (b.take (k + 1)) s := by
  have hm : s ∈ b.take (k + 1) ↔ s ∈ b.take k ∨ s = b[k] := by rw [List.take_succ_eq_append_getElem hk, List.mem_append, List.mem_singleton]
  unfold Pw.setF updF
  show (if s = b[k] then some () else if s ∈ b.take k then some () else none) = if s ∈ b.take (k + 1) then some () else none
  by_cases e : s = b[k]
  · rw [if_pos e, if_pos (hm.2 (Or.inr e))]
  · rw [if_neg e]
    by_cases e2 : s ∈ b.take k
    · rw [if_pos e2, if_pos (hm.2 (Or.inl e2))]
    · rw [if_neg e2, if_neg (fun h => (hm.1 h).elim e2 e)]
/-- Those that are not out yet. -/
def Pw.restF (b out : List (List UInt8)) (s : List UInt8) : Option Unit := if s ∈ b ∧ s ∉ out then some () else none
theorem Pw.restF_step (b out : List (List UInt8)) (x : List UInt8) (s : List UInt8) : updF (Pw.restF b out) x none s = Pw.restF b (out ++ [x]) s := by
  unfold Pw.restF updF
  show (if s = x then none else if s ∈ b ∧ s ∉ out then some () else none) = if s ∈ b ∧ s ∉ out ++ [x] then some () else none
  by_cases e : s = x
  · rw [if_pos e, if_neg (by simp [e])]
  · rw [if_neg e]
    simp [e]

/-- The set in block g, the row s of texts. -/
structure BothAt (w : World) (B g : Nat) (s : Value) (b out : List (List UInt8)) : Prop where
  map : FnAt strUnit w g (Pw.restF b out)
  row : Own w B s out
  from_ : B ≤ g
theorem BothAt.below {w w' : World} {B g : Nat} {s : Value} {b out : List (List UInt8)} (h : BothAt w B g s b out) (hb : Below w.heap.size w w') : BothAt w' B g s b out := ⟨h.map.below hb, h.row.below hb, h.from_⟩
theorem BothAt.append {w w' : World} {B g : Nat} {s : Value} {b out : List (List UInt8)} (h : BothAt w B g s b out) (hg : w.grownBy w' s.ownBlock) : FnAt strUnit w' g (Pw.restF b out) := by
  refine h.map.out (Out.grown hg (F := fun k => s.ownBlock = some k) (fun k e => e)) (fun e => ?_)
  rcases h.row.2 with ⟨rfl, _⟩ | ⟨k, cap, cur, rfl, _, hk, _⟩
  · simp [Value.ownBlock] at e
  · simp [Value.ownBlock] at e
    subst e
    exact h.map.no_cells _ _ _ _ rfl hk

theorem BothAt.dropped {w w2 w3 : World} {G g' cap : Nat} {t : Value} {b O : List (List UInt8)} {x : List UInt8} (h : BothAt w2 G G t b O) (hb : Below G w w2) (hG : w.heap.size = G) (hx : x.length ≤ 140737488351232)
    (hown : w3.ownsRow G 9 1 (.slice (some ⟨g', 0, none⟩) (O.length + 1) cap) (O.length + 1) (scells O ++ scells [x])) (hgrow : (w2.alloc (.cells #[.string ⟨x.toArray⟩] 9)).grownBy w3 t.ownBlock) :
    ∃ w4, (∀ ty, (Builtin.delete_ #[86, 9] ty #[.map (some G), .string ⟨x.toArray⟩]).run Tryd.prog w3 = .ok (.tuple #[]) w4) ∧ BothAt w4 G G (.slice (some ⟨g', 0, none⟩) (O.length + 1) cap) b (O ++ [x]) ∧ Below G w w4 := by
  have hb0 := (Below.refl w2.heap.size w2).alloc (Nat.le_refl _) (.cells #[.string ⟨x.toArray⟩] 9)
  have hf3 := (h.below hb0).append hgrow
  obtain ⟨w4, hrun, hf4, ho4, hs4⟩ := FnAt.drop hf3 Tryd.underlying86 (s := x) hx
  have hown4 : Own w4 G (.slice (some ⟨g', 0, none⟩) (O.length + 1) cap) (O ++ [x]) := by
    have h := row_out hown ho4 (fun k cs t f e => hf3.no_cells k cs t f e)
    unfold Own
    rw [scells_append, List.length_append]
    exact h
  have hsz := hb.size
  have hB3 : Below G w w3 := by
    have h3 : Out (fun j => t.ownBlock = some j) w2 w3 := (Out.of hb0).trans (Out.grown hgrow (fun j e => e))
    exact hb.trans (h3.below (fun j hj => (h.row.lt j hj).1) (by omega))
  have hsz3 := hB3.size
  exact ⟨w4, hrun, ⟨hf4.congr (Pw.restF_step b O x), hown4, Nat.le_refl _⟩, hB3.trans (ho4.below (fun k hk => Nat.le_of_eq hk.symm) (by omega))⟩

def BothPost (a b : List (List UInt8)) (w : World) (e : Ending) (w' : World) : Prop := ∃ s, e = .returned s ∧ Own w' w.heap.size s (Pw.both a b) ∧ Below w.heap.size w w'

set_option maxRecDepth 8000 in
set_option maxHeartbeats 2000000 in
theorem both_any (a b : List (List UInt8)) (u v : Value) (w : World) (hu : Strs w u a) (hv : Strs w v b) (ha : ∀ s ∈ a, s.length ≤ 140737488351232) (hb : ∀ s ∈ b, s.length ≤ 140737488351232) (hla : a.length ≤ 1000000) (hlb : b.length ≤ 1000000) :
    Calls Tryd.prog 27 #[u, v] w (BothPost a b w) := by
  have HU := Lib.hid hu
  have HV := Lib.hid hv
  have HA := Lib.hid ha
  have HBB := Lib.hid hb
  obtain ⟨A, cap, rfl, -⟩ := hu
  obtain ⟨A2, cap2, rfl, -⟩ := hv
  have hmm := @run_makeMap Tryd.prog
  obtain ⟨i0, hi, hz0, hz1, hz2⟩ := info_parts Tryd.infoStr
  clear ha hb
  go_enter Tryd.func27, Tryd.ntmps27
  go_wp2
  obtain ⟨G, hG⟩ : ∃ G, w.heap.size = G := ⟨_, rfl⟩
  have HF0 := Lib.hid (FnAt.made strUnit w G hG.symm)
  have HB0 : Hid (Below G w (w.alloc (.map #[] 0))) := Lib.hid (by rw [← hG]; exact (Below.refl _ w).alloc (Nat.le_refl _) _)
  have HG := Lib.hid hG
  rw [hG]
  clear hmm hG
  go_loopw [16] (fun i wr => ∃ k : Nat, k ≤ b.length ∧ i = .int .i64 k ∧ FnAt strUnit wr G (Pw.setF (b.take k)) ∧ Below G w wr) (fun i _ => b.length - (intOf i).toNat)
  case atStart => exact ⟨0, Nat.zero_le _, rfl, HF0.out.congr (fun s => by simp [Pw.setF]), HB0.out⟩
  case round =>
    obtain ⟨k, hk, rfl, hf, hb⟩ := hrel
    have HB := Lib.hid hb
    have HF := Lib.hid hf
    clear hf hb HF0 HB0
    by_cases hlt : k < b.length
    · have h1 : (k : Int) < (b.length : Int) := by omega
      have h0 : (0 : Int) ≤ (k : Int) := by omega
      obtain ⟨A3, cap3, hv3, hc3⟩ := HV.out.below (by rw [HG.out]; exact HB.out)
      obtain ⟨rfl, rfl⟩ : A2 = A3 ∧ cap2 = cap3 := by simpa using hv3
      obtain ⟨p, rfl, n0⟩ := hc3 k hlt
      have HST := Lib.hid (Pw.setF_step b k hlt)
      have HX := Lib.hid (HBB.out b[k] (List.getElem_mem hlt))
      obtain ⟨x, hx⟩ : ∃ x, b[k] = x := ⟨_, rfl⟩
      rw [hx] at n0 HST HX
      clear hx hv3 hc3
      obtain ⟨w3, hrun, hf3, ho3, hs3⟩ := FnAt.put HF.out Tryd.underlying86 (s := x) HX.out ()
      dsimp only [strUnit] at hrun
      have HF3 := Lib.hid (hf3.congr HST.out)
      have HB3 := Lib.hid (HB.out.trans (ho3.below (fun k hk => Nat.le_of_eq hk.symm) (by have := HB.out.size; have := HG.out; omega)))
      clear hf3 ho3 hs3
      go_wp2
      exact ⟨⟨k + 1, by omega, by go_num, HF3.out, HB3.out⟩, by simp [intOf]; omega⟩
    · have h1 : ¬ ((k : Int) < (b.length : Int)) := by omega
      obtain rfl : k = b.length := by omega
      have hat : BothAt wr G G (.slice none 0 0) b [] := ⟨HF.out.congr (fun s => by simp [Pw.setF, Pw.restF]), Own.nil _ _, Nat.le_refl _⟩
      have HAT := Lib.hid hat
      clear hat hk hlt HF
      go_wp2
      go_loopw [8, 26] (fun s i wr => ∃ (j : Nat) (t : Value), t = s ∧ j ≤ a.length ∧ i = .int .i64 j ∧ BothAt wr G G t b (Pw.uniq (a.take j) b) ∧ Below G w wr) (fun _ i _ => a.length - (intOf i).toNat)
      case atStart => exact ⟨0, _, rfl, Nat.zero_le _, rfl, by simpa [Pw.uniq] using HAT.out, HB.out⟩
      case round =>
        obtain ⟨j, t, rfl, hj, rfl, hat, hb⟩ := hrel
        have HBx := Lib.hid hb
        have HATx := Lib.hid hat
        clear hb hat h1 HAT HB
        by_cases hlt : j < a.length
        · have h1 : (j : Int) < (a.length : Int) := by omega
          have h0 : (0 : Int) ≤ (j : Int) := by omega
          obtain ⟨A3, cap3, hv3, hc3⟩ := HU.out.below (by rw [HG.out]; exact HBx.out)
          obtain ⟨rfl, rfl⟩ : A = A3 ∧ cap = cap3 := by simpa using hv3
          obtain ⟨p, rfl, n0⟩ := hc3 j hlt
          have HS := Lib.hid (Pw.uniq_take a b j hlt)
          have HX := Lib.hid (HA.out a[j] (List.getElem_mem hlt))
          have HLN := Lib.hid (Pw.uniq_length (a.take j) b)
          obtain ⟨x, hx⟩ : ∃ x, a[j] = x := ⟨_, rfl⟩
          obtain ⟨O, hO⟩ : ∃ O, Pw.uniq (a.take j) b = O := ⟨_, rfl⟩
          rw [hx, hO] at HS
          rw [hx] at n0 HX
          rw [hO] at HATx HLN
          have HGS : Hid (G ≤ wr.heap.size) := Lib.hid (by have := HBx.out.size; have := HG.out; omega)
          have HOl : Hid (O.length ≤ 1000000) := Lib.hid (by have := HLN.out; simp at this; omega)
          clear hx hv3 hc3 hO
          have hlook := FnAt.look HATx.out.map Tryd.underlying86 (s := x) HX.out true (zeroU wr)
          by_cases hin : x ∈ b ∧ x ∉ O
          · have hres : Pw.restF b O x = some () := by simp [Pw.restF, hin]
            have HK : Hid (Pw.uniq (a.take (j + 1)) b = O ++ [x]) := Lib.hid (by rw [HS.out, Pw.keepI, if_pos hin])
            rw [hres] at hlook
            have hlook2 : (Instr.lookup 86 (.map (some G)) (.string ⟨x.toArray⟩) true).run Tryd.prog wr = .ok (.tuple #[.agg #[], .bool true]) wr := hlook
            have HCL := Lib.hid (fun w => dclone_any x w HX.out)
            have hbw : Below wr.heap.size wr (wr.alloc (.cells #[] 87)) := (Below.refl _ wr).alloc (Nat.le_refl _) _
            have HBW := Lib.hid hbw
            clear hlook hres hin HS hbw
            go_wp2_with fail
            refine (HCL.out _).mono ?_
            rintro e w2 ⟨rfl, hb2⟩
            have HAT2 := Lib.hid ((HATx.out.below HBW.out).below hb2)
            have HBw2 := Lib.hid ((HBx.out.trans (HBW.out.mono HGS.out)).trans (hb2.mono (Nat.le_trans HGS.out HBW.out.size)))
            clear hb2
            have HGW : Hid (G ≤ w2.heap.size) := Lib.hid (Nat.le_trans (Nat.le_of_eq HG.out.symm) HBw2.out.size)
            have HDR := Lib.hid (fun w3 g' cap' h1 h2 => HAT2.out.dropped (w := w) (w3 := w3) (g' := g') (cap := cap') HBw2.out HG.out HX.out h1 h2)
            go_wp2_with (first | (at_builtin; refine wpList_append_lies _ rfl _ _ _ rfl G 9 i0 (.string ⟨#[]⟩) 1 16 Tryd.underlying26 hi hz0 hz1 hz2 rfl (by decide) t O.length (scells O) (by rfl) (World.ownsRow.alloc HAT2.out.row _) ⟨w2.heap.size, 0, none⟩ 1 1 (scells [x]) (by rfl) rfl (World.news_of_block (heap_new_at _ _ _ rfl)) (by simp [scells, Value.oneCell']) (by decide) (by have := HOl.out; unfold maxLen; omega) (by have := HOl.out; omega) (by have := HGW.out; simp; omega) (w2.heap.size + 1) (by simp) ?_; intro g' cap' w3 hown3 hgrow3 hat3 hlt3) | (at_delete; obtain ⟨w4, hrun, HAT4, HB4⟩ := HDR.out w3 g' cap' hown3 hgrow3; refine wpList_delete_run rfl _ _ _ _ rfl (.map (some G)) (.string ⟨x.toArray⟩) (by rfl) (by rfl) hrun ?_; clear hrun hown3 hgrow3 hat3 hlt3))
            exact ⟨⟨j + 1, _, rfl, by omega, by go_num, by rw [HK.out]; exact HAT4, HB4⟩, by simp [intOf]; omega⟩
          · have hres : Pw.restF b O x = none := by simp [Pw.restF, hin]
            have HK : Hid (Pw.uniq (a.take (j + 1)) b = O) := Lib.hid (by rw [HS.out, Pw.keepI, if_neg hin])
            rw [hres] at hlook
            have hlook2 : (Instr.lookup 86 (.map (some G)) (.string ⟨x.toArray⟩) true).run Tryd.prog wr = .ok (.tuple #[.agg #[], .bool false]) wr := hlook
            have hbw : Below wr.heap.size wr (wr.alloc (.cells #[] 87)) := (Below.refl _ wr).alloc (Nat.le_refl _) _
            have HBW := Lib.hid hbw
            clear hlook hres hin HS hbw
            go_wp2
            exact ⟨⟨j + 1, _, rfl, by omega, by go_num, by rw [HK.out]; exact HATx.out.below HBW.out, HBx.out.trans (HBW.out.mono HGS.out)⟩, by simp [intOf]; omega⟩
        · have h1 : ¬ ((j : Int) < (a.length : Int)) := by omega
          obtain rfl : j = a.length := by omega
          have HLN := Lib.hid (Pw.uniq_length a b)
          have HSO := Lib.hid (sort_any (Pw.uniq a b) t G wr (by have := HATx.out.row; rwa [List.take_length] at this) (by have := HLN.out; omega) (by have := HBx.out.size; have := HG.out; omega))
          clear HATx
          go_wp2_with fail
          refine HSO.out.mono ?_
          rintro e w2 ⟨rfl, hown, hb2⟩
          go_wp2
          go_ret
          exact ⟨t, rfl, by rw [HG.out]; exact hown, by rw [HG.out]; exact HBx.out.trans hb2⟩
end Go.Proofs.YtojpkodmpjibkaaDoor
namespace Go.Proofs.YtojpkodmpjibkaaDoor
open Go.RowKit

/-- Two blocks that the call made first. -/
theorem boxed2 (w : World) (a b : Obj) : ∀ w', Below (w.heap.size + 2) ((w.alloc a).alloc b) w' → w'.heap[w.heap.size]? = some a ∧ w'.heap[w.heap.size + 1]? = some b ∧ Below w.heap.size w w' ∧ w.heap.size + 2 ≤ w'.heap.size := by
  intro w' h
  have h1 : ((w.alloc a).alloc b).heap[w.heap.size]? = some a := heap_old_at b (heap_new_at w a _ rfl)
  have h2 : ((w.alloc a).alloc b).heap[w.heap.size + 1]? = some b := heap_new_at _ b _ (by simp)
  refine ⟨(h.block _ (by omega)).trans h1, (h.block _ (by omega)).trans h2, ?_, ?_⟩
  · exact (((Below.refl _ w).alloc (Nat.le_refl _) a).alloc (by simp) b).trans (h.mono (by omega))
  · have := h.size
    simp at this
    omega
/-- Three blocks that the call made first. -/
theorem boxed3 (w : World) (a b c : Obj) : ∀ w', Below (w.heap.size + 3) (((w.alloc a).alloc b).alloc c) w' → w'.heap[w.heap.size]? = some a ∧ w'.heap[w.heap.size + 1]? = some b ∧ w'.heap[w.heap.size + 2]? = some c ∧ Below w.heap.size w w' ∧ w.heap.size + 3 ≤ w'.heap.size := by
  intro w' h
  have h1 : (((w.alloc a).alloc b).alloc c).heap[w.heap.size]? = some a := heap_old_at c (heap_old_at b (heap_new_at w a _ rfl))
  have h2 : (((w.alloc a).alloc b).alloc c).heap[w.heap.size + 1]? = some b := heap_old_at c (heap_new_at _ b _ (by simp))
  have h3 : (((w.alloc a).alloc b).alloc c).heap[w.heap.size + 2]? = some c := heap_new_at _ c _ (by simp)
  refine ⟨(h.block _ (by omega)).trans h1, (h.block _ (by omega)).trans h2, (h.block _ (by omega)).trans h3, ?_, ?_⟩
  · exact ((((Below.refl _ w).alloc (Nat.le_refl _) a).alloc (by simp) b).alloc (by simp; omega) c).trans (h.mono (by omega))
  · have := h.size
    simp at this
    omega
theorem Ct.gath_may {t : Int} {L : List Pw.M} {D : List UInt8} {T : List Ora.Sig} (h : (Ct.gatherP t L D T).2 = 0) : (Ct.gatherP t L D T).1 = ⟨D, Ct.gatherS t L D T⟩ ∧ Ct.checkP t L ⟨D, Ct.gatherS t L D T⟩ T = 0 ∧ (Ct.gatherS t L D T).length ≤ 7 ∧ ∀ s ∈ Ct.gatherS t L D T, s.length ≤ 140737488351232 := by
  obtain ⟨h1, h2⟩ := Ct.gather_good h
  rw [h1] at h2
  dsimp only at h2
  obtain ⟨_, _, h3, _⟩ := Ct.check_good.1 h2
  obtain ⟨_, m2, m3⟩ := Ct.may_len h3
  refine ⟨by rw [h1], h2, m2, fun s hs => Nat.le_trans (Ct.okNs_mem m3 s hs).2 (by omega)⟩
theorem Ct.good_len {t : Int} {L : List Pw.M} {c : Ct.C} {T : List Ora.Sig} (h : Ct.checkP t L c T = 0) : c.sig.length ≤ 7 ∧ ∀ s ∈ c.sig, s.length ≤ 140737488351232 := by
  obtain ⟨_, _, h3, _⟩ := Ct.check_good.1 h
  obtain ⟨_, m2, m3⟩ := Ct.may_len h3
  exact ⟨m2, fun s hs => Nat.le_trans (Ct.okNs_mem m3 s hs).2 (by omega)⟩
end Go.Proofs.YtojpkodmpjibkaaDoor
namespace Go.Proofs.YtojpkodmpjibkaaDoor
open Go.RowKit
open Go.Proofs.YtojpkodmpjibkaaDoor.Pw (M)

/-- 'append(s, x...)', by an equation of the run. -/
theorem wpList_append_run {P : Program} {w w' : World} {ops : Array Oper} {rest : List Oper} {o : Oper} {a : Act} {Q : Exit → Act → World → Prop} (hg : o.guard = none) (s x : Operand) (t : TypeId) (hop : o.op = Op.call { callee := Callee.builtin Builtin.append, args := #[s, x], argTypes := #[t, t] })
    (sv xv r : Value) (hs : a.eval s = sv) (hx : a.eval x = xv) (hrun : (Builtin.append_ #[t, t] o.type #[sv, xv]).run P w = .ok r w') (hK : wpList P ops Q rest (a.put o.dst r) w') :
    wpList P ops Q (o :: rest) a w := by
  refine wpList_plain hg fun K' hK' => ?_
  unfold Oper.wp
  simp [execOp, hop, resolve, invoke, builtin, hs, hx, hrun, Result.andThen]
  exact hK' _ _ hK

theorem run_append_nothing_s (w : World) (v : Value) (n c B : Nat) (xs : List Value) (h : w.ownsRow B 9 1 v n xs) (ty : TypeId) : (Builtin.append_ #[26, 26] ty #[v, .slice none 0 c]).run Tryd.prog w = .ok v w := by
  rcases h.2 with ⟨rfl, rfl⟩ | ⟨g, cap, cur, rfl, hB, hh, hn, _⟩
  · simp [Builtin.append_, run_underlying Tryd.underlying26, Tryd.sizeOf9, Builtin.lenOf, Builtin.firstCells, Result.andThen]
  · simp [Builtin.append_, run_underlying Tryd.underlying26, Tryd.sizeOf9, Builtin.lenOf, Builtin.firstCells, Result.andThen, hn, storeCells]
theorem run_append_nothing_m (w : World) (v : Value) (n c B : Nat) (xs : List Value) (h : w.ownsRow B 64 2 v n xs) (ty : TypeId) : (Builtin.append_ #[22, 22] ty #[v, .slice none 0 c]).run Tryd.prog w = .ok v w := by
  rcases h.2 with ⟨rfl, rfl⟩ | ⟨g, cap, cur, rfl, hB, hh, hn, _⟩
  · simp [Builtin.append_, run_underlying Tryd.underlying22, Tryd.sizeOf64, Builtin.lenOf, Builtin.firstCells, Result.andThen]
  · simp [Builtin.append_, run_underlying Tryd.underlying22, Tryd.sizeOf64, Builtin.lenOf, Builtin.firstCells, Result.andThen, hn, storeCells]
theorem grown_none (w : World) (r : Option Nat) : w.grownBy w r := ⟨rfl, rfl, rfl, Nat.le_refl _, fun _ _ _ => rfl⟩
/-- The same as a step of a region that draws its order. -/
theorem step_append_run {P : Program} {ops : Array Oper} {o : Oper} {a : Act} {w w' : World} {K : Act → World → Prop} {Q : Exit → Act → World → Prop} {E : Prop} (hg : o.guard = none) (s x : Operand) (t : TypeId) (hop : o.op = Op.call { callee := Callee.builtin Builtin.append, args := #[s, x], argTypes := #[t, t] })
    (sv xv r : Value) (hs : a.eval s = sv) (hx : a.eval x = xv) (hrun : (Builtin.append_ #[t, t] o.type #[sv, xv]).run P w = .ok r w') (hK : K (a.put o.dst r) w') : if Region.wanted o (yielded ops a.tmps) = true then Oper.wp P o a w K Q else E := by
  have hw : Region.wanted o (yielded ops a.tmps) = true := by simp [Region.wanted, hg]
  rw [if_pos hw]
  unfold Oper.wp
  simp [execOp, hop, resolve, invoke, builtin, hs, hx, hrun, Result.andThen]
  exact hK
theorem append_strs {w : World} {v s : Value} {L : List (List UInt8)} {B n : Nat} {xs : List Value} (hv : Strs w v L) (hs : w.ownsRow B 9 1 s n xs) (hl : n + L.length ≤ 1000000) (hB : B ≤ w.heap.size) :
    ∃ v' w', (Builtin.append_ #[26, 26] 26 #[s, v]).run Tryd.prog w = .ok v' w' ∧ w'.ownsRow B 9 1 v' (n + L.length) (xs ++ scells L) ∧ w.grownBy w' s.ownBlock ∧ (v'.ownBlock = s.ownBlock ∨ v'.ownBlock = some w.heap.size) := by
  obtain ⟨i0, hi, hz0, hz1, hz2⟩ := info_parts Tryd.infoStr
  obtain ⟨A, cap, rfl, hc⟩ := hv
  cases A with
  | none =>
    have h0 : L.length = 0 := by
      by_cases h : L.length = 0
      · exact h
      · obtain ⟨a, ha, _⟩ := hc 0 (by omega)
        cases ha
    obtain rfl : L = [] := List.eq_nil_of_length_eq_zero h0
    exact ⟨s, w, run_append_nothing_s w s n cap B xs hs _, by simpa [scells] using hs, grown_none _ _, Or.inl rfl⟩
  | some a =>
    obtain ⟨v', w', h1, h2, h3, _, h5⟩ := run_append_own_at (P := Tryd.prog) w B 26 26 9 i0 (.string ⟨#[]⟩) 1 16 Tryd.underlying26 hi hz0 hz1 hz2 rfl (by decide) s n xs hs a L.length cap (scells L) (by simp [scells])
      (fun j u hu => by
        have hj : j < L.length := by
          have := (List.getElem?_eq_some_iff.1 hu).1
          simpa [scells] using this
        obtain ⟨b, hb, hcell⟩ := hc j hj
        cases hb
        simp only [scells, List.getElem?_map, List.getElem?_eq_getElem hj] at hu
        simp at hu
        rw [← hu]
        exact hcell) (by simp [scells, Value.oneCell']) (by unfold maxLen; omega) (by omega) hB
    exact ⟨v', w', h1, h2, h3, h5⟩
theorem append_mems {w : World} {v s : Value} {L : List M} {B n : Nat} {xs : List Value} (hv : Mems w v L) (hs : w.ownsRow B 64 2 s n xs) (hl : n + L.length ≤ 1000000) (hB : B ≤ w.heap.size) :
    ∃ v' w', (Builtin.append_ #[22, 22] 22 #[s, v]).run Tryd.prog w = .ok v' w' ∧ w'.ownsRow B 64 2 v' (n + L.length) (xs ++ mrows L) ∧ w.grownBy w' s.ownBlock ∧ (v'.ownBlock = s.ownBlock ∨ v'.ownBlock = some w.heap.size) := by
  obtain ⟨i0, hi, hz0, hz1, hz2⟩ := info_parts Tryd.infoMember
  obtain ⟨A, cap, rfl, hc⟩ := hv
  cases A with
  | none =>
    have h0 : L.length = 0 := by
      by_cases h : L.length = 0
      · exact h
      · obtain ⟨b, o, ha, _⟩ := hc (by omega)
        cases ha
    obtain rfl : L = [] := List.eq_nil_of_length_eq_zero h0
    exact ⟨s, w, run_append_nothing_m w s n cap B xs hs _, by simpa [mrows] using hs, grown_none _ _, Or.inl rfl⟩
  | some a =>
    obtain ⟨v', w', h1, h2, h3, _, h5⟩ := run_append_own_at (P := Tryd.prog) w B 22 22 64 i0 (.agg #[.string ⟨#[]⟩, .int .i64 0]) 2 24 Tryd.underlying22 hi hz0 hz1 hz2 rfl (by decide) s n xs hs a L.length cap (mrows L) (mrows_length L)
      (fun j u hu => by
        have hj : j < L.length * 2 := by
          have := (List.getElem?_eq_some_iff.1 hu).1
          rwa [mrows_length] at this
        obtain ⟨b, o, hb, _, hcell⟩ := hc (by omega)
        cases hb
        obtain ⟨i, r, hr, rfl⟩ : ∃ i r, r < 2 ∧ j = i * 2 + r := ⟨j / 2, j % 2, by omega, by omega⟩
        have hi' : i < L.length := by omega
        have e := mrows_at L i r hi' hr
        rw [hu] at e
        obtain ⟨h1, h2⟩ := hcell i hi'
        rw [Addr.add_mid]
        have hr2 : r = 0 ∨ r = 1 := by omega
        rcases hr2 with rfl | rfl
        · simp only [mcells, List.getElem?_cons_zero, Option.some.injEq] at e
          rw [e]; exact h1
        · simp only [mcells, List.getElem?_cons_succ, List.getElem?_cons_zero, Option.some.injEq] at e
          rw [e]; exact h2) (by
        intro u hu
        obtain ⟨m, _, hm⟩ := List.mem_flatMap.1 hu
        simp only [mcells, List.mem_cons, List.not_mem_nil, or_false] at hm
        rcases hm with rfl | rfl <;> rfl) (by unfold maxLen; omega) (by omega) hB
    exact ⟨v', w', h1, h2, h3, h5⟩
end Go.Proofs.YtojpkodmpjibkaaDoor
