/- (*digest.Log).Put. -/
import Derived.Test.YtebjckodfbailaaDoorDigAdd
namespace Go.Proofs.YtebjckodfbailaaDoor
open Go.RowKit

theorem own_form {w : World} {B : Nat} {e : TypeId} {z : Nat} {s : Value} {n : Nat} {xs : List Value} (h : w.ownsRow B e z s n xs) : ∃ A cap, s = .slice A n cap := by
  rcases h.2 with ⟨rfl, rfl⟩ | ⟨g, cap, _, rfl, _⟩
  · exact ⟨none, 0, rfl⟩
  · exact ⟨_, _, rfl⟩
theorem put_same {L : List Dig.N} {n : Dig.N} {w w' : World} {g : Nat} {F : Nat → Prop} (hl : LogAt w g F L) (hb : Below w.heap.size w w') (ht : ¬ Dig.taken L n) :
    ∃ F', (∀ k, F' k → F k ∨ w.heap.size ≤ k) ∧ LogAt w' g F' (Dig.putL L n) ∧ Out F w w' := by
  refine ⟨F, fun _ => Or.inl, ?_, Out.of hb⟩
  rw [Dig.putL, if_neg ht]
  exact hl.below hb

set_option maxRecDepth 8000 in
set_option maxHeartbeats 1000000 in
theorem put_any (n : Dig.N) (L : List Dig.N) (g : Nat) (F : Nat → Prop) (w : World) (hl : LogAt w g F L) (hn : OkN n) :
    Calls Tryd.prog 17 #[.pointer (some ⟨g, 0, none⟩), nval n] w fun e w' => e = .returned (.int .i64 (Dig.putC L n)) ∧ ∃ F', (∀ k, F' k → F k ∨ w.heap.size ≤ k) ∧ LogAt w' g F' (Dig.putL L n) ∧ Out F w w' := by
  have HL := Lib.hid hl
  have HN := Lib.hid hn
  have hB1 : Below w.heap.size w (w.alloc (.cells #[.int .i64 n.tag, .string ⟨n.text.toArray⟩, .string ⟨n.dig.toArray⟩] 35)) := (Below.refl _ w).alloc (Nat.le_refl _) _
  have HB1 := Lib.hid hB1
  have hl1 := hl.below hB1
  have HL1 := Lib.hid hl1
  have HBX := Lib.hid (heap_new_at w (.cells #[.int .i64 n.tag, .string ⟨n.text.toArray⟩, .string ⟨n.dig.toArray⟩] 35) _ rfl)
  obtain ⟨s, m1, m2, M, hp⟩ := hl1.parts
  have l1 := look1 hl.ok hn _ m1 hp.map1.drew
  have l2 := look1 hl.ok hn _ m1 (hp.map1.alloc (.cells #[] 61)).drew
  obtain ⟨A, cap, rfl⟩ := own_form hp.row
  have HP := Lib.hid hp
  obtain ⟨c0, c1, c2, -, -, -⟩ := cells3 hp.here
  have q1 := lt_of_heap hp.here
  have q0 : g < w.heap.size := by
    obtain ⟨_, _, _, _, hp0⟩ := hl.parts
    exact lt_of_heap hp0.here
  obtain ⟨C, hC⟩ : ∃ C, Dig.putC L n = C := ⟨_, rfl⟩
  have HC := Lib.hid hC
  rw [hC]
  clear hC hl hn hB1 hl1 hp
  have HD : Hid (∀ h : Dig.taken L n, Dig.putL L n = L ++ [n]) := Lib.hid (fun h => by rw [Dig.putL, if_pos h])
  by_cases ht : Dig.isTag n.tag = true
  case neg =>
    have HT := Lib.hid ht
    have hT : Dig.isTag n.tag = false := by simpa using ht
    have HTF := Lib.hid hT
    clear ht hT
    unfold nval
    go_enter Tryd.func17, Tryd.ntmps17
    go_wp2_with fail
    refine (isTag_any n.tag _).mono ?_
    rintro e w1 ⟨rfl, rfl⟩
    rw [HTF.out]
    go_wp2
    go_ret
    refine ⟨by rw [← HC.out]; simp [Dig.putC, HTF.out], put_same HL.out HB1.out (fun h => HT.out h.1)⟩
  by_cases hd : n.dig.length = 32
  case neg =>
    have hd' : ¬ ((n.dig.length : Int) = 32) := by omega
    have HT := Lib.hid ht
    have HD2 := Lib.hid hd
    clear ht hd
    unfold nval
    go_enter Tryd.func17, Tryd.ntmps17
    go_wp2_with fail
    refine (isTag_any n.tag _).mono ?_
    rintro e w1 ⟨rfl, rfl⟩
    rw [HT.out]
    go_wp2
    go_ret
    refine ⟨by rw [← HC.out]; simp [Dig.putC, HT.out, HD2.out], put_same HL.out HB1.out (fun h => HD2.out h.2.1)⟩
  have hd' : ((n.dig.length : Int) = 32) := by omega
  have HT := Lib.hid ht
  have HD2 := Lib.hid hd
  clear ht hd
  unfold nval at l1 l2 ⊢
  by_cases hin : n ∈ L
  case pos =>
    have HIN := Lib.hid hin
    rw [decide_eq_true hin] at l1 l2
    clear hin
    go_enter Tryd.func17, Tryd.ntmps17
    go_wp2_with fail
    refine (isTag_any n.tag _).mono ?_
    rintro e w1 ⟨rfl, rfl⟩
    rw [HT.out]
    go_wp2
    go_region
    all_goals
      go_wp2
      go_ret
      refine ⟨by rw [← HC.out]; simp [Dig.putC, HT.out, HD2.out, HIN.out], put_same HL.out ((HB1.out.alloc HB1.out.size _).drew) (fun h => h.2.2.1 HIN.out)⟩
  have HIN := Lib.hid hin
  rw [decide_eq_false hin] at l1 l2
  clear hin
  by_cases hlen : L.length < 1024
  case neg =>
    have hl' : (1024 : Int) ≤ (L.length : Int) := by omega
    go_enter Tryd.func17, Tryd.ntmps17
    go_wp2_with fail
    refine (isTag_any n.tag _).mono ?_
    rintro e w1 ⟨rfl, rfl⟩
    rw [HT.out]
    go_wp2
    go_region
    all_goals
      go_wp2
      go_ret
      refine ⟨by rw [← HC.out]; simp [Dig.putC, HT.out, HD2.out, HIN.out]; omega, put_same HL.out ((HB1.out.alloc HB1.out.size _).drew) (fun h => hlen h.2.2.2)⟩
  have hl' : ¬ ((1024 : Int) ≤ (L.length : Int)) := by omega
  have HCP := Lib.hid (fun w => copied_any n w HN.out)
  unfold nval at HCP
  go_enter Tryd.func17, Tryd.ntmps17
  go_wp2_with fail
  refine (isTag_any n.tag _).mono ?_
  rintro e w1 ⟨rfl, rfl⟩
  rw [HT.out]
  go_wp2
  go_region
  all_goals
    go_wp2_with fail
    refine (HCP.out _).mono ?_
    rintro e w2 ⟨rfl, hb2⟩
    have hB2 := bchain (HB1.out.alloc HB1.out.size (.cells #[] 61)).drew hb2
    have HB2 := Lib.hid hB2
    have HA := Lib.hid (add_any n L g F w2 (HL.out.below hB2) HN.out HIN.out hlen)
    unfold nval at HA
    clear hb2 hB2
    go_wp2_with fail
    refine HA.out.mono ?_
    rintro e w3 ⟨rfl, F', hF, hl3, ho3⟩
    go_wp2
    go_ret
    refine ⟨by rw [← HC.out]; simp [Dig.putC, HT.out, HD2.out, HIN.out]; omega, F', fun k hk => (hF k hk).imp id (fun h => Nat.le_trans HB2.out.size h), ?_, (Out.of HB2.out).trans ho3⟩
    rw [HD.out ⟨HT.out, HD2.out, HIN.out, hlen⟩]
    exact hl3
end Go.Proofs.YtebjckodfbailaaDoor
