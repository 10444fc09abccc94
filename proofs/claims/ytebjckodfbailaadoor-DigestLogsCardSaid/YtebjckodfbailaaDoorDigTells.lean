/- tells: a log tells what the document says of what is noted, and of a sum. -/
import Derived.Test.YtebjckodfbailaaDoorDigRefPut
namespace Go.Proofs.YtebjckodfbailaaDoor
open Go.RowKit

def Dig.other : Dig.N := ⟨0, [97, 110, 111, 116, 104, 101, 114, 32, 111, 110, 101], []⟩
theorem Dig.other_step {L : List Dig.N} {k : Nat} (hk : k < L.length) : (List.replicate k Dig.other ++ L.drop k).set k Dig.other = List.replicate (k + 1) Dig.other ++ L.drop (k + 1) := by
  rw [List.set_append_right _ _ (by simp), List.length_replicate, Nat.sub_self, List.drop_eq_getElem_cons hk, List.set_cons_zero, List.replicate_succ', List.append_assoc]
  rfl
theorem Dig.other_at {L : List Dig.N} {k : Nat} (hk : k < L.length) : ∃ h, (List.replicate k Dig.other ++ L.drop k)[k]'h = L[k] := by
  refine ⟨by simp; omega, ?_⟩
  rw [List.getElem_append_right (by simp)]
  simp
theorem Dig.clash_parts {G : List Dig.N} {a b : Dig.N} (h : Dig.clash G = some (a, b)) : Dig.clashA G = a ∧ Dig.clashB G = b ∧ (Dig.clash G).isSome = true := by
  simp [Dig.clashA, Dig.clashB, h]

set_option maxRecDepth 8000 in
set_option maxHeartbeats 2000000 in
theorem tells_any (G : List Dig.N) (v : Value) (g : Nat) (F : Nat → Prop) (d : List UInt8) (w : World) (hl : LogAt w g F G) (hv : AllIs w v G) (hd : d.length ≤ 140737488351232) :
    Calls Tryd.prog 18 #[.pointer (some ⟨g, 0, none⟩), v, .string ⟨d.toArray⟩] w fun e w' => e = .returned (.bool true) ∧ Below w.heap.size w w' := by
  have hlen : G.length ≤ 1024 := hl.len
  have HL := Lib.hid hl
  have HV := Lib.hid hv.noteds
  have HRF := Lib.hid (fun w hv => rFind_any G v d w hv (by omega))
  have HRC := Lib.hid (fun w hv => rClash_any G v w hv (by omega) hl.nodup)
  have HF := Lib.hid (fun w hl => find_any G d g F w hl hd)
  have HC := Lib.hid (fun w hl => clash_any G g F w hl)
  obtain ⟨A, cap, rfl⟩ := hv.noteds.form
  clear hl hv hd
  go_enter Tryd.func18, Tryd.ntmps18
  go_wp2_with fail
  refine (all_any G g F w HL.out).mono ?_
  rintro e w1 ⟨rfl, hr1, hb1⟩
  have HR1 := Lib.hid hr1
  have HB1 := Lib.hid hb1
  clear hr1 hb1
  go_wp2
  go_loopw [8] (fun iv wr => ∃ k : Nat, k ≤ G.length ∧ iv = .int .i64 k ∧ RowIs wr w.heap.size (List.replicate k Dig.other ++ G.drop k) ∧ Below w.heap.size w wr) (fun i _ => G.length - (intOf i).toNat)
  case atStart => exact ⟨0, Nat.zero_le _, rfl, by simpa using HR1.out, HB1.out⟩
  case round =>
    obtain ⟨k, hk, rfl, hr, hb⟩ := hrel
    have HB := Lib.hid hb
    have HR := Lib.hid hr
    clear hr hb
    by_cases hlt : k < G.length
    · have h1 : (k : Int) < (G.length : Int) := by omega
      have h0 : (0 : Int) ≤ (k : Int) := by omega
      obtain ⟨b, o, rfl, hbl⟩ := (HV.out.below HB.out).addr (by omega)
      obtain ⟨m0, m1, m2⟩ := (HV.out.below HB.out).at rfl k hlt
      obtain ⟨hkl, hko⟩ := Dig.other_at hlt
      obtain ⟨r0, r1, r2, f0, f1, f2⟩ := HR.out.at k hkl
      rw [hko] at r0 r1 r2
      have HKL := Lib.hid hkl
      clear hkl hko
      go_wp2
      go_quiet (fail)
      go_wp2
      refine ⟨⟨k + 1, by omega, by go_num, ?_, ?_⟩, by simp [intOf]; omega⟩
      · rw [← Dig.other_step hlt]
        exact RowIs.set (n := Dig.other) (show RowIs (wr.drewN _) w.heap.size _ from HR.out) k HKL.out
      · exact (((bDrewN HB.out _).setCell (Nat.le_refl _) _).setCell (Nat.le_refl _) _).setCell (Nat.le_refl _) _
    · obtain rfl : k = G.length := by omega
      have h1 : ¬ ((G.length : Int) < (G.length : Int)) := by omega
      clear hk
      have HLR := Lib.hid (HL.out.below HB.out)
      have hf1 := HF.out wr HLR.out
      obtain ⟨n1, hn1⟩ : ∃ n1, (Dig.find G d).getD Dig.zero = n1 := ⟨_, rfl⟩
      obtain ⟨ok1, ho1⟩ : ∃ ok1, (Dig.find G d).isSome = ok1 := ⟨_, rfl⟩
      rw [hn1, ho1] at hf1
      unfold nval at hf1
      have HF1 := Lib.hid hf1
      have HN1 := Lib.hid hn1
      have HO1 := Lib.hid ho1
      clear hf1 hn1 ho1
      go_wp2_with fail
      refine HF1.out.mono ?_
      rintro e w3 ⟨rfl, hb3⟩
      have hb3' : Below w.heap.size w (w3.alloc (.cells #[.int .i64 n1.tag, .string ⟨n1.text.toArray⟩, .string ⟨n1.dig.toArray⟩] 35)) := (bchain HB.out hb3).alloc (bchain HB.out hb3).size _
      have HB3 := Lib.hid hb3'
      have HV3 := Lib.hid (HV.out.below hb3')
      have hbx := heap_new_at w3 (.cells #[.int .i64 n1.tag, .string ⟨n1.text.toArray⟩, .string ⟨n1.dig.toArray⟩] 35) _ rfl
      obtain ⟨c0, c1, c2, -, -, -⟩ := cells3 hbx
      clear hb3 hb3' hbx
      go_wp2_with fail
      refine (HRF.out _ HV3.out).mono ?_
      rintro e w4 ⟨z, rfl, hz, hw⟩
      subst hw
      have hcase : (z = -1 ∧ n1 = Dig.zero ∧ ok1 = false) ∨ ∃ (k : Nat) (hk : k < G.length), z = k ∧ n1 = G[k] ∧ ok1 = true := by
        rcases hz with ⟨h, hno⟩ | ⟨k, hk, h, he, hlo⟩
        · have hfn : Dig.find G d = none := Dig.find_none.2 (fun n hn => by obtain ⟨j, hj, rfl⟩ := List.getElem_of_mem hn; exact hno j hj)
          exact Or.inl ⟨h, by rw [← HN1.out, hfn]; rfl, by rw [← HO1.out, hfn]; rfl⟩
        · have hfs := Dig.find_first hk he hlo
          exact Or.inr ⟨k, hk, h, by rw [← HN1.out, hfs]; rfl, by rw [← HO1.out, hfs]; rfl⟩
      have HCASE := Lib.hid hcase
      clear hz hcase
      generalize hW3 : (w3.alloc (.cells #[.int .i64 n1.tag, .string ⟨n1.text.toArray⟩, .string ⟨n1.dig.toArray⟩] 35)) = W3 at *
      clear hW3
      go_upto_region 12 with fail
      go_cut [75] from 52 (fun c wx => c = .bool false ∧ Below w.heap.size w wx)
      case first =>
        rcases HCASE.out with ⟨rfl, rfl, rfl⟩ | ⟨k, hk, rfl, rfl, rfl⟩
        · unfold Dig.zero at c0 c1 c2
          dsimp only at c0 c1 c2
          go_quiet (fail)
          go_wp2_with fail
          go_meet
          case rel => exact ⟨rfl, bDrewN HB3.out _⟩
        · have h2 : (k : Int) < (G.length : Int) := by omega
          have h0 : (0 : Int) ≤ (k : Int) := by omega
          have h0d : decide ((0 : Int) ≤ (k : Int)) = true := decide_eq_true h0
          obtain ⟨b, o, rfl, hbl⟩ := HV3.out.addr (by omega)
          obtain ⟨m0, m1, m2⟩ := HV3.out.at rfl k hk
          go_quiet (fail)
          go_wp2_with fail
          go_meet
          case rel => exact ⟨rfl, bDrewN HB3.out _⟩
      case rest =>
        obtain ⟨rfl, hb4⟩ := hcut
        have HB4 := Lib.hid hb4
        have HV4 := Lib.hid (HV.out.below hb4)
        have hc1 := HC.out wc (HL.out.below hb4)
        obtain ⟨a, ha⟩ : ∃ a, Dig.clashA G = a := ⟨_, rfl⟩
        obtain ⟨b', hb'⟩ : ∃ b', Dig.clashB G = b' := ⟨_, rfl⟩
        obtain ⟨ok2, ho2⟩ : ∃ ok2, (Dig.clash G).isSome = ok2 := ⟨_, rfl⟩
        rw [ha, hb', ho2] at hc1
        unfold nval at hc1
        have HC1 := Lib.hid hc1
        have HA := Lib.hid ha
        have HBB := Lib.hid hb'
        have HO2 := Lib.hid ho2
        clear hc1 ha hb' ho2 hb4 c0 c1 c2
        go_wp2_with fail
        refine HC1.out.mono ?_
        rintro e w5 ⟨rfl, hb5⟩
        have hb5' : Below w.heap.size w ((w5.alloc (.cells #[.int .i64 a.tag, .string ⟨a.text.toArray⟩, .string ⟨a.dig.toArray⟩] 35)).alloc (.cells #[.int .i64 b'.tag, .string ⟨b'.text.toArray⟩, .string ⟨b'.dig.toArray⟩] 35)) := ((bchain HB4.out hb5).alloc (bchain HB4.out hb5).size _).alloc (by have := (bchain HB4.out hb5).size; simp; omega) _
        have HB5 := Lib.hid hb5'
        have HV5 := Lib.hid (HV.out.below hb5')
        have g1 := heap_old_at (.cells #[.int .i64 b'.tag, .string ⟨b'.text.toArray⟩, .string ⟨b'.dig.toArray⟩] 35) (heap_new_at w5 (.cells #[.int .i64 a.tag, .string ⟨a.text.toArray⟩, .string ⟨a.dig.toArray⟩] 35) _ rfl)
        have g2 := heap_new_at (w5.alloc (.cells #[.int .i64 a.tag, .string ⟨a.text.toArray⟩, .string ⟨a.dig.toArray⟩] 35)) (.cells #[.int .i64 b'.tag, .string ⟨b'.text.toArray⟩, .string ⟨b'.dig.toArray⟩] 35) (w5.heap.size + 1) (by simp)
        obtain ⟨a0, a1, a2, -, -, -⟩ := cells3 g1
        obtain ⟨b0, b1, b2, -, -, -⟩ := cells3 g2
        clear hb5 hb5' g1 g2
        go_wp2_with fail
        refine (HRC.out _ HV5.out).mono ?_
        rintro e w6 ⟨x, y, rfl, hz, hw⟩
        subst hw
        have hcase : (x = -1 ∧ y = -1 ∧ a = Dig.zero ∧ b' = Dig.zero ∧ ok2 = false) ∨ ∃ (i k : Nat) (hi : i < G.length) (hk : k < G.length), x = i ∧ y = k ∧ a = G[i] ∧ b' = G[k] ∧ ok2 = true := by
          rcases hz with ⟨h, h', hno⟩ | ⟨i, k, hi, hk, h, h', he⟩
          · have hs : (Dig.clash G).isSome = false := by rw [hno]; rfl
            obtain ⟨e1, e2⟩ := Dig.clash_none' hs
            exact Or.inl ⟨h, h', by rw [← HA.out, e1], by rw [← HBB.out, e2], by rw [← HO2.out, hs]⟩
          · obtain ⟨e1, e2, e3⟩ := Dig.clash_parts he
            exact Or.inr ⟨i, k, hi, hk, h, h', by rw [← HA.out, e1], by rw [← HBB.out, e2], by rw [← HO2.out, e3]⟩
        clear hz HA HBB HO2 HC1
        generalize hW5 : ((w5.alloc (.cells #[.int .i64 a.tag, .string ⟨a.text.toArray⟩, .string ⟨a.dig.toArray⟩] 35)).alloc (.cells #[.int .i64 b'.tag, .string ⟨b'.text.toArray⟩, .string ⟨b'.dig.toArray⟩] 35)) = W5 at *
        clear hW5
        rcases hcase with ⟨rfl, rfl, rfl, rfl, rfl⟩ | ⟨i, k, hi, hk, rfl, rfl, rfl, rfl, rfl⟩
        · unfold Dig.zero at a0 a1 a2 b0 b1 b2
          dsimp only at a0 a1 a2 b0 b1 b2
          go_wp2
          go_ret
          exact ⟨rfl, HB5.out⟩
        · have h2 : (i : Int) < (G.length : Int) := by omega
          have h3 : (k : Int) < (G.length : Int) := by omega
          have h4 : (0 : Int) ≤ (i : Int) := by omega
          have h5 : (0 : Int) ≤ (k : Int) := by omega
          obtain ⟨b, o, rfl, hbl⟩ := HV5.out.addr (by omega)
          obtain ⟨m0, m1, m2⟩ := HV5.out.at rfl i hi
          obtain ⟨p0, p1, p2⟩ := HV5.out.at rfl k hk
          go_wp2
          go_quiet (fail)
          go_wp2
          go_ret
          exact ⟨rfl, bDrewN HB5.out _⟩
end Go.Proofs.YtebjckodfbailaaDoor
