/- DigestClash: a log tells a clash just if two unlike things that were noted have one sum; and what it tells are two such. -/
import Derived.Test.YtebjckodfbailaaDoorDigLawMath
import Derived.Test.YtebjckodfbailaaDoorDigWorks
import Derived.BigQuiet
import Derived.Deep.QuietTactic
import Derived.Deep.CutRange
namespace Go.Proofs.YtebjckodfbailaaDoor
open Go.RowKit

theorem Dig.N.ne_parts {a b : Dig.N} (h : a ≠ b) (hd : a.dig = b.dig) : a.tag ≠ b.tag ∨ (a.tag = b.tag ∧ a.text ≠ b.text) := by
  by_cases h1 : a.tag = b.tag
  · exact Or.inr ⟨h1, fun h2 => h (Dig.N.ext' h1 h2 hd)⟩
  · exact Or.inl h1
theorem Noteds.form {w : World} {v : Value} {L : List Dig.N} (h : Noteds w v L) : ∃ A cap, v = .slice A L.length cap := by
  obtain ⟨A, cap, e, _⟩ := h; exact ⟨A, cap, e⟩
theorem Noteds.at {w : World} {A : Option Addr} {cap m : Nat} {L : List Dig.N} (h : Noteds w (.slice A m cap) L) {b o : Nat} (hA : A = some ⟨b, o, none⟩) (i : Nat) (hi : i < L.length) :
    w.cell? ⟨b, o + i * 3, none⟩ = some (.int .i64 L[i].tag) ∧ w.cell? ⟨b, o + i * 3 + 1, none⟩ = some (.string ⟨L[i].text.toArray⟩) ∧ w.cell? ⟨b, o + i * 3 + 2, none⟩ = some (.string ⟨L[i].dig.toArray⟩) := by
  obtain ⟨A', cap', e, hc⟩ := h
  obtain ⟨rfl, -, -⟩ := (by simpa using e : A = A' ∧ m = L.length ∧ cap = cap')
  obtain ⟨b', o', e', _, h'⟩ := hc (by omega)
  rw [hA] at e'
  obtain ⟨rfl, rfl⟩ := (by simpa using e' : b = b' ∧ o = o')
  exact h' i hi
theorem Noteds.addr {w : World} {A : Option Addr} {cap m : Nat} {L : List Dig.N} (h : Noteds w (.slice A m cap) L) (h0 : 0 < L.length) : ∃ b o, A = some ⟨b, o, none⟩ ∧ b < w.heap.size := by
  obtain ⟨A', cap', e, hc⟩ := h
  obtain ⟨rfl, -, -⟩ := (by simpa using e : A = A' ∧ m = L.length ∧ cap = cap')
  obtain ⟨b', o', e', hl, _⟩ := hc h0
  exact ⟨b', o', e', hl⟩

set_option maxRecDepth 8000 in
set_option maxHeartbeats 2000000 in
theorem clash_walk (v : Value) (L : List Dig.N) (w : World) (hv : Noteds w v L) (hlen : L.length * 40 ≤ reachBytes) (hok : ∀ n ∈ L, OkN n) (hT : Tab w) :
    Calls Tryd.prog 5 #[v] w fun e w' => e = .returned (.bool true) ∧ Below w.heap.size w w' := by
  have hr : reachBytes = 140737488351232 := rfl
  have HF := Lib.hid (fun w hv => fill_any L v w hv hok (by omega))
  have HV := Lib.hid hv
  have HT := Lib.hid hT
  have HG : Hid (Dig.pre (Dig.fillI [] [] (L.take 40)) (Dig.fillI [] [] (L.take 40)).length = (Dig.clash (Dig.fillG [] (L.take 40))).isSome) := Lib.hid (Dig.fill_pre _)
  have HGD := Lib.hid (Dig.fill_good (L.take 40))
  obtain ⟨A, cap, rfl⟩ := hv.form
  clear hv hlen hok hT hr
  go_enter Tryd.func5, Tryd.ntmps5
  go_wp2_with fail
  refine (works_any _ HT.out).mono ?_
  rintro e w1 ⟨rfl, hb1⟩
  have HB1 := Lib.hid hb1
  clear hb1
  go_wp2_with fail
  refine (HF.out _ (HV.out.below HB1.out)).mono ?_
  rintro e w2 ⟨g, s, F, rfl, hbo, hb2⟩
  obtain ⟨G, hG⟩ : ∃ G, Dig.fillG [] (L.take 40) = G := ⟨_, rfl⟩
  obtain ⟨I, hI⟩ : ∃ I, Dig.fillI [] [] (L.take 40) = I := ⟨_, rfl⟩
  rw [hG, hI] at HG hbo
  rw [hG] at HGD
  have hil : (I.length : Int) ≤ 40 := by
    have := Dig.fillI_length [] [] (L.take 40)
    rw [hI] at this
    simp at this
    omega
  have HBO := Lib.hid hbo
  have HB2 := Lib.hid (bchain HB1.out hb2)
  have HN := Lib.hid hbo.noteds
  obtain ⟨As, caps, rfl⟩ := hbo.noteds.form
  clear hb2 hG hI HF HV hbo
  go_wp2
  go_loopw [5, 20] (fun bv iv wr => ∃ i : Nat, i ≤ I.length ∧ iv = .int .i64 i ∧ bv = .bool (Dig.pre I i) ∧ Below w2.heap.size w2 wr) (fun _ i _ => I.length - (intOf i).toNat)
  case atStart => exact ⟨0, Nat.zero_le _, rfl, rfl, Below.refl _ _⟩
  case round =>
    obtain ⟨i, hi, rfl, rfl, hb⟩ := hrel
    have HB := Lib.hid hb
    clear hb
    by_cases hlt : i < I.length
    · have h1 : (i : Int) < (I.length : Int) := by omega
      obtain ⟨b, o, rfl, hbl⟩ := HN.out.addr (by omega)
      obtain ⟨n0, n1, n2⟩ := HN.out.at rfl i hlt
      have HPS := Lib.hid (Dig.pre_succ I i)
      rw [show I.getD i Dig.zero = I[i] by simp [List.getD, List.getElem?_eq_getElem hlt]] at HPS
      obtain ⟨n, hn⟩ : ∃ n, I[i] = n := ⟨_, rfl⟩
      rw [hn] at n0 n1 n2 HPS
      obtain ⟨p, hp⟩ : ∃ p, Dig.pre I i = p := ⟨_, rfl⟩
      rw [hp] at HPS ⊢
      clear hn hp
      go_wp2
      go_loopw [5, 24] (fun bv kv wx => ∃ k : Nat, k ≤ i ∧ kv = .int .i64 k ∧ bv = .bool (p || (I.take k).any (Dig.unl n)) ∧ Below w2.heap.size w2 wx) (fun _ k _ => i - (intOf k).toNat)
      case atStart => exact ⟨0, Nat.zero_le _, rfl, by simp, HB.out⟩
      case round =>
        obtain ⟨k, hk, rfl, rfl, hbx⟩ := hrel
        have HBX := Lib.hid hbx
        clear hbx
        by_cases hkt : k < i
        · have h2 : (k : Int) < (i : Int) := by omega
          obtain ⟨m0, m1, m2⟩ := HN.out.at rfl k (by omega : k < I.length)
          have hk3 : (k : Int) < (I.length : Int) := by omega
          have hk0 : (0 : Int) ≤ (k : Int) := by omega
          have hi0 : (0 : Int) ≤ (i : Int) := by omega
          have HAS := Lib.hid (Dig.any_snoc I n k (by omega))
          obtain ⟨m, hm⟩ : ∃ m, I[k] = m := ⟨_, rfl⟩
          obtain ⟨q, hq⟩ : ∃ q, (p || (I.take k).any (Dig.unl n)) = q := ⟨_, rfl⟩
          have HQ := Lib.hid hq
          rw [hm] at m0 m1 m2 HAS
          rw [hq]
          have n0 := (HBX.out.cell (p := ⟨b, o + i * 3, none⟩) hbl).trans n0
          have n1 := (HBX.out.cell (p := ⟨b, o + i * 3 + 1, none⟩) hbl).trans n1
          have n2 := (HBX.out.cell (p := ⟨b, o + i * 3 + 2, none⟩) hbl).trans n2
          have m0 := (HBX.out.cell (p := ⟨b, o + k * 3, none⟩) hbl).trans m0
          have m1 := (HBX.out.cell (p := ⟨b, o + k * 3 + 1, none⟩) hbl).trans m1
          have m2 := (HBX.out.cell (p := ⟨b, o + k * 3 + 2, none⟩) hbl).trans m2
          clear hm hq
          go_wp2
          cases q with
          | true =>
            go_quiet (fail)
            go_wp2
            refine ⟨⟨k + 1, by omega, by go_num, by rw [HAS.out, ← Bool.or_assoc, HQ.out]; rfl, bDrewN HBX.out _⟩, by simp [intOf]; omega⟩
          | false =>
            by_cases ht : n.tag = m.tag
            · rw [← ht] at m0
              by_cases hx : n.text = m.text
              · rw [← hx] at m1
                by_cases hd : n.dig = m.dig
                · rw [← hd] at m2
                  have HU : Hid (Dig.unl n m = false) := Lib.hid (by simp [Dig.unl, Dig.N.ext' ht hx hd])
                  clear ht hx hd
                  go_quiet (fail)
                  go_wp2
                  refine ⟨⟨k + 1, by omega, by go_num, by (rw [HAS.out, ← Bool.or_assoc, HQ.out, HU.out]; first | rfl | simp [hd]), bDrewN HBX.out _⟩, by simp [intOf]; omega⟩
                · have HU : Hid (Dig.unl n m = false) := Lib.hid (by simp [Dig.unl, hd])
                  clear ht hx
                  go_quiet (fail)
                  go_wp2
                  refine ⟨⟨k + 1, by omega, by go_num, by (rw [HAS.out, ← Bool.or_assoc, HQ.out, HU.out]; first | rfl | simp [hd]), bDrewN HBX.out _⟩, by simp [intOf]; omega⟩
              · by_cases hd : n.dig = m.dig
                · rw [← hd] at m2
                  have HU : Hid (Dig.unl n m = true) := Lib.hid (by simp only [Dig.unl, decide_eq_true_eq]; exact ⟨fun e => hx (by rw [e]), hd⟩)
                  clear ht hd
                  go_quiet (fail)
                  go_wp2
                  refine ⟨⟨k + 1, by omega, by go_num, by (rw [HAS.out, ← Bool.or_assoc, HQ.out, HU.out]; first | rfl | simp [hd]), bDrewN HBX.out _⟩, by simp [intOf]; omega⟩
                · have HU : Hid (Dig.unl n m = false) := Lib.hid (by simp [Dig.unl, hd])
                  clear ht
                  go_quiet (fail)
                  go_wp2
                  refine ⟨⟨k + 1, by omega, by go_num, by (rw [HAS.out, ← Bool.or_assoc, HQ.out, HU.out]; first | rfl | simp [hd]), bDrewN HBX.out _⟩, by simp [intOf]; omega⟩
            · by_cases hd : n.dig = m.dig
              · rw [← hd] at m2
                have HU : Hid (Dig.unl n m = true) := Lib.hid (by simp only [Dig.unl, decide_eq_true_eq]; exact ⟨fun e => ht (by rw [e]), hd⟩)
                clear hd
                go_quiet (fail)
                go_wp2
                refine ⟨⟨k + 1, by omega, by go_num, by (rw [HAS.out, ← Bool.or_assoc, HQ.out, HU.out]; first | rfl | simp [hd]), bDrewN HBX.out _⟩, by simp [intOf]; omega⟩
              · have HU : Hid (Dig.unl n m = false) := Lib.hid (by simp [Dig.unl, hd])
                go_quiet (fail)
                go_wp2
                refine ⟨⟨k + 1, by omega, by go_num, by (rw [HAS.out, ← Bool.or_assoc, HQ.out, HU.out]; first | rfl | simp [hd]), bDrewN HBX.out _⟩, by simp [intOf]; omega⟩
        · obtain rfl : k = i := by omega
          have h2 : ¬ ((k : Int) < (k : Int)) := by omega
          have hk0 : (0 : Int) ≤ (k : Int) := by omega
          clear n0 n1 n2
          go_wp2
          refine ⟨⟨k + 1, by omega, by go_num, by rw [HPS.out], HBX.out⟩, by simp [intOf]; omega⟩
    · obtain rfl : i = I.length := by omega
      have h1 : ¬ ((I.length : Int) < (I.length : Int)) := by omega
      have HBG := Lib.hid (HBO.out.below HB.out)
      have HCL := Lib.hid (clash_any G g F wr HBG.out.log)
      have HTD := Lib.hid (fun h => Dig.clash_told (G := G) h)
      have HTN := Lib.hid (fun h => Dig.clash_none' (G := G) h)
      have HD32 : Hid (∀ a ∈ G, a.dig.length = 32) := Lib.hid (fun a ha => (HGD.out a ha).2)
      obtain ⟨p, hp⟩ : ∃ p, Dig.pre I I.length = p := ⟨_, rfl⟩
      rw [hp] at HG ⊢
      rw [← HG.out] at HCL HTD HTN
      obtain ⟨a, ha⟩ : ∃ a, Dig.clashA G = a := ⟨_, rfl⟩
      obtain ⟨b, hb⟩ : ∃ b, Dig.clashB G = b := ⟨_, rfl⟩
      rw [ha, hb] at HCL HTD HTN
      clear ha hb hp hi
      cases p with
      | false =>
        obtain ⟨rfl, rfl⟩ := HTN.out rfl
        unfold nval Dig.zero at HCL
        dsimp only at HCL
        go_wp2_with fail
        refine HCL.out.mono ?_
        rintro e w4 ⟨rfl, hb4⟩
        have HB4 := Lib.hid ((bchain HB2.out HB.out).trans (hb4.mono (bchain HB2.out HB.out).size))
        clear hb4
        go_wp2
        go_ret
        exact ⟨rfl, (HB4.out.alloc HB4.out.size _).alloc (by have := HB4.out.size; simp; omega) _⟩
      | true =>
        obtain ⟨hne, hdd, hma, _⟩ := HTD.out rfl
        have h32 : (a.dig.length : Int) = 32 := by have := HD32.out a hma; omega
        have hcase := Dig.N.ne_parts hne hdd
        unfold nval at HCL
        rw [← hdd] at HCL
        clear hne hdd hma
        rcases hcase with ht | ⟨ht, hx⟩
        · go_wp2_with fail
          refine HCL.out.mono ?_
          rintro e w4 ⟨rfl, hb4⟩
          have HB4 := Lib.hid ((bchain HB2.out HB.out).trans (hb4.mono (bchain HB2.out HB.out).size))
          clear hb4
          go_wp2
          go_ret
          exact ⟨rfl, (HB4.out.alloc HB4.out.size _).alloc (by have := HB4.out.size; simp; omega) _⟩
        · rw [← ht] at HCL
          clear ht
          go_wp2_with fail
          refine HCL.out.mono ?_
          rintro e w4 ⟨rfl, hb4⟩
          have HB4 := Lib.hid ((bchain HB2.out HB.out).trans (hb4.mono (bchain HB2.out HB.out).size))
          clear hb4
          go_wp2
          go_ret
          exact ⟨rfl, (HB4.out.alloc HB4.out.size _).alloc (by have := HB4.out.size; simp; omega) _⟩
end Go.Proofs.YtebjckodfbailaaDoor
