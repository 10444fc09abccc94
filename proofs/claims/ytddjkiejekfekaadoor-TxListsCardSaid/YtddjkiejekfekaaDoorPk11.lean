/- CodeRefList, TxRdr, Results, TxDecBase -/
import Derived.Test.YtddjkiejekfekaaDoorPk01
import Derived.Test.YtddjkiejekfekaaDoorPk07
import Derived.Test.YtddjkiejekfekaaDoorPk10
import Derived.Test.YtddjkiejekfekaaDoorPk02
import Derived.Laws.ResultCell
import Derived.Test.YtddjkiejekfekaaDoorPk09
namespace Go.Proofs.YtddjkiejekfekaaDoor
open Go.RowKit

def Code.textPm (most : Int) (s : List UInt8) : List UInt8 × List UInt8 × Int :=
  if (Pw.takeR s).2.2 ≠ 0 then ([], [], (Pw.takeR s).2.2) else if most < ((Pw.takeR s).1 : Int) then ([], [], 2) else if (Pw.takeR s).2.1.length < (Pw.takeR s).1 then ([], [], 20) else ((Pw.takeR s).2.1.take (Pw.takeR s).1, (Pw.takeR s).2.1.drop (Pw.takeR s).1, 0)
theorem Code.textR_Pm (most : Int) (s : List UInt8) : Code.textR most s = if (Code.textPm most s).2.2 ≠ 0 then ([], s, (Code.textPm most s).2.2) else ((Code.textPm most s).1, (Code.textPm most s).2.1, 0) := by
  unfold Code.textR Code.countL Code.textPm Pw.takeR
  by_cases he : (Code.leadL s).2.2 = 0
  · have e1 : ¬ ((Code.leadL s).2.2 ≠ 0) := by simpa using he
    simp only [if_neg e1]
    by_cases h6 : most < ((Code.leadL s).1 : Int)
    · simp [h6]
    · simp only [if_neg h6]
      by_cases hlen : (s.drop (Code.leadL s).2.1).length < (Code.leadL s).1
      · simp only [if_pos hlen]
        simp
      · simp only [if_neg hlen]
        simp
  · simp [he]
set_option maxRecDepth 8000 in
set_option maxHeartbeats 1000000 in
theorem rtextm_any (most : Int) (s : List UInt8) (w : World) (hl : s.length ≤ 100000000) :
    Calls Tryd.prog 61 #[.string ⟨s.toArray⟩, .int .i64 most] w fun e w' => e = .returned (.tuple #[.string ⟨(Code.textPm most s).1.toArray⟩, .string ⟨(Code.textPm most s).2.1.toArray⟩, .int .i64 (Code.textPm most s).2.2]) ∧ Below w.heap.size w w' := by
  have HT := Lib.hid (rtake_any s w hl)
  have hr := Pw.takeR_lt s
  unfold Code.textPm
  obtain ⟨⟨n, r, e⟩, hp⟩ : ∃ p, Pw.takeR s = p := ⟨_, rfl⟩
  rw [hp] at HT hr ⊢
  dsimp only at HT hr ⊢
  have hrl : r.length ≤ 100000000 := by omega
  clear hp hl
  by_cases he : e = 0
  · subst he
    rw [if_neg (by simp)]
    by_cases h6 : most < (n : Int)
    · rw [if_pos h6]
      clear hr
      go_enter Tryd.func61, Tryd.ntmps61
      go_wp2_with fail
      refine HT.out.mono ?_
      rintro e w1 ⟨rfl, hb⟩
      go_wp2
      go_ret3
      exact ⟨rfl, hb⟩
    · rw [if_neg h6]
      by_cases hlen : r.length < n
      · rw [if_pos hlen]
        have hlen' : (r.length : Int) < (n : Int) := by omega
        clear hr
        go_enter Tryd.func61, Tryd.ntmps61
        go_wp2_with fail
        refine HT.out.mono ?_
        rintro e w1 ⟨rfl, hb⟩
        go_wp2
        go_ret3
        exact ⟨rfl, hb⟩
      · rw [if_neg hlen]
        have hlen' : ¬ ((r.length : Int) < (n : Int)) := by omega
        have he1 := ext_take r n
        have he2 := ext_drop r n
        have hn0 : (0 : Int) ≤ (n : Int) := by omega
        have hn1 : (n : Int) ≤ (r.length : Int) := by omega
        clear hr
        go_enter Tryd.func61, Tryd.ntmps61
        go_wp2_with fail
        refine HT.out.mono ?_
        rintro e w1 ⟨rfl, hb⟩
        go_wp2
        go_quiet (fail)
        go_wp2
        go_ret3
        exact ⟨rfl, bel_drewN' hb _⟩
  · rw [if_pos he]
    have he' : (e != 0) = true := by rw [bne_iff_ne]; exact he
    clear hr
    go_enter Tryd.func61, Tryd.ntmps61
    go_wp2_with fail
    refine HT.out.mono ?_
    rintro e w1 ⟨rfl, hb⟩
    go_wp2
    go_ret3
    exact ⟨rfl, hb⟩

/-- What is left to be read behind k texts, against the whole. -/
def Code.Left (Q : List (List UInt8) × List UInt8 × Int) (n k : Nat) (each : Int) (r : List UInt8) (O : List (List UInt8)) (c : Int) : Prop :=
  (c = 0 ∧ Q.2.2 = (Code.readN (n - k) each r).2.2 ∧ (Q.2.2 = 0 → Q.1 = O ++ (Code.readN (n - k) each r).1 ∧ Q.2.1 = (Code.readN (n - k) each r).2.1)) ∨ (c ≠ 0 ∧ Q.2.2 = c)
theorem Code.Left.bad {Q : List (List UInt8) × List UInt8 × Int} {n k : Nat} {each : Int} {r : List UInt8} {O : List (List UInt8)} (h : Code.Left Q n k each r O 0) (hk : k < n) (he : (Code.textR each r).2.2 ≠ 0) (r' : List UInt8) (O' : List (List UInt8)) : Code.Left Q n (k + 1) each r' O' (Code.textR each r).2.2 := by
  rcases h with ⟨_, h1, h2⟩ | ⟨h, _⟩
  · refine Or.inr ⟨he, ?_⟩
    obtain ⟨m, hm⟩ : ∃ m, n - k = m + 1 := ⟨n - k - 1, by omega⟩
    rw [h1, hm, Code.readN, if_pos he]
  · exact absurd rfl h
theorem Code.Left.good {Q : List (List UInt8) × List UInt8 × Int} {n k : Nat} {each : Int} {r : List UInt8} {O : List (List UInt8)} (h : Code.Left Q n k each r O 0) (hk : k < n) (he : (Code.textR each r).2.2 = 0) : Code.Left Q n (k + 1) each (Code.textR each r).2.1 (O ++ [(Code.textR each r).1]) 0 := by
  rcases h with ⟨_, h1, h2⟩ | ⟨h, _⟩
  · refine Or.inl ⟨rfl, ?_⟩
    obtain ⟨m, hm⟩ : ∃ m, n - k = m + 1 := ⟨n - k - 1, by omega⟩
    have hm' : n - (k + 1) = m := by omega
    rw [hm, Code.readN, if_neg (by simpa using he)] at h1 h2
    rw [hm']
    refine ⟨h1, fun q => ?_⟩
    obtain ⟨h3, h4⟩ := h2 q
    exact ⟨by rw [h3]; simp, h4⟩
  · exact absurd rfl h

def RListPost (most each : Int) (s : List UInt8) (g : Nat) (w : World) (e : Ending) (w' : World) : Prop :=
  ∃ v, e = .returned v ∧ Own w' w.heap.size v (Code.listR most each s).1 ∧ RRd w' g (Code.listR most each s).2.1 (Code.listR most each s).2.2 ∧ Only g w w'
theorem Own.only {w w' : World} {B g : Nat} {v : Value} {L : List (List UInt8)} (h : Own w B v L) (ho : Only g w w') (hg : g < B) : Own w' B v L := by
  refine ⟨h.1, ?_⟩
  rcases h.2 with hn | ⟨k, cap, cur, hv, hb, hk, hr⟩
  · exact Or.inl hn
  · exact Or.inr ⟨k, cap, cur, hv, hb, (ho.block k (lt_of_heap hk) (by omega)).trans hk, hr⟩

set_option maxRecDepth 8000 in
set_option maxHeartbeats 2000000 in
theorem rrlist_any (most each : Int) (s : List UInt8) (g : Nat) (w : World) (h : RRd w g s 0) (hl : s.length ≤ 100000000) :
    Calls Tryd.prog 46 #[.pointer (some ⟨g, 0, none⟩), .int .i64 most, .int .i64 each] w (RListPost most each s g w) := by
  unfold RListPost
  obtain ⟨i0, hi, hz0, hz1, hz2⟩ := info_parts Tryd.infoStr
  have h0 := h.left
  have h1 := h.code
  have HR := Lib.hid h
  have HGL := Lib.hid h.lt
  have HT := Lib.hid (rtake_any s w hl)
  have htl := Pw.takeR_lt s
  have HCO : Hid (Code.countL most s = if (Pw.takeR s).2.2 ≠ 0 then (0, s, (Pw.takeR s).2.2) else if most < ((Pw.takeR s).1 : Int) then (0, s, 2) else ((Pw.takeR s).1, (Pw.takeR s).2.1, 0)) := Lib.hid (by
    unfold Code.countL Pw.takeR
    by_cases he : (Code.leadL s).2.2 = 0
    · have e1 : ¬ ((Code.leadL s).2.2 ≠ 0) := by simpa using he
      simp only [if_neg e1]
      simp only [ne_eq, not_true_eq_false, if_false, gt_iff_lt]
    · simp [he])
  have htk : (Pw.takeR s).2.2 = 0 → (Pw.takeR s).2.1.length + 1 ≤ s.length := by
    intro e
    unfold Pw.takeR at e ⊢
    split at e
    · rename_i h; exact absurd e h
    · rename_i h
      rw [if_neg h]
      have h6 := Code.lead_ok s (by simpa using h)
      have h7 := congrArg List.length h6.2.2
      rw [List.length_take, Code.numL_length] at h7
      simp only [List.length_drop]
      omega
  obtain ⟨⟨n, r, e⟩, hp⟩ : ∃ p, Pw.takeR s = p := ⟨_, rfl⟩
  rw [hp] at HT htl HCO htk
  dsimp only at HT htl HCO htk
  have HB0 : Hid (∀ w1, Below w.heap.size w w1 → RRd w1 g s 0) := Lib.hid (fun w1 hb => HR.out.below hb)
  clear hp h
  by_cases he : e = 0
  case neg =>
    have hL : Code.listR most each s = ([], s, e) := by
      have hc : Code.countL most s = (0, s, e) := by rw [HCO.out, if_pos he]
      unfold Code.listR
      rw [hc]
      simp [he]
    rw [hL]
    dsimp only
    have he1 : (e == 0) = false := by rw [beq_eq_false_iff_ne]; exact he
    have he2 : (e != 0) = true := by rw [bne_iff_ne]; exact he
    clear hL htk htl
    go_enter Tryd.func46, Tryd.ntmps46
    go_wp2_with fail
    refine HT.out.mono ?_
    rintro e1 w1 ⟨rfl, hb⟩
    have HBB := Lib.hid hb
    have g1 := (HB0.out w1 hb).code
    have f1 := (HB0.out w1 hb).free1
    clear h0 h1 hb
    go_wp2
    go_loopw [8, 9, 10, 11] (fun rest e1 out i wr => rest = .string ⟨r.toArray⟩ ∧ e1 = .int .i64 e ∧ out = .slice none 0 0 ∧ i = .int .i64 0 ∧ wr = w1) (fun _ _ _ _ _ => 0)
    case atStart => exact ⟨rfl, rfl, rfl, rfl, rfl⟩
    case round =>
      obtain ⟨rfl, rfl, rfl, rfl, rfl⟩ := hrel
      go_wp2
      go_ret
      exact ⟨_, rfl, Own.nil _ _, (HB0.out _ HBB.out).setCode _, (Only.of HBB.out).setCell (p := ⟨g, 1, none⟩) rfl _⟩
  subst he
  have htk' := htk rfl
  by_cases hm : most < (n : Int)
  · have hL : Code.listR most each s = ([], s, 2) := by
      have hc : Code.countL most s = (0, s, 2) := by rw [HCO.out, if_neg (by simp), if_pos hm]
      unfold Code.listR
      rw [hc]
      simp
    rw [hL]
    dsimp only
    clear hL htk htl htk'
    go_enter Tryd.func46, Tryd.ntmps46
    go_wp2_with fail
    refine HT.out.mono ?_
    rintro e1 w1 ⟨rfl, hb⟩
    have HBB := Lib.hid hb
    have g1 := (HB0.out w1 hb).code
    have f1 := (HB0.out w1 hb).free1
    clear h0 h1 hb
    go_wp2
    go_loopw [8, 9, 10, 11] (fun rest e1 out i wr => rest = .string ⟨r.toArray⟩ ∧ e1 = .int .i64 2 ∧ out = .slice none 0 0 ∧ i = .int .i64 0 ∧ wr = w1) (fun _ _ _ _ _ => 0)
    case atStart => exact ⟨rfl, rfl, rfl, rfl, rfl⟩
    case round =>
      obtain ⟨rfl, rfl, rfl, rfl, rfl⟩ := hrel
      go_wp2
      go_ret
      exact ⟨_, rfl, Own.nil _ _, (HB0.out _ HBB.out).setCode _, (Only.of HBB.out).setCell (p := ⟨g, 1, none⟩) rfl _⟩
  have HL : Hid (Code.listR most each s = if (Code.readN n each r).2.2 ≠ 0 then ([], s, (Code.readN n each r).2.2) else Code.readN n each r) := Lib.hid (by
    have hc : Code.countL most s = (n, r, 0) := by rw [HCO.out, if_neg (by simp), if_neg hm]
    unfold Code.listR
    rw [hc]
    simp)
  obtain ⟨X, hX⟩ : ∃ X, Code.listR most each s = X := ⟨_, rfl⟩
  rw [hX] at HL ⊢
  obtain ⟨Q, hQ⟩ : ∃ Q, Code.readN n each r = Q := ⟨_, rfl⟩
  have hQ0 : Code.Left Q n 0 each r [] 0 := Or.inl ⟨rfl, by rw [← hQ]; rfl, fun _ => by rw [← hQ]; simp⟩
  rw [hQ] at HL
  have HQ0 := Lib.hid hQ0
  have hrl : r.length ≤ 100000000 := by omega
  have HRL := Lib.hid hrl
  have hn9 : (n : Int) ≤ 9223372036854775807 := by have := htl.1; omega
  clear hX hQ hQ0 htk htl htk' hrl hl
  go_enter Tryd.func46, Tryd.ntmps46
  go_wp2_with fail
  refine HT.out.mono ?_
  rintro e1 w1 ⟨rfl, hb⟩
  have HBB := Lib.hid hb
  clear h0 h1 hb
  go_wp2
  go_loopw [8, 9, 10, 11] (fun rest e1 out i wr => ∃ (k : Nat) (c : Int) (rk : List UInt8) (O : List (List UInt8)) (z : Value), z = out ∧ rest = .string ⟨rk.toArray⟩ ∧ e1 = .int .i64 c ∧ i = .int .i64 k ∧ k ≤ n ∧ O.length = k ∧ (c = 0 → k + rk.length ≤ r.length) ∧ Hid (Code.Left Q n k each rk O c) ∧ Own wr w.heap.size z O ∧ Below w.heap.size w wr) (fun _ _ _ i _ => n - (intOf i).toNat)
  case atStart => exact ⟨0, 0, r, [], _, rfl, rfl, rfl, rfl, Nat.zero_le _, rfl, fun _ => by omega, HQ0, Own.nil _ _, HBB.out⟩
  case round =>
    obtain ⟨k, c, rk, O, z, rfl, rfl, rfl, rfl, hk, hOk, hkl, HLF, hown, hb⟩ := hrel
    have HOW := Lib.hid hown
    have HBk := Lib.hid hb
    have HOK := Lib.hid hOk
    clear hown hOk
    by_cases hc : c = 0
    · subst hc
      have hkl' := hkl rfl
      clear hkl
      by_cases hlt : k < n
      · have h1 : (k : Int) < (n : Int) := by omega
        have hkr : k ≤ 100000000 := by have := HRL.out; omega
        have HKR := Lib.hid hkr
        have h3 : (k : Int) ≤ 9223372036854775806 := by omega
        have HTX := Lib.hid (rtextm_any each rk wr (by have := HRL.out; omega))
        have HRP := Lib.hid (Code.textR_Pm each rk)
        have HTL := Lib.hid (Code.text_less each rk)
        obtain ⟨⟨x, r', e'⟩, hp⟩ : ∃ p, Code.textPm each rk = p := ⟨_, rfl⟩
        rw [hp] at HTX HRP
        dsimp only at HTX HRP
        have HNX : Hid ((e' = 0 → k + 1 + r'.length ≤ r.length) ∧ Code.Left Q n (k + 1) each r' (O ++ [x]) e') := Lib.hid (by
          by_cases he : e' = 0
          · subst he
            have e1 := HRP.out
            rw [if_neg (by simp)] at e1
            have e2 := HTL.out (by rw [e1])
            have e3 := HLF.out.good hlt (by rw [e1])
            rw [e1] at e2 e3
            dsimp only at e2 e3
            exact ⟨fun _ => by omega, e3⟩
          · have e1 := HRP.out
            rw [if_pos he] at e1
            have e3 := HLF.out.bad hlt (by rw [e1]; exact he) r' (O ++ [x])
            rw [e1] at e3
            exact ⟨fun h => absurd h he, e3⟩)
        have HSZ : Hid (w.heap.size ≤ wr.heap.size) := Lib.hid hb.size
        clear hp hkr hkl' hb
        go_wp2_with fail
        refine HTX.out.mono ?_
        rintro e1 w2 ⟨rfl, hb2⟩
        have HB2 := Lib.hid (HBk.out.trans (hb2.mono HSZ.out))
        have HOW2 := Lib.hid (HOW.out.below hb2)
        have HSZ2 : Hid (w.heap.size ≤ w2.heap.size) := Lib.hid (Nat.le_trans HSZ.out hb2.size)
        clear hb2
        go_wp2_with (at_builtin; refine wpList_append_lies _ rfl _ _ _ rfl w.heap.size 9 i0 (.string ⟨#[]⟩) 1 16 Tryd.underlying61 hi hz0 hz1 hz2 rfl (by decide) z O.length (scells O) (by rfl) (World.ownsRow.alloc HOW2.out _) ⟨w2.heap.size, 0, none⟩ 1 1 (scells [x]) (by rfl) rfl (World.news_of_block (heap_new_at _ _ _ rfl)) (by simp [scells, Value.oneCell']) (by decide) (by have := HOK.out; have := HKR.out; unfold maxLen; omega) (by have := HOK.out; have := HKR.out; omega) (by have := HSZ2.out; simp; omega) (w2.heap.size + 1) (by simp) ?_; intro g' cap' w5 hown5 hgrow5 hat5 hlt5)
        have hB5 : Below w.heap.size w w5 := HB2.out.trans (((Out.of ((Below.refl _ w2).alloc (Nat.le_refl _) _)).trans (Out.grown hgrow5 (F := fun j => z.ownBlock = some j) (fun j e => e))).below (fun j hj => (HOW2.out.lt j hj).1) HSZ2.out)
        refine ⟨⟨k + 1, e', r', O ++ [x], _, rfl, rfl, rfl, by go_num, by omega, by rw [List.length_append, HOK.out]; rfl, HNX.out.1, Lib.hid HNX.out.2, ?_, hB5⟩, by simp [intOf]; omega⟩
        unfold Own
        rw [scells_append, List.length_append]
        exact hown5
      · have h1 : ¬ ((k : Int) < (n : Int)) := by omega
        obtain rfl : k = n := by omega
        obtain rfl : X = (O, rk, 0) := (by
          rcases HLF.out with ⟨_, e1, e2⟩ | ⟨e, _⟩
          · rw [Nat.sub_self] at e1 e2
            have e3 : Q.2.2 = 0 := e1
            obtain ⟨e4, e5⟩ := e2 e3
            rw [HL.out, if_neg (by simpa using e3)]
            obtain ⟨q1, q2, q3⟩ := Q
            simp [Code.readN] at e3 e4 e5
            simp [e3, e4, e5]
          · exact absurd rfl e)
        have h2 := HB0.out wr hb
        have g1 := h2.code
        have f1 := h2.free1
        have h3 := h2.setCode 0
        have g0 := h3.left
        have f0 := h3.free0
        have HR3 := Lib.hid h3
        clear h2 h3 hb hkl'
        go_wp2
        go_ret
        exact ⟨z, rfl, (HOW.out.only (((Only.refl g _).setCell (p := ⟨g, 1, none⟩) rfl _).setCell (p := ⟨g, 0, none⟩) rfl _) HGL.out), HR3.out.setLeft rk, ((Only.of HBk.out).setCell (p := ⟨g, 1, none⟩) rfl _).setCell (p := ⟨g, 0, none⟩) rfl _⟩
    · have hc1 : (c == 0) = false := by rw [beq_eq_false_iff_ne]; exact hc
      have hc2 : (c != 0) = true := by rw [bne_iff_ne]; exact hc
      obtain rfl : X = ([], s, c) := (by
        rcases HLF.out with ⟨e, _⟩ | ⟨_, e1⟩
        · exact absurd e hc
        · rw [HL.out, e1, if_pos hc])
      have h2 := HB0.out wr hb
      have g1 := h2.code
      have f1 := h2.free1
      have HR2 := Lib.hid h2
      clear h2 hb hkl
      go_wp2
      go_ret
      exact ⟨_, rfl, Own.nil _ _, HR2.out.setCode _, (Only.of HBk.out).setCell (p := ⟨g, 1, none⟩) rfl _⟩

set_option maxRecDepth 8000 in
set_option maxHeartbeats 400000 in
theorem rrend_st (st : Pw.St) (g : Nat) (w : World) (h : RRd w g st.1 st.2) :
    Calls Tryd.prog 47 #[.pointer (some ⟨g, 0, none⟩)] w fun e w' => e = .returned (.int .i64 (Pw.endC st)) ∧ Only g w w' := by
  obtain ⟨s, c⟩ := st
  dsimp only at h
  have h0 := h.left
  have h1 := h.code
  have hf1 := h.free1
  unfold Pw.endC
  dsimp only
  by_cases hc : c = 0
  · subst hc
    cases s with
    | nil =>
      rw [if_neg (by simp)]
      go_enter Tryd.func47, Tryd.ntmps47
      go_wp2
      go_ret
      exact ⟨rfl, Only.refl _ _⟩
    | cons a s =>
      rw [if_pos (by simp)]
      have hrd := (h.setCode 3).code
      go_enter Tryd.func47, Tryd.ntmps47
      go_wp2
      go_ret
      exact ⟨rfl, (Only.refl g _).setCell rfl _⟩
  · rw [if_neg (fun h => hc h.1)]
    have hc1 : (c == 0) = false := by rw [beq_eq_false_iff_ne]; exact hc
    go_enter Tryd.func47, Tryd.ntmps47
    go_wp2
    go_ret
    exact ⟨rfl, Only.refl _ _⟩
end Go.Proofs.YtddjkiejekfekaaDoor
namespace Go.Proofs.YtddjkiejekfekaaDoor
open Go.RowKit

theorem Tm.textR_le (most : Int) (s : List UInt8) : (Code.textR most s).2.1.length ≤ s.length := Pw.textR_le most s
theorem Tm.rdT_le (most : Int) (st : Pw.St) : (Tm.rdT most st).2.1.length ≤ st.1.length := by
  unfold Tm.rdT
  split
  · exact Nat.le_refl _
  · exact Tm.textR_le most st.1
theorem Tm.textR_len (most : Nat) (s : List UInt8) : (Code.textR most s).1.length ≤ most := by
  unfold Code.textR
  split
  · simp
  · split
    · simp
    · rename_i h1 h2
      have h1' : (Code.countL most s).2.2 = 0 := by simpa using h1
      have h3 : (Code.countL most s).1 ≤ most := by
        unfold Code.countL at h1' ⊢
        split
        · simp
        · rename_i h4
          rw [if_neg h4] at h1'
          split
          · simp
          · rename_i h5
            dsimp only; omega
      dsimp only
      rw [List.length_take]; omega
theorem Tm.rdT_len (most : Nat) (st : Pw.St) : (Tm.rdT most st).1.length ≤ most := by
  unfold Tm.rdT
  split
  · simp
  · exact Tm.textR_len most st.1
theorem xtext_st (most : Int) (st : Pw.St) (g : Nat) (w : World) (h : Rd w g st.1 st.2) (hl : st.1.length ≤ 100000000) :
    Calls Tryd.prog 33 #[.pointer (some ⟨g, 0, none⟩), .int .i64 most] w fun e w' => e = .returned (.string ⟨(Tm.rdT most st).1.toArray⟩) ∧ Rd w' g (Tm.rdT most st).2.1 (Tm.rdT most st).2.2 ∧ Only g w w' := by
  unfold Tm.rdT
  by_cases hc : st.2 = 0
  · rw [if_neg (by simpa using hc)]
    rw [hc] at h
    exact rtext_any most st.1 g w h hl
  · rw [if_pos hc]
    obtain ⟨s, c⟩ := st
    dsimp only at h hc hl ⊢
    have h0 := h.left
    have h1 := h.code
    have hf0 := h.free0
    have hc1 : (c != 0) = true := by rw [bne_iff_ne]; exact hc
    go_enter Tryd.func33, Tryd.ntmps33
    go_wp2_with fail
    refine (count_stuck most s c g w h hc).mono ?_
    rintro e w1 ⟨rfl, rfl⟩
    go_wp2_with fail
    refine (bytes_stuck 0 s c g w1 h hc).mono ?_
    rintro e w2 ⟨rfl, rfl⟩
    go_wp2
    go_ret
    exact ⟨rfl, h.setLeft s, (Only.refl g _).setCell rfl _⟩
set_option maxRecDepth 8000 in
set_option maxHeartbeats 1000000 in
theorem rrtextm_st (most : Int) (st : Pw.St) (g : Nat) (w : World) (h : RRd w g st.1 st.2) (hl : st.1.length ≤ 100000000) :
    Calls Tryd.prog 37 #[.pointer (some ⟨g, 0, none⟩), .int .i64 most] w fun e w' => e = .returned (.string ⟨(Tm.rdT most st).1.toArray⟩) ∧ RRd w' g (Tm.rdT most st).2.1 (Tm.rdT most st).2.2 ∧ Only g w w' := by
  obtain ⟨s, c⟩ := st
  dsimp only at h hl
  have h0 := h.left
  have h1 := h.code
  unfold Tm.rdT
  dsimp only
  by_cases hc : c = 0
  · subst hc
    rw [if_neg (by simp)]
    have HT := Lib.hid (rtextm_any most s w hl)
    have HP := Lib.hid (Code.textR_Pm most s)
    obtain ⟨⟨x, r, e⟩, hp⟩ : ∃ p, Code.textPm most s = p := ⟨_, rfl⟩
    rw [hp] at HT HP
    dsimp only at HT HP
    rw [HP.out]
    have HR := Lib.hid h
    clear hp hl
    by_cases he : e = 0
    · subst he
      rw [if_neg (by simp)]
      dsimp only
      go_enter Tryd.func37, Tryd.ntmps37
      go_wp2_with fail
      refine HT.out.mono ?_
      rintro e w1 ⟨rfl, hb⟩
      have h2 := HR.out.below hb
      have h3 := h2.setCode 0
      have HO : Hid (Only g w w1) := Lib.hid (Only.of hb)
      have g1 := h2.code
      have g0 := h3.left
      have f1 := h2.free1
      have f0 := h3.free0
      have HR3 := Lib.hid h3
      clear h2 h3 hb h0 h1 h
      go_wp2
      go_ret
      exact ⟨rfl, HR3.out.setLeft r, (HO.out.setCell rfl _).setCell rfl _⟩
    · rw [if_pos he]
      dsimp only
      have he' : (e != 0) = true := by rw [bne_iff_ne]; exact he
      go_enter Tryd.func37, Tryd.ntmps37
      go_wp2_with fail
      refine HT.out.mono ?_
      rintro e w1 ⟨rfl, hb⟩
      have h2 := HR.out.below hb
      have HO : Hid (Only g w w1) := Lib.hid (Only.of hb)
      have g1 := h2.code
      have f1 := h2.free1
      have HR2 := Lib.hid h2
      clear h2 hb h0 h1 h
      go_wp2
      go_ret
      exact ⟨rfl, HR2.out.setCode _, HO.out.setCell rfl _⟩
  · rw [if_pos hc]
    have hc' : (c != 0) = true := by rw [bne_iff_ne]; exact hc
    go_enter Tryd.func37, Tryd.ntmps37
    go_wp2
    go_ret
    exact ⟨rfl, h, Only.refl _ _⟩
end Go.Proofs.YtddjkiejekfekaaDoor
namespace Go.Proofs.YtddjkiejekfekaaDoor
open Go.RowKit

theorem results_c1t {P : Program} {fn : Func} {p u : Tmp} {ty : TypeId} (h : fn.results = #[.cell p ty, .tmp u]) (tmps : Array Value) (w : World) (g : Nat) (t : TypeId) (cs : Array Value) (fr : Nat × Nat) (d : TypeDesc)
    (hp : tmps.getD p undef = .pointer (some ⟨g, 0, none⟩)) (hg : w.heap[g]? = some (.cells cs t fr))
    (hu : P.underlying ty = some d) (hd : (match d with | .struct _ | .array _ _ => true | _ => false) = true) (hi : (P.info? ty).map (·.size) = some cs.size) :
    (results fn tmps).run P w = .ok (.tuple #[.agg cs, tmps.getD u undef]) w := by
  have hp' : tmps[p]?.getD undef = .pointer (some ⟨g, 0, none⟩) := by simpa using hp
  simp [results, h, hp', asAddr, run_loadVar_row w g t ty cs fr d hg hu hd hi]
end Go.Proofs.YtddjkiejekfekaaDoor
namespace Go.Proofs.YtddjkiejekfekaaDoor
open Go.RowKit
open Go.Proofs.YtddjkiejekfekaaDoor.Pw (M)
open Go.Proofs.YtddjkiejekfekaaDoor.Txn (X)

def Txn.decX (s : List UInt8) : X := (Txn.dec s).getD Txn.zero
def Txn.decC0 (s : List UInt8) : Int := if (Txn.dec s).isSome then 0 else 150
/-- What Decode answers. -/
def DecTx (s : List UInt8) (w : World) (e : Ending) (w' : World) : Prop := ∃ z, e = .returned (.tuple #[xval (Txn.decX s) z, .int .i64 (Txn.decC0 s)]) ∧ OwnM w' w.heap.size z (Txn.decX s).mem ∧ Below w.heap.size w w'
theorem Txn.decX_none {s : List UInt8} (h : Txn.dec s = none) : Txn.decX s = Txn.zero ∧ Txn.decC0 s = 150 := by unfold Txn.decX Txn.decC0; rw [h]; exact ⟨rfl, rfl⟩
theorem Txn.decX_some {s : List UInt8} {x : X} (h : Txn.dec s = some x) : Txn.decX s = x ∧ Txn.decC0 s = 0 := by unfold Txn.decX Txn.decC0; rw [h]; exact ⟨rfl, rfl⟩
theorem decTx_bad {s : List UInt8} {w w' : World} (h : Txn.dec s = none) (hb : Below w.heap.size w w') : DecTx s w (.returned (.tuple #[xval Txn.zero (.slice none 0 0), .int .i64 150])) w' :=
  ⟨.slice none 0 0, by rw [(Txn.decX_none h).1, (Txn.decX_none h).2], by rw [(Txn.decX_none h).1]; exact OwnM.nil _ _, hb⟩
theorem decTx_good {s : List UInt8} {x : X} {z : Value} {w w' : World} (h : Txn.dec s = some x) (ho : OwnM w' w.heap.size z x.mem) (hb : Below w.heap.size w w') : DecTx s w (.returned (.tuple #[xval x z, .int .i64 0])) w' :=
  ⟨z, by rw [(Txn.decX_some h).1, (Txn.decX_some h).2], by rw [(Txn.decX_some h).1]; exact ho, hb⟩
/-- The world behind a store of a whole transaction. -/
def putTx (w : World) (q : Nat) (x : X) (z : Value) : World := (((((((w.setCell ⟨q, 0, none⟩ (.int .i64 x.kind)).setCell ⟨q, 1, none⟩ (.string ⟨x.frm.toArray⟩)).setCell ⟨q, 2, none⟩ (.int .i64 x.seq)).setCell ⟨q, 3, none⟩ (.string ⟨x.dst.toArray⟩)).setCell ⟨q, 4, none⟩ (.int .i64 x.amt)).setCell ⟨q, 5, none⟩ (.string ⟨x.key.toArray⟩)).setCell ⟨q, 6, none⟩ (.string ⟨x.val.toArray⟩)).setCell ⟨q, 7, none⟩ z
theorem TxAt.put {w : World} {q : Nat} {y : X} {u : Value} (x : X) (z : Value) (h : TxAt w q y u) : TxAt (putTx w q x z) q x z := by
  have h0 := heap_setCell_same _ _ 0 _ _ (.int .i64 x.kind) h
  have h1 := heap_setCell_same _ _ 1 _ _ (.string ⟨x.frm.toArray⟩) h0
  have h2 := heap_setCell_same _ _ 2 _ _ (.int .i64 x.seq) h1
  have h3 := heap_setCell_same _ _ 3 _ _ (.string ⟨x.dst.toArray⟩) h2
  have h4 := heap_setCell_same _ _ 4 _ _ (.int .i64 x.amt) h3
  have h5 := heap_setCell_same _ _ 5 _ _ (.string ⟨x.key.toArray⟩) h4
  have h6 := heap_setCell_same _ _ 6 _ _ (.string ⟨x.val.toArray⟩) h5
  have h7 := heap_setCell_same _ _ 7 _ _ z h6
  simpa [TxAt, putTx] using h7
theorem putTx_only (w : World) (q : Nat) (x : X) (z : Value) : Only q w (putTx w q x z) :=
  ((((((((Only.refl q w).setCell (p := ⟨q, 0, none⟩) rfl _).setCell (p := ⟨q, 1, none⟩) rfl _).setCell (p := ⟨q, 2, none⟩) rfl _).setCell (p := ⟨q, 3, none⟩) rfl _).setCell (p := ⟨q, 4, none⟩) rfl _).setCell (p := ⟨q, 5, none⟩) rfl _).setCell (p := ⟨q, 6, none⟩) rfl _).setCell (p := ⟨q, 7, none⟩) rfl _
/-- The answer's block p, the reader in block g (of type T), the transaction in block q. -/
structure TxD (T : TypeId) (w0 w : World) (p g q : Nat) (x : X) (z : Value) (st : Pw.St) : Prop where
  rp : TxAt w p Txn.zero (.slice none 0 0)
  rg : w.heap[g]? = some (.cells #[.string ⟨st.1.toArray⟩, .int .i64 st.2] T (0, 0))
  rx : TxAt w q x z
  bel : Below w0.heap.size w0 w
  hp : w0.heap.size ≤ p
  pg : p ≠ g
  pq : p ≠ q
  gq : g ≠ q
  lg : w0.heap.size ≤ g
  lq : w0.heap.size ≤ q
theorem TxD.only {T : TypeId} {w0 w w' : World} {p g q : Nat} {x : X} {z : Value} {st : Pw.St} (h : TxD T w0 w p g q x z st) {k : Nat} (ho : Only k w w') (hk : w0.heap.size ≤ k) : Below w0.heap.size w0 w' := h.bel.trans (ho.below hk h.bel.size)
theorem TxD.read {T : TypeId} {w0 w w' : World} {p g q : Nat} {x : X} {z : Value} {st : Pw.St} (h : TxD T w0 w p g q x z st) (st' : Pw.St) (hr : w'.heap[g]? = some (.cells #[.string ⟨st'.1.toArray⟩, .int .i64 st'.2] T (0, 0))) (ho : Only g w w') : TxD T w0 w' p g q x z st' :=
  ⟨(ho.block p (lt_of_heap h.rp) h.pg).trans h.rp, hr, (ho.block q (lt_of_heap h.rx) (fun e => h.gq e.symm)).trans h.rx, h.only ho h.lg, h.hp, h.pg, h.pq, h.gq, h.lg, h.lq⟩
theorem TxD.below {T : TypeId} {w0 w w' : World} {p g q : Nat} {x : X} {z : Value} {st : Pw.St} (h : TxD T w0 w p g q x z st) (hb : Below w.heap.size w w') : TxD T w0 w' p g q x z st :=
  ⟨h.rp.below hb, (hb.block g (lt_of_heap h.rg)).trans h.rg, h.rx.below hb, bchain h.bel hb, h.hp, h.pg, h.pq, h.gq, h.lg, h.lq⟩
theorem TxD.set {T : TypeId} {w0 w : World} {p g q : Nat} {x : X} {z : Value} {st : Pw.St} (h : TxD T w0 w p g q x z st) {i : Nat} {v : Value} {x' : X} {z' : Value} (hx : TxAt (w.setCell ⟨q, i, none⟩ v) q x' z') : TxD T w0 (w.setCell ⟨q, i, none⟩ v) p g q x' z' st :=
  have ho : Only q w (w.setCell ⟨q, i, none⟩ v) := (Only.refl q w).setCell (p := ⟨q, i, none⟩) rfl _
  ⟨(ho.block p (lt_of_heap h.rp) h.pq).trans h.rp, (ho.block g (lt_of_heap h.rg) h.gq).trans h.rg, hx, h.only ho h.lq, h.hp, h.pg, h.pq, h.gq, h.lg, h.lq⟩
theorem TxD.end_ {T : TypeId} {w0 w : World} {p g q : Nat} {x : X} {z : Value} {st : Pw.St} (h : TxD T w0 w p g q x z st) (y : X) (u : Value) : Below w0.heap.size w0 (putTx w p y u) := h.only (putTx_only w p y u) h.hp
theorem TxD.start (T : TypeId) (w : World) (r : List UInt8) (k : Int) : TxD T w (((w.alloc (.cells #[.int .i64 0, .string ⟨#[]⟩, .int .i64 0, .string ⟨#[]⟩, .int .i64 0, .string ⟨#[]⟩, .string ⟨#[]⟩, .slice none 0 0] 24)).alloc (.cells #[.string ⟨r.toArray⟩, .int .i64 0] T)).alloc (.cells #[.int .i64 k, .string ⟨#[]⟩, .int .i64 0, .string ⟨#[]⟩, .int .i64 0, .string ⟨#[]⟩, .string ⟨#[]⟩, .slice none 0 0] 24)) w.heap.size (w.heap.size + 1) (w.heap.size + 1 + 1) ⟨k, [], 0, [], 0, [], [], []⟩ (.slice none 0 0) (r, 0) := by
  obtain ⟨w1, hw1⟩ : ∃ w1, w.alloc (.cells #[.int .i64 0, .string ⟨#[]⟩, .int .i64 0, .string ⟨#[]⟩, .int .i64 0, .string ⟨#[]⟩, .string ⟨#[]⟩, .slice none 0 0] 24) = w1 := ⟨_, rfl⟩
  have h1 : TxAt w1 w.heap.size Txn.zero (.slice none 0 0) := by rw [← hw1]; exact heap_alloc_new w _
  have s1 : w1.heap.size = w.heap.size + 1 := by rw [← hw1]; simp
  have b1 : Below w.heap.size w w1 := by rw [← hw1]; exact (Below.refl _ w).alloc (Nat.le_refl _) _
  rw [hw1]
  obtain ⟨w2, hw2⟩ : ∃ w2, w1.alloc (.cells #[.string ⟨r.toArray⟩, .int .i64 0] T) = w2 := ⟨_, rfl⟩
  have h2 : w2.heap[w1.heap.size]? = some (.cells #[.string ⟨r.toArray⟩, .int .i64 0] T (0, 0)) := by rw [← hw2]; exact heap_alloc_new w1 _
  have s2 : w2.heap.size = w1.heap.size + 1 := by rw [← hw2]; simp
  have b2 : Below w1.heap.size w1 w2 := by rw [← hw2]; exact (Below.refl _ w1).alloc (Nat.le_refl _) _
  rw [hw2]
  obtain ⟨w3, hw3⟩ : ∃ w3, w2.alloc (.cells #[.int .i64 k, .string ⟨#[]⟩, .int .i64 0, .string ⟨#[]⟩, .int .i64 0, .string ⟨#[]⟩, .string ⟨#[]⟩, .slice none 0 0] 24) = w3 := ⟨_, rfl⟩
  have h3 : TxAt w3 w2.heap.size ⟨k, [], 0, [], 0, [], [], []⟩ (.slice none 0 0) := by rw [← hw3]; exact heap_alloc_new w2 _
  have b3 : Below w2.heap.size w2 w3 := by rw [← hw3]; exact (Below.refl _ w2).alloc (Nat.le_refl _) _
  rw [hw3]
  rw [s1] at h2 s2
  rw [s2] at h3
  have h4 : w3.heap[w.heap.size + 1]? = some (.cells #[.string ⟨r.toArray⟩, .int .i64 0] T (0, 0)) := (b3.block _ (by omega)).trans h2
  exact ⟨(h1.below b2).below b3, h4, h3, bchain (bchain b1 b2) b3, Nat.le_refl _, by omega, by omega, by omega, by omega, by omega⟩
/-- A row of members of its own stays, whatever is written to a block of another type. -/
theorem OwnM.only {w w' : World} {B k : Nat} {s : Value} {L : List M} (h : OwnM w B s L) (ho : Only k w w') (hk : ∀ cs fr, w.heap[k]? ≠ some (.cells cs 44 fr)) : OwnM w' B s L := row_keep h ho.out (fun j hj e => by
  subst e
  rcases h.2 with ⟨h0, _⟩ | ⟨g', cap', cur, hv, hB, hh, _⟩
  · rw [h0] at hj; cases hj
  · rw [hv] at hj
    obtain rfl : g' = j := by simpa [Value.ownBlock] using hj
    exact hk _ _ hh)
theorem OwnM.from_ {w : World} {B B' : Nat} {s : Value} {L : List M} (h : OwnM w B s L) (hb : B' ≤ B) : OwnM w B' s L := by
  refine ⟨h.1, ?_⟩
  rcases h.2 with hn | ⟨k, cap, cur, hv, hB, hk, hr⟩
  · exact Or.inl hn
  · exact Or.inr ⟨k, cap, cur, hv, Nat.le_trans hb hB, hk, hr⟩
theorem typ_not {w : World} {k : Nat} {cs : Array Value} {T U : TypeId} {fr : Nat × Nat} (h : w.heap[k]? = some (.cells cs T fr)) (hn : T ≠ U) : ∀ ds f, w.heap[k]? ≠ some (.cells ds U f) := fun ds f e => by
  rw [h] at e
  injection e with e
  injection e with _ e2 _
  exact hn e2
theorem Txn.fine_else {x : X} (h1 : x.kind ≠ 1) (h2 : x.kind ≠ 2) (h3 : x.kind ≠ 3) (h : Pw.okL x.mem = false) : Txn.fine x = false := by
  unfold Txn.fine Txn.kindB
  rw [if_neg h1, if_neg h2, if_neg h3]
  split
  · rw [h]; simp
  · simp
set_option maxRecDepth 100000 in
theorem sizeTx : (Tryd.prog.info? 24).map (·.size) = some 8 := by kernel_rfl
/-- The results behind a store of a whole transaction into the answer's cell. -/
theorem ret_tx {fn : Func} (h : fn.results = #[.cell 2 24, .tmp 3]) (tmps : Array Value) (w : World) (p : Nat) (x : X) (z : Value) (hp : tmps.getD 2 undef = .pointer (some ⟨p, 0, none⟩)) (hx : TxAt w p x z) :
    (results fn tmps).run Tryd.prog w = .ok (.tuple #[xval x z, tmps.getD 3 undef]) w :=
  results_c1t h tmps w p _ _ (0, 0) _ hp hx Tryd.underlying24 rfl sizeTx
theorem ret_put {fn : Func} (h : fn.results = #[.cell 2 24, .tmp 3]) (tmps : Array Value) (w : World) (p : Nat) (x : X) (z : Value) {y : X} {u : Value} (hp : tmps.getD 2 undef = .pointer (some ⟨p, 0, none⟩)) (hx : TxAt w p y u) :
    (results fn tmps).run Tryd.prog (putTx w p x z) = .ok (.tuple #[xval x z, tmps.getD 3 undef]) (putTx w p x z) :=
  ret_tx h tmps _ p x z hp (hx.put x z)
end Go.Proofs.YtddjkiejekfekaaDoor
