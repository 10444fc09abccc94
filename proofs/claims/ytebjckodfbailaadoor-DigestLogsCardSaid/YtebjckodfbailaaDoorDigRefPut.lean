/- The document's Put. -/
import Derived.Test.YtebjckodfbailaaDoorDigRefLog
namespace Go.Proofs.YtebjckodfbailaaDoor
open Go.RowKit

/-- The list of what is noted, as the document's answer keeps it. -/
def AllIs (w : World) (v : Value) (L : List Dig.N) : Prop :=
  (L = [] ∧ v = .slice none 0 0) ∨ ∃ b o cap, v = .slice (some ⟨b, o, none⟩) L.length cap ∧ 0 < L.length ∧ b < w.heap.size ∧ ∀ i (h : i < L.length),
    w.cell? ⟨b, o + i * 3, none⟩ = some (.int .i64 L[i].tag) ∧ w.cell? ⟨b, o + i * 3 + 1, none⟩ = some (.string ⟨L[i].text.toArray⟩) ∧ w.cell? ⟨b, o + i * 3 + 2, none⟩ = some (.string ⟨L[i].dig.toArray⟩)
theorem AllIs.noteds {w : World} {v : Value} {L : List Dig.N} (h : AllIs w v L) : Noteds w v L := by
  rcases h with ⟨rfl, rfl⟩ | ⟨b, o, cap, rfl, _, hb, hc⟩
  · exact Noteds.nil w
  · exact ⟨_, _, rfl, fun _ => ⟨b, o, rfl, hb, hc⟩⟩
theorem AllIs.out {F : Nat → Prop} {w w' : World} {v : Value} {L : List Dig.N} (h : AllIs w v L) (ho : Out F w w') (hn : ∀ k, v.ownBlock = some k → ¬ F k) : AllIs w' v L := by
  rcases h with h | ⟨b, o, cap, rfl, h0, hb, hc⟩
  · exact Or.inl h
  · refine Or.inr ⟨b, o, cap, rfl, h0, Nat.lt_of_lt_of_le hb ho.size, fun i hi => ?_⟩
    obtain ⟨h1, h2, h3⟩ := hc i hi
    have hF : ¬ F b := hn b rfl
    exact ⟨ho.cell h1 hF, ho.cell h2 hF, ho.cell h3 hF⟩
theorem AllIs.below {w w' : World} {v : Value} {L : List Dig.N} (h : AllIs w v L) (hb : Below w.heap.size w w') : AllIs w' v L := h.out (F := fun _ => False) (Out.of hb) (fun _ _ => id)
theorem AllIs.lt {w : World} {v : Value} {L : List Dig.N} (h : AllIs w v L) (k : Nat) (hk : v.ownBlock = some k) : k < w.heap.size := by
  rcases h with ⟨_, rfl⟩ | ⟨b, o, cap, rfl, _, hb, _⟩
  · simp [Value.ownBlock] at hk
  · simp [Value.ownBlock] at hk; omega
theorem AllIs.own {w : World} {B : Nat} {v : Value} {L : List Dig.N} (h : w.ownsRow B 35 3 v L.length (rows L)) (h0 : 0 < L.length) : AllIs w v L := by
  obtain ⟨A, cap, rfl⟩ := own_form h
  obtain ⟨b, cap', hv, _, hlt, _⟩ := row_cells h 0 h0
  obtain ⟨rfl, rfl⟩ : A = some ⟨b, 0, none⟩ ∧ cap = cap' := by simpa using hv
  refine Or.inr ⟨b, 0, _, rfl, h0, hlt, fun i hi => ?_⟩
  obtain ⟨b', cap', hv', _, _, h1, h2, h3⟩ := row_cells h i hi
  obtain ⟨rfl, rfl⟩ : b = b' ∧ cap = cap' := by simpa using hv'
  rw [Nat.zero_add]
  exact ⟨h1, h2, h3⟩
/-- What is appended of such a list, cell by cell. -/
theorem noteds_news {w : World} {b o : Nat} {L : List Dig.N} (hc : ∀ i (h : i < L.length),
    w.cell? ⟨b, o + i * 3, none⟩ = some (.int .i64 L[i].tag) ∧ w.cell? ⟨b, o + i * 3 + 1, none⟩ = some (.string ⟨L[i].text.toArray⟩) ∧ w.cell? ⟨b, o + i * 3 + 2, none⟩ = some (.string ⟨L[i].dig.toArray⟩)) :
    ∀ j u, (rows L)[j]? = some u → w.cell? ((⟨b, o, none⟩ : Addr).add j) = some u := by
  intro j u hu
  have hj : j < L.length * 3 := by
    have := (List.getElem?_eq_some_iff.1 hu).1
    rwa [rows_length] at this
  obtain ⟨q, r, hr, rfl⟩ : ∃ q r, r < 3 ∧ j = q * 3 + r := ⟨j / 3, j % 3, by omega, by omega⟩
  have hq : q < L.length := by omega
  obtain ⟨h1, h2, h3⟩ := hc q hq
  rw [rows_at L q r hq hr] at hu
  rw [Addr.add_mid, ← Nat.add_assoc]
  have hcs : r = 0 ∨ r = 1 ∨ r = 2 := by omega
  rcases hcs with rfl | rfl | rfl
  · simp [ncells] at hu; subst hu; exact h1
  · simp [ncells] at hu; subst hu; exact h2
  · simp [ncells] at hu; subst hu; exact h3
theorem rows_one (L : List Dig.N) : ∀ u ∈ rows L, u.oneCell' = true := by
  intro u hu
  obtain ⟨n, _, hn⟩ := List.mem_flatMap.1 hu
  simp [ncells] at hn
  rcases hn with rfl | rfl | rfl <;> rfl
theorem Dig.ne_step {L : List Dig.N} {n : Dig.N} {k : Nat} {hk : k < L.length} (h : ∀ (j : Nat) (_ : j < k) (hj' : j < L.length), L[j] ≠ n) (he : L[k] ≠ n) : ∀ (j : Nat) (_ : j < k + 1) (hj' : j < L.length), L[j] ≠ n := by
  intro j hj hj'
  by_cases e : j < k
  · exact h j e hj'
  · obtain rfl : j = k := by omega
    exact he
def PutPost (L : List Dig.N) (n : Dig.N) (v : Value) (w : World) (e : Ending) (w' : World) : Prop :=
  ∃ v', e = .returned (.tuple #[v', .int .i64 (Dig.putC L n)]) ∧ Below w.heap.size w w' ∧ AllIs w' v' (Dig.putL L n) ∧ (v' = v ∨ ∀ k, v'.ownBlock = some k → w.heap.size ≤ k)
theorem putPost_same {L : List Dig.N} {n : Dig.N} {v : Value} {w w' : World} {c : Int} (hc : Dig.putC L n = c) (ht : ¬ Dig.taken L n) (hv : AllIs w v L) (hb : Below w.heap.size w w') : PutPost L n v w (.returned (.tuple #[v, .int .i64 c])) w' := by
  refine ⟨v, by rw [hc], hb, ?_, Or.inl rfl⟩
  rw [Dig.putL, if_neg ht]
  exact hv.below hb

set_option maxRecDepth 8000 in
set_option maxHeartbeats 1000000 in
theorem rPut_any (L : List Dig.N) (n : Dig.N) (v : Value) (w : World) (hv : AllIs w v L) (hlen : L.length ≤ 1024) :
    Calls Tryd.prog 16 #[v, nval n] w (PutPost L n v w) := by
  have HV := Lib.hid hv
  have HN := Lib.hid hv.noteds
  have HSAME := Lib.hid (fun c w' hc ht hb => putPost_same (n := n) (w' := w') (c := c) hc ht hv hb)
  have hB1 : Below w.heap.size w (w.alloc (.cells #[.int .i64 n.tag, .string ⟨n.text.toArray⟩, .string ⟨n.dig.toArray⟩] 35)) := (Below.refl _ w).alloc (Nat.le_refl _) _
  have HB1 := Lib.hid hB1
  have hbx := heap_new_at w (.cells #[.int .i64 n.tag, .string ⟨n.text.toArray⟩, .string ⟨n.dig.toArray⟩] 35) _ rfl
  have HBX := Lib.hid hbx
  obtain ⟨A, cap, rfl⟩ := hv.noteds.form
  unfold nval
  clear hv hB1
  by_cases h1 : n.tag < 1
  · have hf : Dig.isTag n.tag = false := by simp [Dig.isTag]; omega
    have HC := Lib.hid (show Dig.putC L n = 1 by simp [Dig.putC, hf])
    have HT : Hid (¬ Dig.taken L n) := Lib.hid (fun h => absurd h.1 (by simp [hf]))
    have h1d : decide (n.tag < 1) = true := decide_eq_true h1
    clear hf
    go_enter Tryd.func16, Tryd.ntmps16
    go_wp2
    go_ret2
    exact HSAME.out _ _ HC.out HT.out HB1.out
  have h1d : decide (n.tag < 1) = false := decide_eq_false h1
  by_cases h2 : 255 < n.tag
  · have hf : Dig.isTag n.tag = false := by simp [Dig.isTag]; omega
    have HC := Lib.hid (show Dig.putC L n = 1 by simp [Dig.putC, hf])
    have HT : Hid (¬ Dig.taken L n) := Lib.hid (fun h => absurd h.1 (by simp [hf]))
    have h2d : decide (255 < n.tag) = true := decide_eq_true h2
    clear hf
    go_enter Tryd.func16, Tryd.ntmps16
    go_wp2
    go_ret2
    exact HSAME.out _ _ HC.out HT.out HB1.out
  have h2d : decide (255 < n.tag) = false := decide_eq_false h2
  have HTAG : Hid (Dig.isTag n.tag = true) := Lib.hid (by simp [Dig.isTag]; omega)
  by_cases h3 : n.dig.length = 32
  case neg =>
    have HC := Lib.hid (show Dig.putC L n = 3 by simp [Dig.putC, HTAG.out, h3])
    have HT : Hid (¬ Dig.taken L n) := Lib.hid (fun h => h3 h.2.1)
    have h3' : ¬ ((n.dig.length : Int) = 32) := by omega
    clear h3
    go_enter Tryd.func16, Tryd.ntmps16
    go_wp2
    go_ret2
    exact HSAME.out _ _ HC.out HT.out HB1.out
  have h3' : (n.dig.length : Int) = 32 := by omega
  have H3 := Lib.hid h3
  clear h3
  go_enter Tryd.func16, Tryd.ntmps16
  go_wp2
  go_loopw [6] (fun iv wr => ∃ k : Nat, k ≤ L.length ∧ iv = .int .i64 k ∧ (∀ (j : Nat) (hj : j < k) (hj' : j < L.length), L[j] ≠ n) ∧ Below (w.heap.size + 1) (w.alloc (.cells #[.int .i64 n.tag, .string ⟨n.text.toArray⟩, .string ⟨n.dig.toArray⟩] 35)) wr) (fun i _ => L.length - (intOf i).toNat)
  case atStart => exact ⟨0, Nat.zero_le _, rfl, fun j hj => absurd hj (Nat.not_lt_zero j), Below.refl _ _⟩
  case round =>
    obtain ⟨k, hk, rfl, hall, hb⟩ := hrel
    have HA := Lib.hid hall
    have HB := Lib.hid hb
    have HBW := Lib.hid (HB1.out.trans (hb.mono (Nat.le_succ _)))
    have hbr := (hb.block w.heap.size (Nat.lt_succ_self _)).trans HBX.out
    obtain ⟨c0, c1, c2, -, -, -⟩ := cells3 hbr
    have HBR := Lib.hid hbr
    clear hall hb hbx hbr
    by_cases hlt : k < L.length
    · have h4 : (k : Int) < (L.length : Int) := by omega
      have h0 : (0 : Int) ≤ (k : Int) := by omega
      obtain ⟨b, o, rfl, hbl⟩ := (HN.out.below HBW.out).addr (by omega)
      obtain ⟨m0, m1, m2⟩ := (HN.out.below HBW.out).at rfl k hlt
      obtain ⟨m, hm⟩ : ∃ m, L[k] = m := ⟨_, rfl⟩
      have HM := Lib.hid hm
      rw [hm] at m0 m1 m2
      clear hm
      by_cases ht : m.tag = n.tag
      · rw [ht] at m0
        by_cases hx : m.text = n.text
        · rw [hx] at m1
          by_cases hd : m.dig = n.dig
          · rw [hd] at m2
            have HU : Hid (m = n) := Lib.hid (Dig.N.ext' ht hx hd)
            have HIN : Hid (n ∈ L) := Lib.hid (by rw [← HU.out, ← HM.out]; exact List.getElem_mem hlt)
            clear ht hx hd
            go_wp2
            go_quiet (fail)
            go_wp2
            go_ret2
            exact HSAME.out _ _ (by simp [Dig.putC, HTAG.out, H3.out, HIN.out]) (fun h => h.2.2.1 HIN.out) (bDrewN HBW.out _)
          · have HU : Hid (m ≠ n) := Lib.hid (fun e => hd (by rw [e]))
            clear ht hx
            go_wp2
            go_quiet (fail)
            go_wp2
            refine ⟨⟨k + 1, by omega, by go_num, Dig.ne_step HA.out (by rw [HM.out]; exact HU.out), bDrewN HB.out _⟩, by simp [intOf]; omega⟩
        · have HU : Hid (m ≠ n) := Lib.hid (fun e => hx (by rw [e]))
          clear ht
          go_wp2
          go_quiet (fail)
          go_wp2
          refine ⟨⟨k + 1, by omega, by go_num, Dig.ne_step HA.out (by rw [HM.out]; exact HU.out), bDrewN HB.out _⟩, by simp [intOf]; omega⟩
      · have HU : Hid (m ≠ n) := Lib.hid (fun e => ht (by rw [e]))
        go_wp2
        go_quiet (fail)
        go_wp2
        refine ⟨⟨k + 1, by omega, by go_num, Dig.ne_step HA.out (by rw [HM.out]; exact HU.out), bDrewN HB.out _⟩, by simp [intOf]; omega⟩
    · obtain rfl : k = L.length := by omega
      have h4 : ¬ ((L.length : Int) < (L.length : Int)) := by omega
      have HNI : Hid (n ∉ L) := Lib.hid (fun h => by obtain ⟨j, hj, e⟩ := List.getElem_of_mem h; exact HA.out j hj hj e)
      by_cases h5 : (1024 : Int) ≤ (L.length : Int)
      · go_wp2
        go_ret2
        exact HSAME.out _ _ (by simp [Dig.putC, HTAG.out, H3.out, HNI.out]; omega) (fun h => by have := h.2.2.2; omega) HBW.out
      · obtain ⟨i0, hi, hz0, hz1, hz2⟩ := info_parts Tryd.infoNoted
        have HP0 : Hid (Dig.putC L n = 0) := Lib.hid (by simp [Dig.putC, HTAG.out, H3.out, HNI.out]; omega)
        have HPL : Hid (Dig.putL L n = L ++ [n]) := Lib.hid (by rw [Dig.putL, if_pos ⟨HTAG.out, H3.out, HNI.out, by omega⟩])
        have e3 : ncells n = rows [n] := by simp [rows]
        have HE3 := Lib.hid e3
        clear e3
        rcases HV.out with ⟨hL, hv⟩ | ⟨b, o, cap', hv, hp, hbl, hc⟩
        · subst hL
          obtain ⟨rfl, rfl⟩ : A = none ∧ cap = 0 := by simpa using hv
          have HPL' := Lib.hid HPL.out
          clear hv
          go_wp2_with (at_builtin; refine wpList_append_lies _ rfl _ _ _ rfl w.heap.size 35 i0 (.agg #[.int .i64 0, .string ⟨#[]⟩, .string ⟨#[]⟩]) 3 40 Tryd.underlying33 hi hz0 hz1 hz2 rfl (by decide) (.slice none 0 0) 0 [] (by rfl) (World.ownsRow_nil _ _ _ _) ⟨wr.heap.size, 0, none⟩ 1 1 (ncells n) (by rfl) rfl (World.news_of_block (heap_new_at _ _ _ rfl)) (by simp [ncells, Value.oneCell']) (by decide) (by unfold maxLen; omega) (by omega) (by have := HBW.out.size; simp; omega) (wr.heap.size + 1) (by simp) ?_; intro g' cap' w3 hown3 hgrow3 hat3 hlt3)
          go_ret2
          have ho : Out (fun _ => False) wr w3 := (Out.of ((Below.refl _ wr).alloc (Nat.le_refl _) _)).trans (Out.grown hgrow3 (fun k e => by simp [Value.ownBlock] at e))
          refine ⟨_, by rw [HP0.out]; rfl, HBW.out.trans ((ho.below (fun _ h => h.elim) (Nat.le_refl _)).mono HBW.out.size), ?_, Or.inr (fun k hk => ?_)⟩
          · rw [HPL'.out]
            refine AllIs.own (B := w.heap.size) ?_ (by simp)
            rw [List.nil_append] at hown3 ⊢
            rw [← HE3.out]
            exact hown3
          · simp [Value.ownBlock] at hk hat3
            have := HBW.out.size
            omega
        · obtain ⟨rfl, rfl⟩ : A = some ⟨b, o, none⟩ ∧ cap = cap' := by simpa using hv
          have hc' := noteds_news (w := wr) (b := b) (o := o) (L := L) (fun i hi => by
            obtain ⟨g1, g2, g3⟩ := hc i hi
            exact ⟨(HBW.out.cell hbl).trans g1, (HBW.out.cell hbl).trans g2, (HBW.out.cell hbl).trans g3⟩)
          have HC' := Lib.hid hc'
          clear hv hc hc'
          go_upto_region 14 with (at_builtin; refine wpList_append_lies _ rfl _ _ _ rfl w.heap.size 35 i0 (.agg #[.int .i64 0, .string ⟨#[]⟩, .string ⟨#[]⟩]) 3 40 Tryd.underlying33 hi hz0 hz1 hz2 rfl (by decide) (.slice none 0 0) 0 [] (by rfl) (World.ownsRow_nil _ _ _ _) ⟨b, o, none⟩ L.length cap (rows L) (by rfl) (rows_length L) HC'.out (rows_one L) hp (by unfold maxLen; omega) (by omega) HBW.out.size wr.heap.size rfl ?_; intro g' cap' w3 hown3 hgrow3 hat3 hlt3)
          have ho : Out (fun _ => False) wr w3 := Out.grown hgrow3 (fun k e => by simp [Value.ownBlock] at e)
          obtain ⟨d0, d1, d2, -, -, -⟩ := cells3 (ho.heap HBR.out id)
          have HB3 := Lib.hid (HBW.out.trans ((ho.below (fun _ h => h.elim) (Nat.le_refl _)).mono HBW.out.size))
          rw [List.nil_append] at hown3
          have hz : 0 + L.length = L.length := Nat.zero_add _
          rw [hz] at hown3
          have hg' : w.heap.size ≤ g' := by
            have := HBW.out.size
            simp [Value.ownBlock] at hat3
            omega
          clear hz ho hgrow3 hat3 c0 c1 c2
          go_wp2_with (at_builtin; refine wpList_append_lies _ rfl _ _ _ rfl w.heap.size 35 i0 (.agg #[.int .i64 0, .string ⟨#[]⟩, .string ⟨#[]⟩]) 3 40 Tryd.underlying33 hi hz0 hz1 hz2 rfl (by decide) (.slice (some ⟨g', 0, none⟩) L.length cap') L.length (rows L) (by rfl) (hown3.alloc _) ⟨w3.heap.size, 0, none⟩ 1 1 (ncells n) (by rfl) rfl (World.news_of_block (heap_new_at _ _ _ rfl)) (by simp [ncells, Value.oneCell']) (by decide) (by unfold maxLen; omega) (by omega) (by have := HB3.out.size; simp; omega) (w3.heap.size + 1) (by simp) ?_; intro g2 cap2 w4 hown4 hgrow4 hat4 hlt4)
          go_ret2
          have ho : Out (fun k => k = g') w3 w4 := (Out.of ((Below.refl _ w3).alloc (Nat.le_refl _) _)).trans (Out.grown hgrow4 (fun k e => by simp [Value.ownBlock] at e; exact e.symm))
          refine ⟨_, by rw [HP0.out]; rfl, HB3.out.trans (ho.below (B := w.heap.size) (fun _ h => h ▸ hg') HB3.out.size), ?_, Or.inr (fun k hk => ?_)⟩
          · rw [HPL.out]
            refine AllIs.own (B := w.heap.size) ?_ (by simp)
            rw [List.length_append, rows_append, ← HE3.out]
            exact hown4
          · simp [Value.ownBlock] at hk hat4
            have := HB3.out.size
            omega
end Go.Proofs.YtebjckodfbailaaDoor
