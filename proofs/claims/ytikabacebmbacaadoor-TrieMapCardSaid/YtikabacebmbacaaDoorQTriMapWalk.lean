/- The law TrieMap, walked. -/
import Derived.Test.YtikabacebmbacaaDoorPk11
import Derived.Deep.RegionHeld3
import Derived.StillTactics
namespace Go.Proofs.YtikabacebmbacaaDoor
open Go.RowKit
open Sto (T St)
open Tri (Tr)

/-- wpStill, shut: no tactic looks into it. -/
@[irreducible] def StillH (P : Program) (ops : Array Oper) (w : World) (Q : Act → Prop) (l : List Oper) (a : Act) : Prop := wpStill P ops w Q l a
theorem stillH_step {P : Program} {ops : Array Oper} {w : World} {Q : Act → Prop} {a : Act} {o : Oper} {rest : List Oper}
    (h : ∀ K : Act → Prop, (∀ a, StillH P ops w Q rest a → K a) → if Region.wanted o (yielded ops a.tmps) then o.still P a w K else K (a.put o.dst undef)) : StillH P ops w Q (o :: rest) a := by
  unfold StillH at *
  exact wpStill_step h
theorem stillH_nil {P : Program} {ops : Array Oper} {w : World} {Q : Act → Prop} {a : Act} (h : Q a) : StillH P ops w Q [] a := by
  unfold StillH
  exact h
theorem stillH_in {P : Program} {ops : Array Oper} {w : World} {Q : Act → Prop} {a : Act} {l : List Oper} (h : StillH P ops w Q l a) : wpStill P ops w Q l a := by
  unfold StillH at h
  exact h
/-- A list of items that a trie may have. -/
def GoodS (S : St) : Prop := Sto.Rising S ∧ ∀ p ∈ S, Tri.keyed p.1 = true ∧ 1 ≤ p.2.length
theorem GoodS.look {S : St} (h : GoodS S) {k : T} (hk : Tri.keyed k = false) : Sto.look S k = none := by
  cases e : Sto.look S k with
  | none => rfl
  | some y =>
    have := (h.2 _ ((Sto.look_mem h.1 k y).1 e)).1
    simp [hk] at this
theorem putC_ok {S : St} {k v : T} (h : Tri.putC S k v = 0) : Tri.keyed k = true ∧ 1 ≤ v.length := by
  unfold Tri.putC at h
  by_cases hk : Tri.keyed k = true
  · rw [if_pos hk] at h
    refine ⟨hk, ?_⟩
    by_cases hv : 1 ≤ v.length
    · exact hv
    · rw [if_neg (fun e => hv e.1)] at h; cases h
  · rw [if_neg hk] at h; cases h
theorem act_good {S : St} (h : GoodS S) (a : ActT) : GoodS (actS S a) := by
  unfold actS
  split
  · split
    · refine ⟨Tri.del_rising h.1 _, fun p hp => ?_⟩
      have e := (Sto.look_mem (Tri.del_rising h.1 _) p.1 p.2).2 hp
      rw [Tri.look_del h.1] at e
      split at e
      · cases e
      · exact h.2 _ ((Sto.look_mem h.1 p.1 p.2).1 e)
    · exact h
  · split
    · rename_i hc
      obtain ⟨c1, c2⟩ := putC_ok hc
      refine ⟨Tri.put_rising h.1 _ _, fun p hp => ?_⟩
      have e := (Sto.look_mem (Tri.put_rising h.1 _ _) p.1 p.2).2 hp
      rw [Tri.look_put _ _ _ _ h.1] at e
      split at e
      · rename_i hx
        have e2 : a.val = p.2 := Option.some.inj e
        exact ⟨by rw [hx]; exact c1, by rw [← e2]; exact c2⟩
      · exact h.2 _ ((Sto.look_mem h.1 p.1 p.2).1 e)
    · exact h
theorem made_good (L : List ActT) : GoodS (madeS L) := by
  have : ∀ (L : List ActT) (S : St), GoodS S → GoodS (L.foldl actS S) := by
    intro L
    induction L with
    | nil => intro S h; exact h
    | cons a L ih => intro S h; exact ih _ (act_good h a)
  exact this L [] ⟨List.Pairwise.nil, fun p hp => by cases hp⟩
theorem act_del {S : St} (h : GoodS S) {kd : Int} {k v : T} (hk : 1 < kd) (x : T) : Sto.look (actS S ⟨kd, k, v⟩) x = if x = k then none else Sto.look S x := by
  unfold actS
  rw [if_pos hk]
  dsimp only
  by_cases hc : (Tri.getC S k).2 = 0
  · rw [if_pos hc]; exact Tri.look_del h.1 k x
  · rw [if_neg hc]
    by_cases hx : x = k
    · rw [if_pos hx, hx]
      cases hkk : Tri.keyed k with
      | false => exact h.look hkk
      | true =>
        cases e : Sto.look S k with
        | none => rfl
        | some y => exact absurd (by rw [Tri.getC_some hkk e]) hc
    · rw [if_neg hx]
theorem act_put {S : St} (h : GoodS S) {kd : Int} {k v : T} (hk : ¬ 1 < kd) (hc : Tri.putC S k v = 0) (x : T) : Sto.look (actS S ⟨kd, k, v⟩) x = if x = k then some v else Sto.look S x := by
  unfold actS
  rw [if_neg hk, if_pos hc]
  exact Tri.look_put S k v x h.1
theorem act_no {S : St} {kd : Int} {k v : T} (hk : ¬ 1 < kd) (hc : Tri.putC S k v ≠ 0) : actS S ⟨kd, k, v⟩ = S := by
  unfold actS
  rw [if_neg hk, if_neg hc]
theorem putC_bad {S : St} {k v : T} (h : ¬ (1 ≤ k.length ∧ k.length ≤ 8 ∧ 1 ≤ v.length ∧ v.length ≤ 32)) : Tri.putC S k v ≠ 0 := by
  intro e
  unfold Tri.putC at e
  by_cases hk : Tri.keyed k = true
  · rw [if_pos hk] at e
    simp only [Tri.keyed, Bool.and_eq_true, decide_eq_true_eq] at hk
    rw [if_neg (fun q => h ⟨hk.1, hk.2, q.1, q.2.1⟩)] at e
    cases e
  · rw [if_neg hk] at e; cases e
theorem putC_good {S : St} {k v : T} (hS : S.length < 1024) (h1 : 1 ≤ k.length) (h2 : k.length ≤ 8) (h3 : 1 ≤ v.length) (h4 : v.length ≤ 32) : Tri.putC S k v = 0 := by
  rw [putC_fit hS]
  unfold fitC
  rw [if_pos (by simp [Tri.keyed, h1, h2]), if_pos ⟨h3, h4⟩]
theorem get_look {S : St} (h : GoodS S) (k : T) : (Tri.getC S k).1 = (Sto.look S k).getD [] ∧ (((Tri.getC S k).2 = 0 ∧ (Tri.getC S k).1 ≠ []) ∨ ((Tri.getC S k).2 ≠ 0 ∧ (Tri.getC S k).1 = [])) := by
  cases hk : Tri.keyed k with
  | false => rw [Tri.getC_no hk, h.look hk]; exact ⟨rfl, Or.inr ⟨by simp, rfl⟩⟩
  | true =>
    cases e : Sto.look S k with
    | none => rw [Tri.getC_none hk e]; exact ⟨rfl, Or.inr ⟨by simp, rfl⟩⟩
    | some y =>
      rw [Tri.getC_some hk e]
      refine ⟨rfl, Or.inl ⟨rfl, fun hy => ?_⟩⟩
      have := (h.2 _ ((Sto.look_mem h.1 k y).1 e)).2
      dsimp only at hy this
      rw [hy] at this
      simp at this
set_option maxRecDepth 100000 in
set_option maxHeartbeats 8000000 in
theorem trieMap_walk (v : Value) (L : List ActT) (w : World) (hv : TActs w v L) (hT : Tab w) :
    Calls Tryd.prog 4 #[v] w fun e w' => e = .returned (.bool true) ∧ Below w.heap.size w w' := by
  have HV := Lib.hid hv
  have HT := Lib.hid hT
  have HWK := Lib.hid (fun w' (hb : Below w.heap.size w w') => tworks_any w' (hT.below hb))
  have HLO := Lib.hid (fun w' (hb : Below w.heap.size w w') => long_any L 30 v w' (hv.below hb) (by omega))
  have HMD := Lib.hid (fun (hl : L.length ≤ 30) w' (hb : Below w.heap.size w w') => made_any L v w' (hv.below hb) hl (hT.below hb))
  have HNO := Lib.hid (@long_no L 30)
  obtain ⟨A, cap, rfl⟩ := hv.form
  clear hv hT
  go_enter Tryd.func4, Tryd.ntmps4
  go_wp2_with fail
  refine (HWK.out _ (Below.refl _ _)).mono ?_
  rintro e w1 ⟨rfl, hb1⟩
  have HB1 := Lib.hid hb1
  clear hb1
  go_wp2_with fail
  refine (HLO.out _ HB1.out).mono ?_
  rintro e w2 ⟨rfl, hb2⟩
  have HB2 := Lib.hid (bchain HB1.out hb2)
  clear hb2
  obtain ⟨lb, hlb⟩ : ∃ lb, longB L 30 = lb := ⟨_, rfl⟩
  rw [hlb]
  cases lb with
  | true =>
    clear hlb
    go_wp2
    go_ret
    exact ⟨rfl, HB2.out⟩
  | false =>
  have HLL := Lib.hid (HNO.out hlb)
  clear hlb HNO HLO
  obtain ⟨m, hm⟩ : ∃ m, w2.heap.size = m := ⟨_, rfl⟩
  have HM := Lib.hid hm
  have HWA := Lib.hid (WantAt.made w2 m hm.symm)
  have HB3 := Lib.hid (HB2.out.alloc HB2.out.size (.map #[] 0))
  have hmm := @run_makeMap Tryd.prog
  go_upto_region 6 with fail
  clear hmm
  obtain ⟨w3, hw3⟩ : ∃ w3, w2.alloc (.map #[] 0) = w3 := ⟨_, rfl⟩
  rw [hw3] at HWA HB3 ⊢
  clear hw3 hm
  go_wp2
  go_loopw [22] (fun iv wr => ∃ k : Nat, k ≤ L.length ∧ iv = .int .i64 k ∧ WantAt wr m (madeS (L.take k)) ∧ Below w.heap.size w wr) (fun i _ => L.length - (intOf i).toNat)
  case atStart => exact ⟨0, Nat.zero_le _, rfl, HWA.out, HB3.out⟩
  case round =>
    obtain ⟨k, hk, rfl, hwa, hb⟩ := hrel
    have HB := Lib.hid hb
    have HWR := Lib.hid hwa
    clear hwa hb
    by_cases hlt : k < L.length
    · have h1 : (k : Int) < (L.length : Int) := by omega
      have h0 : (0 : Int) ≤ (k : Int) := by omega
      have h30 : (k : Int) < 30 := by have := HLL.out.1; omega
      have HMS := Lib.hid (made_step hlt)
      obtain ⟨b, o, rfl, hbl, c0, c1, c2⟩ := HV.out.at HB.out k hlt
      obtain ⟨S, hS⟩ : ∃ S, madeS (L.take k) = S := ⟨_, rfl⟩
      rw [hS] at HWR HMS
      have HKX := Lib.hid (HLL.out.2 L[k] (List.getElem_mem hlt))
      have HSN : Hid (S.length ≤ k) := Lib.hid (by have := made_len (L.take k); rw [hS, List.length_take] at this; omega)
      have HRS := Lib.hid (made_good (L.take k))
      rw [hS] at HRS
      obtain ⟨⟨kd, x, y⟩, ha⟩ : ∃ a, L[k] = a := ⟨_, rfl⟩
      rw [ha] at c0 c1 c2 HMS HKX
      dsimp only at c0 c1 c2 HKX
      clear ha hS
      go_upto_region 9 with fail
      have hBa : Below wr.heap.size wr (wr.alloc (.cells #[.int .i64 kd, .string ⟨x.toArray⟩, .string ⟨y.toArray⟩] 32)) := (Below.refl _ wr).alloc (Nat.le_refl _) _
      have hra := heap_alloc_new wr (.cells #[.int .i64 kd, .string ⟨x.toArray⟩, .string ⟨y.toArray⟩] 32)
      obtain ⟨wa, hwa⟩ : ∃ wa, wr.alloc (.cells #[.int .i64 kd, .string ⟨x.toArray⟩, .string ⟨y.toArray⟩] 32) = wa := ⟨_, rfl⟩
      rw [hwa] at hBa hra ⊢
      obtain ⟨q, hq⟩ : ∃ q, wr.heap.size = q := ⟨_, rfl⟩
      rw [hq] at hra ⊢
      have HWN := Lib.hid (HWR.out.below hBa)
      have HBA := Lib.hid (bchain HB.out hBa)
      have d0 : wa.cell? ⟨q, 0, none⟩ = some (.int .i64 kd) := by rw [cell_of_row _ _ 0 _ _ _ hra]; rfl
      have d1 : wa.cell? ⟨q, 1, none⟩ = some (.string ⟨x.toArray⟩) := by rw [cell_of_row _ _ 1 _ _ _ hra]; rfl
      have d2 : wa.cell? ⟨q, 2, none⟩ = some (.string ⟨y.toArray⟩) := by rw [cell_of_row _ _ 2 _ _ _ hra]; rfl
      have HMW : Hid (w.heap.size ≤ m) := Lib.hid (by rw [← HM.out]; exact HB2.out.size)
      clear hwa hq hra hBa c0 c1 c2 hbl
      by_cases hkd : 1 < kd
      · have k1 : kd > 1 := hkd
        have k2 : decide ((1 : Int) < kd) = true := decide_eq_true hkd
        obtain ⟨w6, hrd, hw6, ho6⟩ := HWN.out.drop (k := x) (R := actS S ⟨kd, x, y⟩) (by have := HKX.out.1; omega) (act_del HRS.out hkd)
        have HRD := Lib.hid hrd
        have HW6 := Lib.hid hw6
        have HB6 : Hid (Below w.heap.size w w6) := Lib.hid (HBA.out.trans (ho6.below (fun i hi => by rw [hi]; exact HMW.out) HBA.out.size))
        clear hrd hw6 ho6 hkd
        by_cases x1 : 1 ≤ x.length
        · have x1' : (x.length : Int) ≥ 1 := by omega
          by_cases x2 : x.length ≤ 8
          · have x2' : (x.length : Int) ≤ 8 := by omega
            go_wp2_with (at_delete; refine wpList_delete_run rfl _ _ _ _ rfl (.map (some m)) (.string ⟨x.toArray⟩) (by rfl) (by rfl) HRD.out ?_)
            go_roundw
            case rel => exact ⟨k + 1, by omega, by go_num, by rw [HMS.out]; exact HW6.out, HB6.out⟩
            case measure => simp [intOf]; omega
          · have x2' : ¬ (x.length : Int) ≤ 8 := by omega
            go_wp2_with (at_delete; refine wpList_delete_run rfl _ _ _ _ rfl (.map (some m)) (.string ⟨x.toArray⟩) (by rfl) (by rfl) HRD.out ?_)
            go_roundw
            case rel => exact ⟨k + 1, by omega, by go_num, by rw [HMS.out]; exact HW6.out, HB6.out⟩
            case measure => simp [intOf]; omega
        · have x1' : ¬ (x.length : Int) ≥ 1 := by omega
          go_wp2_with (at_delete; refine wpList_delete_run rfl _ _ _ _ rfl (.map (some m)) (.string ⟨x.toArray⟩) (by rfl) (by rfl) HRD.out ?_)
          go_roundw
          case rel => exact ⟨k + 1, by omega, by go_num, by rw [HMS.out]; exact HW6.out, HB6.out⟩
          case measure => simp [intOf]; omega
      · have k1 : ¬ (kd > 1) := hkd
        have k2 : decide ((1 : Int) < kd) = false := decide_eq_false hkd
        have HSL : Hid (S.length < 1024) := Lib.hid (by have := HSN.out; omega)
        by_cases x1 : 1 ≤ x.length
        · have x1' : (x.length : Int) ≥ 1 := by omega
          by_cases x2 : x.length ≤ 8
          · have x2' : (x.length : Int) ≤ 8 := by omega
            by_cases y1 : 1 ≤ y.length
            · have y1' : (y.length : Int) ≥ 1 := by omega
              by_cases y2 : y.length ≤ 32
              · have y2' : (y.length : Int) ≤ 32 := by omega
                obtain ⟨vv, w5, w6, r1, r2, hw6, ho6⟩ := HWN.out.put (k := x) (y := y) (R := actS S ⟨kd, x, y⟩) (by omega) (act_put HRS.out hkd (putC_good HSL.out x1 x2 y1 y2))
                have HW6 := Lib.hid hw6
                have HB6 : Hid (Below w.heap.size w w6) := Lib.hid (HBA.out.trans (ho6.below (fun i hi => by rw [hi]; exact HMW.out) HBA.out.size))
                clear hw6 ho6 hkd
                go_wp2
                go_roundw
                case rel => exact ⟨k + 1, by omega, by go_num, by rw [HMS.out]; exact HW6.out, HB6.out⟩
                case measure => simp [intOf]; omega
              · have y2' : ¬ (y.length : Int) ≤ 32 := by omega
                have HAN := Lib.hid (act_no (S := S) (k := x) (v := y) hkd (putC_bad (by omega)))
                clear hkd
                go_wp2
                go_roundw
                case rel => exact ⟨k + 1, by omega, by go_num, by rw [HMS.out, HAN.out]; exact HWN.out, HBA.out⟩
                case measure => simp [intOf]; omega
            · have y1' : ¬ (y.length : Int) ≥ 1 := by omega
              have HAN := Lib.hid (act_no (S := S) (k := x) (v := y) hkd (putC_bad (by omega)))
              clear hkd
              go_wp2
              go_roundw
              case rel => exact ⟨k + 1, by omega, by go_num, by rw [HMS.out, HAN.out]; exact HWN.out, HBA.out⟩
              case measure => simp [intOf]; omega
          · have x2' : ¬ (x.length : Int) ≤ 8 := by omega
            have HAN := Lib.hid (act_no (S := S) (k := x) (v := y) hkd (putC_bad (by omega)))
            clear hkd
            go_wp2
            go_roundw
            case rel => exact ⟨k + 1, by omega, by go_num, by rw [HMS.out, HAN.out]; exact HWN.out, HBA.out⟩
            case measure => simp [intOf]; omega
        · have x1' : ¬ (x.length : Int) ≥ 1 := by omega
          have HAN := Lib.hid (act_no (S := S) (k := x) (v := y) hkd (putC_bad (by omega)))
          clear hkd
          go_wp2
          go_roundw
          case rel => exact ⟨k + 1, by omega, by go_num, by rw [HMS.out, HAN.out]; exact HWN.out, HBA.out⟩
          case measure => simp [intOf]; omega
    · have h1 : ¬ ((k : Int) < (L.length : Int)) := by omega
      have hke : L.take k = L := List.take_of_length_le (by omega)
      rw [hke] at HWR
      have HGS := Lib.hid (made_good L)
      have HMX := HMD.out HLL.out.1
      clear hke hlt
      go_wp2_with fail
      refine (HMX _ HB.out).mono ?_
      rintro e w4 ⟨g, rfl, t4, hb4⟩
      clear HMX
      obtain ⟨S, hS⟩ : ∃ S, madeS L = S := ⟨_, rfl⟩
      have HSN : Hid (S.length ≤ 30) := Lib.hid (by have h1 := made_len L; have h2 := HLL.out.1; rw [hS] at h1; omega)
      rw [hS] at t4 HWR HGS
      have HB4 := Lib.hid (bchain HB.out hb4)
      have HTR := Lib.hid (fun w' (hb : Below w4.heap.size w4 w') => t4.below hb)
      have HW4 := Lib.hid (HWR.out.below hb4)
      clear t4 hb4 hS
      unfold ptr
      go_wp2_with fail
      refine (sitems_any _ (HTR.out _ (Below.refl _ _))).mono ?_
      rintro e w5 ⟨z, rfl, o5, hb5⟩
      obtain ⟨AI, capI, rfl, -, -⟩ := RowsAt.form o5.at_
      have HB5 := Lib.hid (bchain HB4.out hb5)
      have HK5 := Lib.hid hb5
      have HW5 := Lib.hid (fun w' (hb : Below w5.heap.size w5 w') => (HW4.out.below hb5).below hb)
      have HI5 := Lib.hid (fun w' (hb : Below w5.heap.size w5 w') => (o5.below hb).at_)
      clear o5 hb5
      go_wp2
      go_loopw [70] (fun iv wr => ∃ k : Nat, k ≤ S.length ∧ iv = .int .i64 k ∧ Below w5.heap.size w5 wr) (fun i _ => S.length - (intOf i).toNat)
      case atStart => exact ⟨0, Nat.zero_le _, rfl, Below.refl _ _⟩
      case round =>
        clear h1
        obtain ⟨k, hk, rfl, hb⟩ := hrel
        have HBR := Lib.hid hb
        clear hb
        by_cases hlt : k < S.length
        · have h1 : (k : Int) < (S.length : Int) := by omega
          have h0 : (0 : Int) ≤ (k : Int) := by omega
          have h30 : (k : Int) < 30 := by have := HSN.out; omega
          obtain ⟨b, o, rfl, c0, c1⟩ := ItAt.at (HI5.out _ HBR.out) k hlt
          have HPC : Hid (∀ (j : Nat) (hj : k = j + 1) w', Below w5.heap.size w5 w' → w'.cell? ⟨b, o + j * 2, none⟩ = some (.string ⟨(S[j]'(by omega)).1.toArray⟩)) := Lib.hid (fun j hj w' hb' => by
            obtain ⟨b2, o2, e2, q0, -⟩ := ItAt.at (HI5.out _ hb') j (by omega)
            cases e2
            exact q0)
          have HRI : Hid (∀ (j : Nat) (hj : k = j + 1), (S[j]'(by omega)).1 < S[k].1) := Lib.hid (fun j hj => List.pairwise_iff_getElem.1 HGS.out.1 j k (by omega) hlt (by omega))
          have HLK := Lib.hid (Sto.look_at HGS.out.1 k hlt)
          have HKY := Lib.hid (HGS.out.2 S[k] (List.getElem_mem hlt)).1
          obtain ⟨⟨x, y⟩, ha⟩ : ∃ a, S[k] = a := ⟨_, rfl⟩
          rw [ha] at c0 c1 HLK HRI HKY
          dsimp only at c0 c1 HLK HRI HKY
          have HXL : Hid (x.length ≤ 8) := Lib.hid (by have := HKY.out; simp [Tri.keyed] at this; omega)
          clear ha
          go_upto_region 20 with fail
          have hBa : Below wr.heap.size wr (wr.alloc (.cells #[.string ⟨x.toArray⟩, .string ⟨y.toArray⟩] 45)) := (Below.refl _ wr).alloc (Nat.le_refl _) _
          have hra := heap_alloc_new wr (.cells #[.string ⟨x.toArray⟩, .string ⟨y.toArray⟩] 45)
          obtain ⟨wa, hwa⟩ : ∃ wa, wr.alloc (.cells #[.string ⟨x.toArray⟩, .string ⟨y.toArray⟩] 45) = wa := ⟨_, rfl⟩
          rw [hwa] at hBa hra ⊢
          obtain ⟨q, hq⟩ : ∃ q, wr.heap.size = q := ⟨_, rfl⟩
          rw [hq] at hra ⊢
          have hBR := bchain HBR.out hBa.drew
          have HBA := Lib.hid (bchain HBR.out hBa)
          have HWD := Lib.hid (HW5.out _ hBR)
          have d0 : wa.drew.cell? ⟨q, 0, none⟩ = some (.string ⟨x.toArray⟩) := by rw [cell_of_row _ _ 0 _ _ _ (show wa.drew.heap[q]? = _ from hra)]; rfl
          have d1 : wa.drew.cell? ⟨q, 1, none⟩ = some (.string ⟨y.toArray⟩) := by rw [cell_of_row _ _ 1 _ _ _ (show wa.drew.heap[q]? = _ from hra)]; rfl
          obtain ⟨vv, r1, r2⟩ := HWD.out.look (k := x) (by have := HXL.out; omega)
          rw [HLK.out, Option.getD_some] at r2
          have e1 : (y != y) = false := by simp
          have HPD := Lib.hid (fun j hj => HPC.out j hj _ hBR)
          clear hwa hq hra hBa hBR c0 c1
          rcases k with _ | j
          · clear HPD HRI HPC
            refine wp_region_still_lit (by kernel_rfl) (by kernel_rfl) ?_
            refine stillH_in ?_
            refine stillH_step (fun K hK => ?_)
            first
            | (rw [if_pos (by rfl)]; go_simp)
            | (rw [if_neg (Bool.eq_false_iff.1 (by rfl))]; simp only [Act.put, List.setIfInBounds_toArray, List.set_cons_zero, List.set_cons_succ])
            refine hK _ ?_
            clear hK K
            refine stillH_step (fun K hK => ?_)
            first
            | (rw [if_pos (by rfl)]; go_simp)
            | (rw [if_neg (Bool.eq_false_iff.1 (by rfl))]; simp only [Act.put, List.setIfInBounds_toArray, List.set_cons_zero, List.set_cons_succ])
            refine hK _ ?_
            clear hK K
            refine stillH_step (fun K hK => ?_)
            first
            | (rw [if_pos (by rfl)]; go_simp)
            | (rw [if_neg (Bool.eq_false_iff.1 (by rfl))]; simp only [Act.put, List.setIfInBounds_toArray, List.set_cons_zero, List.set_cons_succ])
            refine hK _ ?_
            clear hK K
            refine stillH_step (fun K hK => ?_)
            first
            | (rw [if_pos (by rfl)]; go_simp)
            | (rw [if_neg (Bool.eq_false_iff.1 (by rfl))]; simp only [Act.put, List.setIfInBounds_toArray, List.set_cons_zero, List.set_cons_succ])
            refine hK _ ?_
            clear hK K
            refine stillH_step (fun K hK => ?_)
            first
            | (rw [if_pos (by rfl)]; go_simp)
            | (rw [if_neg (Bool.eq_false_iff.1 (by rfl))]; simp only [Act.put, List.setIfInBounds_toArray, List.set_cons_zero, List.set_cons_succ])
            refine hK _ ?_
            clear hK K
            refine stillH_step (fun K hK => ?_)
            first
            | (rw [if_pos (by rfl)]; go_simp)
            | (rw [if_neg (Bool.eq_false_iff.1 (by rfl))]; simp only [Act.put, List.setIfInBounds_toArray, List.set_cons_zero, List.set_cons_succ])
            refine hK _ ?_
            clear hK K
            refine stillH_step (fun K hK => ?_)
            first
            | (rw [if_pos (by rfl)]; go_simp)
            | (rw [if_neg (Bool.eq_false_iff.1 (by rfl))]; simp only [Act.put, List.setIfInBounds_toArray, List.set_cons_zero, List.set_cons_succ])
            refine hK _ ?_
            clear hK K
            refine stillH_step (fun K hK => ?_)
            first
            | (rw [if_pos (by rfl)]; go_simp)
            | (rw [if_neg (Bool.eq_false_iff.1 (by rfl))]; simp only [Act.put, List.setIfInBounds_toArray, List.set_cons_zero, List.set_cons_succ])
            refine hK _ ?_
            clear hK K
            refine stillH_step (fun K hK => ?_)
            first
            | (rw [if_pos (by rfl)]; go_simp)
            | (rw [if_neg (Bool.eq_false_iff.1 (by rfl))]; simp only [Act.put, List.setIfInBounds_toArray, List.set_cons_zero, List.set_cons_succ])
            refine hK _ ?_
            clear hK K
            refine stillH_step (fun K hK => ?_)
            first
            | (rw [if_pos (by rfl)]; go_simp)
            | (rw [if_neg (Bool.eq_false_iff.1 (by rfl))]; simp only [Act.put, List.setIfInBounds_toArray, List.set_cons_zero, List.set_cons_succ])
            refine hK _ ?_
            clear hK K
            refine stillH_step (fun K hK => ?_)
            first
            | (rw [if_pos (by rfl)]; go_simp)
            | (rw [if_neg (Bool.eq_false_iff.1 (by rfl))]; simp only [Act.put, List.setIfInBounds_toArray, List.set_cons_zero, List.set_cons_succ])
            refine hK _ ?_
            clear hK K
            refine stillH_step (fun K hK => ?_)
            first
            | (rw [if_pos (by rfl)]; go_simp)
            | (rw [if_neg (Bool.eq_false_iff.1 (by rfl))]; simp only [Act.put, List.setIfInBounds_toArray, List.set_cons_zero, List.set_cons_succ])
            refine hK _ ?_
            clear hK K
            refine stillH_step (fun K hK => ?_)
            first
            | (rw [if_pos (by rfl)]; go_simp)
            | (rw [if_neg (Bool.eq_false_iff.1 (by rfl))]; simp only [Act.put, List.setIfInBounds_toArray, List.set_cons_zero, List.set_cons_succ])
            refine hK _ ?_
            clear hK K
            refine stillH_step (fun K hK => ?_)
            first
            | (rw [if_pos (by rfl)]; go_simp)
            | (rw [if_neg (Bool.eq_false_iff.1 (by rfl))]; simp only [Act.put, List.setIfInBounds_toArray, List.set_cons_zero, List.set_cons_succ])
            refine hK _ ?_
            clear hK K
            refine stillH_step (fun K hK => ?_)
            first
            | (rw [if_pos (by rfl)]; go_simp)
            | (rw [if_neg (Bool.eq_false_iff.1 (by rfl))]; simp only [Act.put, List.setIfInBounds_toArray, List.set_cons_zero, List.set_cons_succ])
            refine hK _ ?_
            clear hK K
            refine stillH_step (fun K hK => ?_)
            first
            | (rw [if_pos (by rfl)]; go_simp)
            | (rw [if_neg (Bool.eq_false_iff.1 (by rfl))]; simp only [Act.put, List.setIfInBounds_toArray, List.set_cons_zero, List.set_cons_succ])
            refine hK _ ?_
            clear hK K
            refine stillH_step (fun K hK => ?_)
            first
            | (rw [if_pos (by rfl)]; go_simp)
            | (rw [if_neg (Bool.eq_false_iff.1 (by rfl))]; simp only [Act.put, List.setIfInBounds_toArray, List.set_cons_zero, List.set_cons_succ])
            refine hK _ ?_
            clear hK K
            refine stillH_step (fun K hK => ?_)
            first
            | (rw [if_pos (by rfl)]; go_simp)
            | (rw [if_neg (Bool.eq_false_iff.1 (by rfl))]; simp only [Act.put, List.setIfInBounds_toArray, List.set_cons_zero, List.set_cons_succ])
            refine hK _ ?_
            clear hK K
            refine stillH_step (fun K hK => ?_)
            first
            | (rw [if_pos (by rfl)]; go_simp)
            | (rw [if_neg (Bool.eq_false_iff.1 (by rfl))]; simp only [Act.put, List.setIfInBounds_toArray, List.set_cons_zero, List.set_cons_succ])
            refine hK _ ?_
            clear hK K
            refine stillH_step (fun K hK => ?_)
            first
            | (rw [if_pos (by rfl)]; go_simp)
            | (rw [if_neg (Bool.eq_false_iff.1 (by rfl))]; simp only [Act.put, List.setIfInBounds_toArray, List.set_cons_zero, List.set_cons_succ])
            refine hK _ ?_
            clear hK K
            refine stillH_step (fun K hK => ?_)
            first
            | (rw [if_pos (by rfl)]; go_simp)
            | (rw [if_neg (Bool.eq_false_iff.1 (by rfl))]; simp only [Act.put, List.setIfInBounds_toArray, List.set_cons_zero, List.set_cons_succ])
            refine hK _ ?_
            clear hK K
            refine stillH_step (fun K hK => ?_)
            first
            | (rw [if_pos (by rfl)]; go_simp)
            | (rw [if_neg (Bool.eq_false_iff.1 (by rfl))]; simp only [Act.put, List.setIfInBounds_toArray, List.set_cons_zero, List.set_cons_succ])
            refine hK _ ?_
            clear hK K
            refine stillH_step (fun K hK => ?_)
            first
            | (rw [if_pos (by rfl)]; go_simp)
            | (rw [if_neg (Bool.eq_false_iff.1 (by rfl))]; simp only [Act.put, List.setIfInBounds_toArray, List.set_cons_zero, List.set_cons_succ])
            refine hK _ ?_
            clear hK K
            refine stillH_nil ?_
            go_wp2
            go_roundw
            case rel => exact ⟨1, by omega, by go_num, HBA.out.drew⟩
            case measure => simp [intOf]; omega
          · have hpd := HPD.out j rfl
            have hri := HRI.out j rfl
            obtain ⟨p, hp⟩ : ∃ p, (S[j]'(by omega)).1 = p := ⟨_, rfl⟩
            rw [hp] at hpd hri
            have HJ : Hid (j + 1 < S.length) := Lib.hid hlt
            have e3 : Op.bytesLess p x = true := by rw [less_lt]; simpa using hri
            have e4 : Op.bytesLess x p = false := by rw [less_lt]; exact decide_eq_false (fun h => absurd rfl (Sto.lt_ne (List.lt_trans h hri)))
            have e5 : (x == p) = false := by rw [beq_eq_false_iff_ne]; exact (Sto.lt_ne hri).symm
            have z0 : IntKind.i64.wrap (j : Int) = (j : Int) := IntWalk.i64_in _ (by omega)
            have z1 : (j : Int) + 1 > 0 := by omega
            have z2 : (0 : Int) ≤ (j : Int) := by omega
            have z3 : (j : Int) < (S.length : Int) := by omega
            have z4 : (j : Int) + 1 - 1 = (j : Int) := by omega
            have z5 : IntKind.i64.wrap ((j : Int) + 1 + 1) = (j : Int) + 1 + 1 := IntWalk.i64_in _ (by omega)
            clear HPD HRI HPC hp hri h1 h0 h30 hlt hk
            refine wp_region_still_lit (by kernel_rfl) (by kernel_rfl) ?_
            refine stillH_in ?_
            refine stillH_step (fun K hK => ?_)
            first
            | (rw [if_pos (by rfl)]; go_simp)
            | (rw [if_neg (Bool.eq_false_iff.1 (by rfl))]; simp only [Act.put, List.setIfInBounds_toArray, List.set_cons_zero, List.set_cons_succ])
            refine hK _ ?_
            clear hK K
            refine stillH_step (fun K hK => ?_)
            first
            | (rw [if_pos (by rfl)]; go_simp)
            | (rw [if_neg (Bool.eq_false_iff.1 (by rfl))]; simp only [Act.put, List.setIfInBounds_toArray, List.set_cons_zero, List.set_cons_succ])
            refine hK _ ?_
            clear hK K
            refine stillH_step (fun K hK => ?_)
            first
            | (rw [if_pos (by rfl)]; go_simp)
            | (rw [if_neg (Bool.eq_false_iff.1 (by rfl))]; simp only [Act.put, List.setIfInBounds_toArray, List.set_cons_zero, List.set_cons_succ])
            refine hK _ ?_
            clear hK K
            refine stillH_step (fun K hK => ?_)
            first
            | (rw [if_pos (by rfl)]; go_simp)
            | (rw [if_neg (Bool.eq_false_iff.1 (by rfl))]; simp only [Act.put, List.setIfInBounds_toArray, List.set_cons_zero, List.set_cons_succ])
            refine hK _ ?_
            clear hK K
            refine stillH_step (fun K hK => ?_)
            first
            | (rw [if_pos (by rfl)]; go_simp)
            | (rw [if_neg (Bool.eq_false_iff.1 (by rfl))]; simp only [Act.put, List.setIfInBounds_toArray, List.set_cons_zero, List.set_cons_succ])
            refine hK _ ?_
            clear hK K
            refine stillH_step (fun K hK => ?_)
            first
            | (rw [if_pos (by rfl)]; go_simp)
            | (rw [if_neg (Bool.eq_false_iff.1 (by rfl))]; simp only [Act.put, List.setIfInBounds_toArray, List.set_cons_zero, List.set_cons_succ])
            refine hK _ ?_
            clear hK K
            refine stillH_step (fun K hK => ?_)
            first
            | (rw [if_pos (by rfl)]; go_simp)
            | (rw [if_neg (Bool.eq_false_iff.1 (by rfl))]; simp only [Act.put, List.setIfInBounds_toArray, List.set_cons_zero, List.set_cons_succ])
            refine hK _ ?_
            clear hK K
            refine stillH_step (fun K hK => ?_)
            first
            | (rw [if_pos (by rfl)]; go_simp)
            | (rw [if_neg (Bool.eq_false_iff.1 (by rfl))]; simp only [Act.put, List.setIfInBounds_toArray, List.set_cons_zero, List.set_cons_succ])
            refine hK _ ?_
            clear hK K
            refine stillH_step (fun K hK => ?_)
            first
            | (rw [if_pos (by rfl)]; go_simp)
            | (rw [if_neg (Bool.eq_false_iff.1 (by rfl))]; simp only [Act.put, List.setIfInBounds_toArray, List.set_cons_zero, List.set_cons_succ])
            refine hK _ ?_
            clear hK K
            refine stillH_step (fun K hK => ?_)
            first
            | (rw [if_pos (by rfl)]; go_simp)
            | (rw [if_neg (Bool.eq_false_iff.1 (by rfl))]; simp only [Act.put, List.setIfInBounds_toArray, List.set_cons_zero, List.set_cons_succ])
            refine hK _ ?_
            clear hK K
            refine stillH_step (fun K hK => ?_)
            first
            | (rw [if_pos (by rfl)]; go_simp)
            | (rw [if_neg (Bool.eq_false_iff.1 (by rfl))]; simp only [Act.put, List.setIfInBounds_toArray, List.set_cons_zero, List.set_cons_succ])
            refine hK _ ?_
            clear hK K
            refine stillH_step (fun K hK => ?_)
            first
            | (rw [if_pos (by rfl)]; go_simp)
            | (rw [if_neg (Bool.eq_false_iff.1 (by rfl))]; simp only [Act.put, List.setIfInBounds_toArray, List.set_cons_zero, List.set_cons_succ])
            refine hK _ ?_
            clear hK K
            refine stillH_step (fun K hK => ?_)
            first
            | (rw [if_pos (by rfl)]; go_simp)
            | (rw [if_neg (Bool.eq_false_iff.1 (by rfl))]; simp only [Act.put, List.setIfInBounds_toArray, List.set_cons_zero, List.set_cons_succ])
            refine hK _ ?_
            clear hK K
            refine stillH_step (fun K hK => ?_)
            first
            | (rw [if_pos (by rfl)]; go_simp)
            | (rw [if_neg (Bool.eq_false_iff.1 (by rfl))]; simp only [Act.put, List.setIfInBounds_toArray, List.set_cons_zero, List.set_cons_succ])
            refine hK _ ?_
            clear hK K
            refine stillH_step (fun K hK => ?_)
            first
            | (rw [if_pos (by rfl)]; go_simp)
            | (rw [if_neg (Bool.eq_false_iff.1 (by rfl))]; simp only [Act.put, List.setIfInBounds_toArray, List.set_cons_zero, List.set_cons_succ])
            refine hK _ ?_
            clear hK K
            refine stillH_step (fun K hK => ?_)
            first
            | (rw [if_pos (by rfl)]; go_simp)
            | (rw [if_neg (Bool.eq_false_iff.1 (by rfl))]; simp only [Act.put, List.setIfInBounds_toArray, List.set_cons_zero, List.set_cons_succ])
            refine hK _ ?_
            clear hK K
            refine stillH_step (fun K hK => ?_)
            first
            | (rw [if_pos (by rfl)]; go_simp)
            | (rw [if_neg (Bool.eq_false_iff.1 (by rfl))]; simp only [Act.put, List.setIfInBounds_toArray, List.set_cons_zero, List.set_cons_succ])
            refine hK _ ?_
            clear hK K
            refine stillH_step (fun K hK => ?_)
            first
            | (rw [if_pos (by rfl)]; go_simp)
            | (rw [if_neg (Bool.eq_false_iff.1 (by rfl))]; simp only [Act.put, List.setIfInBounds_toArray, List.set_cons_zero, List.set_cons_succ])
            refine hK _ ?_
            clear hK K
            refine stillH_step (fun K hK => ?_)
            first
            | (rw [if_pos (by rfl)]; go_simp)
            | (rw [if_neg (Bool.eq_false_iff.1 (by rfl))]; simp only [Act.put, List.setIfInBounds_toArray, List.set_cons_zero, List.set_cons_succ])
            refine hK _ ?_
            clear hK K
            refine stillH_step (fun K hK => ?_)
            first
            | (rw [if_pos (by rfl)]; go_simp)
            | (rw [if_neg (Bool.eq_false_iff.1 (by rfl))]; simp only [Act.put, List.setIfInBounds_toArray, List.set_cons_zero, List.set_cons_succ])
            refine hK _ ?_
            clear hK K
            refine stillH_step (fun K hK => ?_)
            first
            | (rw [if_pos (by rfl)]; go_simp)
            | (rw [if_neg (Bool.eq_false_iff.1 (by rfl))]; simp only [Act.put, List.setIfInBounds_toArray, List.set_cons_zero, List.set_cons_succ])
            refine hK _ ?_
            clear hK K
            refine stillH_step (fun K hK => ?_)
            first
            | (rw [if_pos (by rfl)]; go_simp)
            | (rw [if_neg (Bool.eq_false_iff.1 (by rfl))]; simp only [Act.put, List.setIfInBounds_toArray, List.set_cons_zero, List.set_cons_succ])
            refine hK _ ?_
            clear hK K
            refine stillH_step (fun K hK => ?_)
            first
            | (rw [if_pos (by rfl)]; go_simp)
            | (rw [if_neg (Bool.eq_false_iff.1 (by rfl))]; simp only [Act.put, List.setIfInBounds_toArray, List.set_cons_zero, List.set_cons_succ])
            refine hK _ ?_
            clear hK K
            refine stillH_nil ?_
            go_wp2
            go_roundw
            case rel => exact ⟨j + 1 + 1, by have := HJ.out; omega, by go_num, HBA.out.drew⟩
            case measure => have := HJ.out; simp only [intOf]; omega
        · have h1 : ¬ ((k : Int) < (S.length : Int)) := by omega
          clear hlt hk
          go_wp2
          go_loopw [101] (fun iv wr => ∃ k : Nat, k ≤ L.length ∧ iv = .int .i64 k ∧ Below w5.heap.size w5 wr) (fun i _ => L.length - (intOf i).toNat)
          case atStart => exact ⟨0, Nat.zero_le _, rfl, HBR.out⟩
          case round =>
            clear h1 HBR
            obtain ⟨k, hk, rfl, hb⟩ := hrel
            have HBR := Lib.hid hb
            clear hb
            by_cases hlt : k < L.length
            · have h1 : (k : Int) < (L.length : Int) := by omega
              have h0 : (0 : Int) ≤ (k : Int) := by omega
              have h30 : (k : Int) < 30 := by have := HLL.out.1; omega
              obtain ⟨b, o, rfl, hbl, c0, c1, c2⟩ := HV.out.at (bchain HB5.out HBR.out) k hlt
              have HKX := Lib.hid (HLL.out.2 L[k] (List.getElem_mem hlt))
              obtain ⟨⟨kd, x, y⟩, ha⟩ : ∃ a, L[k] = a := ⟨_, rfl⟩
              rw [ha] at c0 c1 c2 HKX
              dsimp only at c0 c1 c2 HKX
              have HLT := Lib.hid hlt
              clear ha hbl hlt
              go_upto_region 26 with fail
              have hBa : Below wr.heap.size wr (wr.alloc (.cells #[.int .i64 kd, .string ⟨x.toArray⟩, .string ⟨y.toArray⟩] 32)) := (Below.refl _ wr).alloc (Nat.le_refl _) _
              have hra := heap_alloc_new wr (.cells #[.int .i64 kd, .string ⟨x.toArray⟩, .string ⟨y.toArray⟩] 32)
              obtain ⟨wa, hwa⟩ : ∃ wa, wr.alloc (.cells #[.int .i64 kd, .string ⟨x.toArray⟩, .string ⟨y.toArray⟩] 32) = wa := ⟨_, rfl⟩
              rw [hwa] at hBa hra ⊢
              obtain ⟨q, hq⟩ : ∃ q, wr.heap.size = q := ⟨_, rfl⟩
              rw [hq] at hra ⊢
              have HBA := Lib.hid (bchain HBR.out hBa)
              have d1 : wa.cell? ⟨q, 1, none⟩ = some (.string ⟨x.toArray⟩) := by rw [cell_of_row _ _ 1 _ _ _ hra]; rfl
              have HD1 : Hid (∀ w', Below wa.heap.size wa w' → w'.cell? ⟨q, 1, none⟩ = some (.string ⟨x.toArray⟩)) := Lib.hid (fun w' hb => by rw [cell_of_row _ _ 1 _ _ _ ((hb.block _ (lt_of_heap hra)).trans hra)]; rfl)
              clear hwa hq hra hBa c0 c1 c2
              go_wp2_with fail
              refine (tget_any x _ (HTR.out _ (bchain HK5.out HBA.out))).mono ?_
              rintro e w6 ⟨rfl, hb6⟩
              have HB6 := Lib.hid (bchain HBA.out hb6)
              obtain ⟨vv, r1, r2⟩ := (HW5.out _ HB6.out).look (k := x) (by have := HKX.out.1; omega)
              obtain ⟨gl, gc⟩ := get_look HGS.out x
              have d2 := HD1.out _ hb6
              rw [← gl] at r2
              obtain ⟨y1, c1, hyc⟩ : ∃ y1 c1, Tri.getC S x = (y1, c1) := ⟨_, _, rfl⟩
              rw [hyc] at r2 gc ⊢
              dsimp only at r2 gc ⊢
              have e1 : (y1 != y1) = false := by simp
              clear d1 hb6 gl hyc
              rcases gc with ⟨rfl, hy1⟩ | ⟨hc1, rfl⟩
              · have e2 : (y1 == []) = false := beq_eq_false_iff_ne.2 hy1
                have e3 : y1.isEmpty = false := by cases y1 <;> simp_all
                go_wp2
                go_roundw
                case rel => exact ⟨k + 1, by have := HLT.out; omega, by go_num, HB6.out⟩
                case measure => have := HLT.out; simp [intOf]; omega
              · have e2 : ((c1 : Int) == 0) = false := by rw [beq_eq_false_iff_ne]; omega
                have e3 : ¬ ((c1 : Int) = 0) := by omega
                go_wp2
                go_roundw
                case rel => exact ⟨k + 1, by have := HLT.out; omega, by go_num, HB6.out⟩
                case measure => have := HLT.out; simp [intOf]; omega
            · have h1 : ¬ ((k : Int) < (L.length : Int)) := by omega
              have hlen := (HW5.out _ HBR.out).len HGS.out.1
              have HLE := Lib.hid hlen
              clear hlen
              have hsl : ((S.length : Int) == (S.length : Int)) = true := by simp
              go_wp2_with (refine wpList_len_run rfl _ _ rfl (.map (some m)) _ (by rfl) HLE.out ?_)
              refine (tlen_any _ (HTR.out _ (bchain HK5.out HBR.out))).mono ?_
              rintro e w7 ⟨rfl, rfl⟩
              go_wp2
              go_ret
              exact ⟨rfl, bchain HB5.out HBR.out⟩
theorem trieMap_law (v : Value) (L : List ActT) (w : World) (hv : TActs w v L) (_ : L.length * 40 ≤ reachBytes) (_ : ∀ s ∈ L, OkTAct s) (hT : Tab w) :
    Calls Tryd.prog 4 #[v] w fun e w' => e = .returned (.bool true) ∧ Below w.heap.size w w' := trieMap_walk v L w hv hT
end Go.Proofs.YtikabacebmbacaaDoor
