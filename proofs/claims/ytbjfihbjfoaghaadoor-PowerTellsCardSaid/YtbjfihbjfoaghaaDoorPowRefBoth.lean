/- The document's Both: the least one that is in both and above the last one, again and again. -/
import Derived.Test.YtbjfihbjfoaghaaDoorPowRef
import Derived.Test.YtbjfihbjfoaghaaDoorSorted
import Derived.Test.YtbjfihbjfoaghaaDoorMapFn
namespace Go.Proofs.YtbjfihbjfoaghaaDoor
open Go.RowKit
open Go.Proofs.YtbjfihbjfoaghaaDoor.Pw (M)

theorem Pw.both_strict (a b : List (List UInt8)) : (Pw.both a b).Pairwise (· < ·) := by
  have h1 := Pw.both_sorted a b
  have h2 := Pw.both_nodup a b
  refine List.Pairwise.imp₂ (S := fun x y => x ≠ y) ?_ h1 h2
  intro x y hle hne
  rcases List.le_iff_lt_or_eq.1 hle with h | h
  · exact h
  · exact absurd h hne
/-- One that may come next. -/
def Pw.cand (b O : List (List UInt8)) (x : List UInt8) : Prop := x ∈ b ∧ x ∉ O
theorem Pw.next_none (a b : List (List UInt8)) (r : Nat) (h : ∀ x ∈ a, ¬ Pw.cand b ((Pw.both a b).take r) x) : (Pw.both a b).take (r + 1) = (Pw.both a b).take r := by
  by_cases hr : r < (Pw.both a b).length
  · have hm := (Pw.both_mem a b (Pw.both a b)[r]).1 (List.getElem_mem hr)
    refine absurd ⟨hm.2, ?_⟩ (h _ hm.1)
    intro hin
    obtain ⟨i, hi, e⟩ := List.mem_iff_getElem.1 hin
    rw [List.getElem_take] at e
    simp only [List.length_take] at hi
    have := List.pairwise_iff_getElem.1 (Pw.both_strict a b) i r (by omega) hr (by omega)
    rw [e] at this
    exact List.lt_irrefl _ this
  · rw [List.take_of_length_le (by omega), List.take_of_length_le (by omega)]
theorem Pw.next_some (a b : List (List UInt8)) (r : Nat) (x : List UInt8) (hx : x ∈ a) (hc : Pw.cand b ((Pw.both a b).take r) x) (hmin : ∀ y ∈ a, Pw.cand b ((Pw.both a b).take r) y → x ≤ y) : (Pw.both a b).take (r + 1) = (Pw.both a b).take r ++ [x] := by
  have hin := (Pw.both_mem a b x).2 ⟨hx, hc.1⟩
  obtain ⟨i, hi, rfl⟩ := List.mem_iff_getElem.1 hin
  have hst := List.pairwise_iff_getElem.1 (Pw.both_strict a b)
  have hir : r ≤ i := by
    by_cases h : r ≤ i
    · exact h
    · exact absurd (List.mem_iff_getElem.2 ⟨i, by simp; omega, List.getElem_take⟩) hc.2
  have hr : r < (Pw.both a b).length := by omega
  have hm := (Pw.both_mem a b (Pw.both a b)[r]).1 (List.getElem_mem hr)
  have hle := hmin _ hm.1 ⟨hm.2, fun hin => by
    obtain ⟨j, hj, e⟩ := List.mem_iff_getElem.1 hin
    rw [List.getElem_take] at e
    simp only [List.length_take] at hj
    have := hst j r (by omega) hr (by omega)
    rw [e] at this
    exact List.lt_irrefl _ this⟩
  obtain rfl : i = r := by
    rcases Nat.lt_or_eq_of_le hir with h | h
    · exact absurd (hst r i hr hi h) (List.not_lt.2 hle)
    · exact h.symm
  rw [List.take_succ_eq_append_getElem hi]

def BothPostR (a b : List (List UInt8)) (w : World) (e : Ending) (w' : World) : Prop := ∃ s, e = .returned s ∧ Own w' w.heap.size s (Pw.both a b) ∧ Below w.heap.size w w'
/-- The least one met so far. -/
def Pw.Best (a b O : List (List UInt8)) (k : Nat) (t : Int) : Prop :=
  (t = -1 ∧ ∀ i (_ : i < k) (h : i < a.length), ¬ Pw.cand b O a[i]) ∨ ∃ (j : Nat) (h : j < a.length), t = j ∧ j < k ∧ Pw.cand b O a[j] ∧ ∀ i (_ : i < k) (h : i < a.length), Pw.cand b O a[i] → a[j] ≤ a[i]
theorem Pw.Best.zero (a b O : List (List UInt8)) : Pw.Best a b O 0 (-1) := Or.inl ⟨rfl, fun i h _ => absurd h (Nat.not_lt_zero i)⟩
theorem Pw.Best.skip {a b O : List (List UInt8)} {k : Nat} {t : Int} (h : Pw.Best a b O k t) (hk : k < a.length) (hn : ¬ Pw.cand b O a[k]) : Pw.Best a b O (k + 1) t := by
  rcases h with ⟨rfl, h⟩ | ⟨j, hj, rfl, hjk, hc, h⟩
  · refine Or.inl ⟨rfl, fun i hi hl => ?_⟩
    by_cases e : i = k
    · subst e; exact hn
    · exact h i (by omega) hl
  · refine Or.inr ⟨j, hj, rfl, by omega, hc, fun i hi hl hci => ?_⟩
    by_cases e : i = k
    · subst e; exact absurd hci hn
    · exact h i (by omega) hl hci
theorem Pw.Best.first {a b O : List (List UInt8)} {k : Nat} (h : ∀ i (_ : i < k) (h : i < a.length), ¬ Pw.cand b O a[i]) (hk : k < a.length) (hc : Pw.cand b O a[k]) : Pw.Best a b O (k + 1) k := by
  refine Or.inr ⟨k, hk, rfl, by omega, hc, fun i hi hl hci => ?_⟩
  by_cases e : i = k
  · subst e; exact List.le_refl _
  · exact absurd hci (h i (by omega) hl)
theorem Pw.Best.less {a b O : List (List UInt8)} {k j : Nat} (hj : j < a.length) (h : ∀ i (_ : i < k) (h : i < a.length), Pw.cand b O a[i] → a[j] ≤ a[i]) (hk : k < a.length) (hc : Pw.cand b O a[k]) (hl : a[k] < a[j]) : Pw.Best a b O (k + 1) k := by
  refine Or.inr ⟨k, hk, rfl, by omega, hc, fun i hi hl' hci => ?_⟩
  by_cases e : i = k
  · subst e; exact List.le_refl _
  · exact List.le_trans (List.le_of_lt hl) (h i (by omega) hl' hci)
theorem Pw.Best.keep {a b O : List (List UInt8)} {k j : Nat} (hj : j < a.length) (hjk : j < k) (hcj : Pw.cand b O a[j]) (h : ∀ i (_ : i < k) (h : i < a.length), Pw.cand b O a[i] → a[j] ≤ a[i]) (hk : k < a.length) (hl : ¬ a[k] < a[j]) : Pw.Best a b O (k + 1) j := by
  refine Or.inr ⟨j, hj, rfl, by omega, hcj, fun i hi hl' hci => ?_⟩
  by_cases e : i = k
  · subst e; exact List.not_lt.1 hl
  · exact h i (by omega) hl' hci

set_option maxRecDepth 8000 in
set_option maxHeartbeats 4000000 in
theorem rboth_any (a b : List (List UInt8)) (u v : Value) (w : World) (hu : Strs w u a) (hv : Strs w v b) (hla : a.length ≤ 1000000) (hlb : b.length ≤ 1000000) :
    Calls Tryd.prog 22 #[u, v] w (BothPostR a b w) := by
  have HU := Lib.hid hu
  have HV := Lib.hid hv
  obtain ⟨A, cap, rfl, -⟩ := hu
  obtain ⟨A2, cap2, rfl, -⟩ := hv
  obtain ⟨i0, hi, hz0, hz1, hz2⟩ := info_parts Tryd.infoStr
  have HBL := Lib.hid (Pw.both_length a b)
  go_enter Tryd.func22, Tryd.ntmps22
  go_wp2
  go_loopw [5, 10] (fun s i wr => ∃ (r : Nat) (t : Value), t = s ∧ r ≤ a.length ∧ i = .int .i64 r ∧ Own wr w.heap.size t ((Pw.both a b).take r) ∧ Below w.heap.size w wr) (fun _ i _ => a.length - (intOf i).toNat)
  case atStart => exact ⟨0, _, rfl, Nat.zero_le _, rfl, Own.nil _ _, Below.refl _ _⟩
  case round =>
    obtain ⟨r, t, rfl, hr, rfl, hown, hb⟩ := hrel
    have HB := Lib.hid hb
    have HOWN := Lib.hid hown
    clear hown hb
    by_cases hlt : r < a.length
    · have h1 : (r : Int) < (a.length : Int) := by omega
      have h0 : (0 : Int) ≤ (r : Int) := by omega
      have HNN := Lib.hid (Pw.next_none a b r)
      have HNS := Lib.hid (Pw.next_some a b r)
      obtain ⟨O, hO⟩ : ∃ O, (Pw.both a b).take r = O := ⟨_, rfl⟩
      have HOL : Hid (O.length ≤ 1000000) := Lib.hid (by rw [← hO]; have := HBL.out; simp; omega)
      rw [hO] at HOWN HNN HNS
      have HAT : Hid (∀ w', Below wr.heap.size wr w' → ∀ (j : Nat) (hj : j < a.length), ∃ p, A = some p ∧ w'.cell? (p.add j) = some (.string ⟨a[j].toArray⟩)) := Lib.hid (fun w' hb' j hj => by
        obtain ⟨A3, cap3, hv3, hc3⟩ := (HU.out.below HB.out).below hb'
        obtain ⟨rfl, rfl⟩ : A = A3 ∧ cap = cap3 := by simpa using hv3
        exact hc3 j hj)
      have HBS : Hid (∀ w', Below wr.heap.size wr w' → Strs w' (.slice A2 b.length cap2) b ∧ Strs w' t O) := Lib.hid (fun w' hb' => ⟨(HV.out.below HB.out).below hb', HOWN.out.strs.below hb'⟩)
      obtain ⟨At, capt, rfl⟩ := own_form HOWN.out
      clear hO
      obtain ⟨wo, rfl⟩ : ∃ wo, wo = wr := ⟨wr, rfl⟩
      go_wp2
      go_loopw [6, 7] (fun p i wx => ∃ (k : Nat) (q : Int), k ≤ a.length ∧ i = .int .i64 k ∧ p = .int .i64 q ∧ Pw.Best a b O k q ∧ Below wo.heap.size wo wx) (fun _ i _ => a.length - (intOf i).toNat)
      case atStart => exact ⟨0, -1, Nat.zero_le _, rfl, rfl, Pw.Best.zero a b O, Below.refl _ _⟩
      case round =>
        obtain ⟨k, q, hk, rfl, rfl, hbest, hb2⟩ := hrel
        have HB2 := Lib.hid hb2
        have HBE := Lib.hid hbest
        clear hb2 hbest
        by_cases hlk : k < a.length
        · have h2 : (k : Int) < (a.length : Int) := by omega
          have h3 : (0 : Int) ≤ (k : Int) := by omega
          obtain ⟨p, rfl, n0⟩ := HAT.out wr HB2.out k hlk
          have HM := Lib.hid (List.getElem_mem hlk)
          have HX : Hid (∃ x, a[k] = x) := Lib.hid ⟨_, rfl⟩
          obtain ⟨x, hx⟩ : ∃ x, a[k] = x := ⟨_, rfl⟩
          have HXE := Lib.hid hx
          rw [hx] at n0
          have HH1 := Lib.hid (rhas_any b _ x wr (HBS.out wr HB2.out).1 hlb)
          have HH2 := Lib.hid (rhas_any O _ x wr (HBS.out wr HB2.out).2 HOL.out)
          clear hx HX
          by_cases hxb : x ∈ b
          · have HXB := Lib.hid hxb
            rw [decide_eq_true hxb] at HH1
            clear hxb
            by_cases hxo : x ∈ O
            · rw [decide_eq_true hxo] at HH2
              have HN := Lib.hid (HBE.out.skip hlk (by rw [HXE.out]; exact fun h => h.2 hxo))
              clear hxo
              go_wp2_with fail
              refine HH1.out.mono ?_
              rintro e w3 ⟨rfl, rfl⟩
              go_wp2_with fail
              refine HH2.out.mono ?_
              rintro e w4 ⟨rfl, rfl⟩
              go_wp2
              exact ⟨⟨k + 1, q, by omega, by go_num, rfl, HN.out, HB2.out⟩, by simp [intOf]; omega⟩
            · rw [decide_eq_false hxo] at HH2
              have HC : Hid (Pw.cand b O a[k]) := Lib.hid (by rw [HXE.out]; exact ⟨HXB.out, hxo⟩)
              clear hxo
              go_wp2_with fail
              refine HH1.out.mono ?_
              rintro e w3 ⟨rfl, rfl⟩
              go_wp2_with fail
              refine HH2.out.mono ?_
              rintro e w4 ⟨rfl, rfl⟩
              rcases HBE.out with ⟨rfl, hno⟩ | ⟨j, hj, rfl, hjk, hcj, hmin⟩
              · have HN := Lib.hid (Pw.Best.first hno hlk HC.out)
                clear hno
                go_wp2
                go_quiet (fail)
                go_wp2
                go_roundw
                case rel => exact ⟨k + 1, k, by omega, by go_num, rfl, HN.out, bel_drewN HB2.out _⟩
                case measure => simp [intOf]; omega
              · obtain ⟨p', e', m0⟩ := HAT.out w4 HB2.out j hj
                obtain rfl : p = p' := by simpa using e'
                have j0 : ¬ ((j : Int) < 0) := by omega
                have j1 : (j : Int) < (a.length : Int) := by omega
                have j2 : (0 : Int) ≤ (j : Int) := by omega
                have HL := Lib.hid (fun hl => Pw.Best.less hj hmin hlk HC.out hl)
                have HK := Lib.hid (fun hl => Pw.Best.keep hj hjk hcj hmin hlk hl)
                rw [HXE.out] at HL HK
                obtain ⟨y, hy⟩ : ∃ y, a[j] = y := ⟨_, rfl⟩
                rw [hy] at m0 HL HK
                clear hy hcj hmin e'
                by_cases hlt2 : x < y
                · have e1 : Op.bytesLess x y = true := by rw [less_lt]; simpa using hlt2
                  have HN := Lib.hid (HL.out hlt2)
                  clear hlt2
                  go_wp2
                  go_quiet (fail)
                  go_wp2
                  go_roundw
                  case rel => exact ⟨k + 1, k, by omega, by go_num, rfl, HN.out, bel_drewN HB2.out _⟩
                  case measure => simp [intOf]; omega
                · have e1 : Op.bytesLess x y = false := by rw [less_lt]; simpa using hlt2
                  have HN := Lib.hid (HK.out hlt2)
                  clear hlt2
                  go_wp2
                  go_quiet (fail)
                  go_wp2
                  go_roundw
                  case rel => exact ⟨k + 1, j, by omega, by go_num, rfl, HN.out, bel_drewN HB2.out _⟩
                  case measure => simp [intOf]; omega
          · rw [decide_eq_false hxb] at HH1
            have HN := Lib.hid (HBE.out.skip hlk (by rw [HXE.out]; exact fun h => hxb h.1))
            clear hxb
            go_wp2_with fail
            refine HH1.out.mono ?_
            rintro e w3 ⟨rfl, rfl⟩
            go_wp2
            exact ⟨⟨k + 1, q, by omega, by go_num, rfl, HN.out, HB2.out⟩, by simp [intOf]; omega⟩
        · have h2 : ¬ ((k : Int) < (a.length : Int)) := by omega
          obtain rfl : k = a.length := by omega
          rcases HBE.out with ⟨rfl, hno⟩ | ⟨j, hj, rfl, hjk, hcj, hmin⟩
          · have HK : Hid ((Pw.both a b).take (r + 1) = O) := Lib.hid (HNN.out (fun x hx hc => by
              obtain ⟨i, hi, rfl⟩ := List.mem_iff_getElem.1 hx
              exact hno i hi hi hc))
            clear hno
            have hown := HOWN.out.below HB2.out
            go_wp2
            exact ⟨⟨r + 1, _, rfl, by omega, by go_num, by rw [HK.out]; exact hown, HB.out.trans (HB2.out.mono HB.out.size)⟩, by simp [intOf]; omega⟩
          · have HK : Hid ((Pw.both a b).take (r + 1) = O ++ [a[j]]) := Lib.hid (HNS.out a[j] (List.getElem_mem hj) hcj (fun y hy hc => by
              obtain ⟨i, hi, rfl⟩ := List.mem_iff_getElem.1 hy
              exact hmin i hi hi hc))
            obtain ⟨p, rfl, m0⟩ := HAT.out wr HB2.out j hj
            have j0 : (0 : Int) ≤ (j : Int) := by omega
            have j1 : (j : Int) < (a.length : Int) := by omega
            obtain ⟨y, hy⟩ : ∃ y, a[j] = y := ⟨_, rfl⟩
            rw [hy] at m0 HK
            clear hmin hcj hy
            have HOW := Lib.hid (HOWN.out.below HB2.out)
            have HWW : Hid (w.heap.size ≤ wr.heap.size) := Lib.hid (Nat.le_trans HB.out.size HB2.out.size)
            go_wp2_with (at_builtin; refine wpList_append_lies _ rfl _ _ _ rfl w.heap.size 9 i0 (.string ⟨#[]⟩) 1 16 Tryd.underlying23 hi hz0 hz1 hz2 rfl (by decide) (.slice At O.length capt) O.length (scells O) (by rfl) (World.ownsRow.alloc HOW.out _) ⟨wr.heap.size, 0, none⟩ 1 1 (scells [y]) (by rfl) rfl (World.news_of_block (heap_new_at _ _ _ rfl)) (by simp [scells, Value.oneCell']) (by decide) (by have := HOL.out; unfold maxLen; omega) (by have := HOL.out; omega) (by have := HWW.out; simp; omega) (wr.heap.size + 1) (by simp) ?_; intro g' cap' w3 hown3 hgrow3 hat3 hlt3)
            have hb0 := (Below.refl wr.heap.size wr).alloc (Nat.le_refl _) (.cells #[.string ⟨y.toArray⟩] 9)
            have hB3 : Below w.heap.size w w3 := by
              have h3 : Out (fun j => (Value.slice At O.length capt).ownBlock = some j) wr w3 := (Out.of hb0).trans (Out.grown hgrow3 (fun j e => e))
              exact (HB.out.trans (HB2.out.mono HB.out.size)).trans (h3.below (fun j hj => (HOW.out.lt j hj).1) HWW.out)
            have hown4 : Own w3 w.heap.size (.slice (some ⟨g', 0, none⟩) (O.length + 1) cap') (O ++ [y]) := by
              unfold Own
              rw [scells_append, List.length_append]
              exact hown3
            exact ⟨⟨r + 1, _, rfl, by omega, by go_num, by rw [HK.out]; exact hown4, hB3⟩, by simp [intOf]; omega⟩
    · have h1 : ¬ ((r : Int) < (a.length : Int)) := by omega
      have HOWN2 : Hid (Own wr w.heap.size t (Pw.both a b)) := Lib.hid (by have := HOWN.out; rwa [List.take_of_length_le (by have := HBL.out; omega)] at this)
      go_wp2
      go_ret
      exact ⟨t, rfl, HOWN2.out, HB.out⟩
end Go.Proofs.YtbjfihbjfoaghaaDoor
