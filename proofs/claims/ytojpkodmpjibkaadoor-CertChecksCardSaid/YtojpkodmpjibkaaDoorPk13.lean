/- BookLend, BookMems -/
import Derived.Test.YtojpkodmpjibkaaDoorPk07
import Derived.Test.YtojpkodmpjibkaaDoorPk09
import Derived.Test.YtojpkodmpjibkaaDoorPk12
import Derived.Test.YtojpkodmpjibkaaDoorPk10
import Derived.Test.YtojpkodmpjibkaaDoorPk08
namespace Go.Proofs.YtojpkodmpjibkaaDoor
open Go.RowKit

def behind : List UInt8 := [98, 101, 104, 105, 110, 100]
/-- A list that is lent: its texts, and a mark behind their end. -/
def Lent (w : World) (B : Nat) (s : Value) (L : List (List UInt8)) : Prop :=
  ∃ g cap, s = .slice (some ⟨g, 0, none⟩) L.length cap ∧ Own w B (.slice (some ⟨g, 0, none⟩) (L.length + 1) cap) (L ++ [behind])
theorem Lent.below {w w' : World} {B : Nat} {s : Value} {L : List (List UInt8)} (h : Lent w B s L) (hb : Below w.heap.size w w') : Lent w' B s L := by
  obtain ⟨g, cap, rfl, h1⟩ := h
  exact ⟨g, cap, rfl, h1.below hb⟩
theorem Lent.strs {w : World} {B : Nat} {s : Value} {L : List (List UInt8)} (h : Lent w B s L) : Strs w s L := by
  obtain ⟨g, cap, rfl, h1⟩ := h
  obtain ⟨A, c, hv, hc⟩ := h1.strs
  obtain ⟨rfl, _⟩ : some (⟨g, 0, none⟩ : Addr) = A ∧ _ := by simpa using hv
  refine ⟨_, cap, rfl, fun i hi => ?_⟩
  obtain ⟨a, ha, hcell⟩ := hc i (by simp; omega)
  exact ⟨a, ha, by rw [hcell, List.getElem_append_left hi]⟩
theorem Lent.cap {w : World} {B : Nat} {A : Option Addr} {n c : Nat} {L : List (List UInt8)} (h : Lent w B (.slice A n c) L) : ∃ g, A = some ⟨g, 0, none⟩ ∧ n = L.length ∧ L.length + 1 ≤ c ∧ c ≤ maxLen ∧ B ≤ g ∧ w.cell? ⟨g, L.length, none⟩ = some (.string ⟨behind.toArray⟩) := by
  obtain ⟨g, cap, hv, h1⟩ := h
  obtain ⟨rfl, rfl, rfl⟩ : A = some ⟨g, 0, none⟩ ∧ n = L.length ∧ c = cap := by simpa using hv
  have h2 := World.ownsRow.cells h1 (g := g) rfl L.length (.string ⟨behind.toArray⟩) (by simp [scells])
  rw [Addr.add_mid, Nat.zero_add] at h2
  rcases h1.2 with ⟨h', _⟩ | ⟨g', cap', cur, hv', hB, hh, hn, hcap, hsz, _⟩
  · simp at h'
  · obtain ⟨rfl, rfl⟩ : g = g' ∧ c = cap' := by simpa using hv'
    exact ⟨g, rfl, rfl, by simpa using hn, hcap, hB, h2⟩

theorem own_cap {w : World} {B g n cap : Nat} {xs : List Value} (h : w.ownsRow B 9 1 (.slice (some ⟨g, 0, none⟩) (n + 1) cap) (n + 1) xs) : n ≤ cap := by
  rcases h.2 with ⟨h', _⟩ | ⟨g', cap', cur, hv, _, _, hn, _⟩
  · simp at h'
  · obtain ⟨_, rfl⟩ : g = g' ∧ cap = cap' := by simpa using hv
    omega
def LendPost (L : List (List UInt8)) (w : World) (e : Ending) (w' : World) : Prop := ∃ s, e = .returned s ∧ Lent w' w.heap.size s L ∧ Below w.heap.size w w'
theorem own_grown {w0 w w1 w2 : World} {B : Nat} {s s' : Value} {n n' : Nat} {xs xs' : List Value} (hB : B ≤ w0.heap.size) (h : w.ownsRow B 9 1 s n xs) (hb0 : Below B w0 w) (hb : Below w.heap.size w w1) (hg : w1.grownBy w2 s.ownBlock) (_hr : w2.ownsRow B 9 1 s' n' xs') : Below B w0 w2 := by
  have h3 : Out (fun j => s.ownBlock = some j) w w2 := (Out.of hb).trans (Out.grown hg (fun _ e => e))
  exact hb0.trans (h3.below (fun j hj => (World.ownsRow.lt h j hj).1) (by have := hb0.size; omega))
set_option maxRecDepth 8000 in
set_option maxHeartbeats 1000000 in
theorem lend_any (L : List (List UInt8)) (v : Value) (w : World) (hv : Strs w v L) (hl : L.length ≤ 1000000) :
    Calls Tryd.prog 12 #[v] w (LendPost L w) := by
  obtain ⟨i0, hi, hz0, hz1, hz2⟩ := info_parts Tryd.infoStr
  obtain ⟨v1, w1, hrun1, hown1, hgrow1, hat1⟩ := append_strs hv (World.ownsRow_nil w w.heap.size 9 1) (by omega) (Nat.le_refl _)
  simp only [Nat.zero_add, List.nil_append] at hown1
  have HO1 : Hid (Own w1 w.heap.size v1 L) := Lib.hid hown1
  have HB1 : Hid (Below w.heap.size w w1) := Lib.hid (own_grown (Nat.le_refl _) (World.ownsRow_nil w w.heap.size 9 1) (Below.refl _ w) (Below.refl _ w) hgrow1 hown1)
  obtain ⟨A, cap, rfl, -⟩ := hv
  obtain ⟨A1, cap1, rfl⟩ := own_form hown1
  have HR1 := Lib.hid hrun1
  clear hrun1 hown1 hgrow1 hat1
  have HS1 := Lib.hid HB1.out.size
  go_enter Tryd.func12, Tryd.ntmps12
  go_wp2_with (first | (at_builtin; refine wpList_append_run rfl _ _ _ rfl (.slice none 0 0) (.slice A L.length cap) _ (by rfl) (by rfl) HR1.out ?_) | (at_builtin; refine wpList_append_lies _ rfl _ _ _ rfl w.heap.size 9 i0 (.string ⟨#[]⟩) 1 16 Tryd.underlying26 hi hz0 hz1 hz2 rfl (by decide) (.slice A1 L.length cap1) L.length (scells L) (by rfl) (World.ownsRow.alloc HO1.out _) ⟨w1.heap.size, 0, none⟩ 1 1 (scells [behind]) (by rfl) rfl (World.news_of_block (heap_new_at _ _ _ rfl)) (by simp [scells, Value.oneCell']) (by decide) (by unfold maxLen; omega) (by omega) (by have := HS1.out; simp; omega) (w1.heap.size + 1) (by simp) ?_; intro g2 cap2 w2 hown2 hgrow2 hat2 hlt2; have hcap2 : L.length ≤ cap2 := own_cap hown2))
  go_ret
  have hb2 : Below w.heap.size w w2 := own_grown (Nat.le_refl _) HO1.out HB1.out ((Below.refl _ w1).alloc (Nat.le_refl _) _) hgrow2 hown2
  refine ⟨_, rfl, ⟨g2, cap2, rfl, ?_⟩, hb2⟩
  unfold Own
  rw [scells_append, List.length_append]
  exact hown2

set_option maxRecDepth 8000 in
set_option maxHeartbeats 1000000 in
theorem kept_any (L : List (List UInt8)) (s v : Value) (B : Nat) (w : World) (hs : Lent w B s L) (hv : Strs w v L) (hl : L.length ≤ 1000000) :
    Calls Tryd.prog 21 #[s, v] w fun e w' => e = .returned (.bool true) ∧ Below w.heap.size w w' := by
  have HS := Lib.hid hs
  have HSM := Lib.hid (same_any L L s v w hs.strs hv (by omega) (by unfold maxLen; omega))
  obtain ⟨g, c, rfl, -⟩ := hs
  obtain ⟨A, cap, rfl, -⟩ := hv
  have e1 : decide (L = L) = true := decide_eq_true rfl
  rw [e1] at HSM
  clear e1
  go_enter Tryd.func21, Tryd.ntmps21
  go_wp2_with fail
  refine HSM.out.mono ?_
  rintro e w1 ⟨rfl, hb⟩
  obtain ⟨g', hg, _, hc1, hc2, _, hcell⟩ := (HS.out.below hb).cap
  obtain rfl : g = g' := by simpa using hg
  have h1 : (L.length : Int) + 1 ≤ (c : Int) := by omega
  have h2 : (0 : Int) ≤ (L.length : Int) + 1 := by omega
  have h3 : (0 : Int) ≤ (L.length : Int) := by omega
  unfold behind at hcell
  clear hg
  go_wp2
  go_ret
  exact ⟨rfl, hb⟩

/-- One text of a row of the call's own, set. -/
theorem Own.set {w : World} {B g n cap i : Nat} {L : List (List UInt8)} (h : Own w B (.slice (some ⟨g, 0, none⟩) n cap) L) (_hi : i < L.length) (x : List UInt8) :
    Own (w.setCell ⟨g, i, none⟩ (.string ⟨x.toArray⟩)) B (.slice (some ⟨g, 0, none⟩) n cap) (L.set i x) := by
  have hn : n = L.length := by
    obtain ⟨_, _, hv⟩ := own_form h
    simp at hv
    exact hv.2.1
  subst hn
  have := (World.ownsRow.stored h i (.string ⟨x.toArray⟩)).1
  unfold Own
  rw [List.length_set]
  simpa [scells, List.map_set] using this
set_option maxRecDepth 8000 in
set_option maxHeartbeats 1000000 in
theorem spoilTexts_any (L : List (List UInt8)) (s : Value) (B : Nat) (w : World) (hs : Own w B s L) (hl : L.length ≤ 1000000) :
    Calls Tryd.prog 20 #[s] w fun e w' => e = .returned (.tuple #[]) ∧ Below B w w' := by
  have HS := Lib.hid hs
  obtain ⟨A, cap, rfl⟩ := own_form hs
  clear hs
  go_enter Tryd.func20, Tryd.ntmps20
  go_wp2
  go_loopw [2] (fun i wr => ∃ (k : Nat) (K : List (List UInt8)), k ≤ L.length ∧ i = .int .i64 k ∧ K.length = L.length ∧ Own wr B (.slice A L.length cap) K ∧ Below B w wr) (fun i _ => L.length - (intOf i).toNat)
  case atStart => exact ⟨0, L, Nat.zero_le _, rfl, rfl, HS.out, Below.refl _ _⟩
  case round =>
    obtain ⟨k, K, hk, rfl, hK, hown, hb⟩ := hrel
    by_cases hlt : k < L.length
    · have h1 : (k : Int) < (L.length : Int) := by omega
      have h0 : (0 : Int) ≤ (k : Int) := by omega
      have hf := World.ownsRow.form hown (by omega)
      obtain ⟨g, c, hv, hBg, _⟩ := hf
      obtain ⟨rfl, _⟩ : A = some ⟨g, 0, none⟩ ∧ _ := by simpa using hv
      obtain ⟨a, ha, hcell⟩ := hown.strs_at (Below.refl _ wr) k (by omega)
      obtain rfl : a = ⟨g, 0, none⟩ := by simpa using ha.symm
      rw [Addr.add_mid, Nat.zero_add] at hcell
      have hfz := World.ownsRow.frozenAt (n := K.length) (xs := scells K) (cap := cap) (by rw [hK]; have := hown; unfold Own at this; rw [hK] at this; exact this) k
      have HN := Lib.hid (hown.set (show k < K.length by omega) [97, 110, 111, 116, 104, 101, 114, 32, 111, 110, 101])
      have HB := Lib.hid (hb.setCell (p := ⟨g, k, none⟩) hBg (.string ⟨#[97, 110, 111, 116, 104, 101, 114, 32, 111, 110, 101]⟩))
      have HKL := Lib.hid hK
      obtain ⟨y, hy⟩ : ∃ y, K[k]'(by omega) = y := ⟨_, rfl⟩
      rw [hy] at hcell
      clear hv ha hown hb hy hK
      go_wp2
      exact ⟨⟨k + 1, _, by omega, by go_num, by rw [List.length_set]; exact HKL.out, HN.out, HB.out⟩, by simp [intOf]; omega⟩
    · have h1 : ¬ ((k : Int) < (L.length : Int)) := by omega
      have HB := Lib.hid hb
      clear hown hb
      go_wp2
      go_end0
      exact ⟨rfl, HB.out⟩
end Go.Proofs.YtojpkodmpjibkaaDoor
namespace Go.Proofs.YtojpkodmpjibkaaDoor
open Go.RowKit
open Go.Proofs.YtojpkodmpjibkaaDoor.Pw (M)

theorem Pw.take_snoc_eq {L K : List M} {k : Nat} (h1 : k < L.length) (h2 : k < K.length) : L.take (k + 1) = K.take (k + 1) ↔ L.take k = K.take k ∧ L[k] = K[k] := by
  rw [List.take_succ_eq_append_getElem h1, List.take_succ_eq_append_getElem h2]
  constructor
  · intro h
    have := List.append_inj' h rfl
    exact ⟨this.1, by simpa using this.2⟩
  · rintro ⟨a, b⟩
    rw [a, b]

set_option maxRecDepth 8000 in
set_option maxHeartbeats 2000000 in
theorem sameM_any (L K : List M) (u v : Value) (w : World) (hu : Mems w u L) (hv : Mems w v K) (hl : L.length ≤ 1000000) (hk : K.length ≤ 1000000) :
    Calls Tryd.prog 22 #[u, v] w fun x w' => x = .returned (.bool (decide (L = K))) ∧ Below w.heap.size w w' := by
  have HU := Lib.hid hu
  have HV := Lib.hid hv
  obtain ⟨A, cap, rfl⟩ := hu.form
  obtain ⟨B, cap2, rfl⟩ := hv.form
  clear hu hv
  by_cases he : L.length = K.length
  · have h0 : ((L.length : Int) == (K.length : Int)) = true := by rw [beq_iff_eq]; omega
    have HE := Lib.hid he
    go_enter Tryd.func22, Tryd.ntmps22
    go_wp2
    go_loopw [5, 6] (fun s i wr => ∃ k : Nat, k ≤ L.length ∧ s = .bool (decide (L.take k = K.take k)) ∧ i = .int .i64 k ∧ Below w.heap.size w wr ∧ (L.take k ≠ K.take k → L ≠ K)) (fun _ i _ => L.length - (intOf i).toNat)
    case atStart => exact ⟨0, Nat.zero_le _, by simp, rfl, Below.refl _ _, by simp⟩
    case round =>
      obtain ⟨k, hk, rfl, rfl, hbel, hno⟩ := hrel
      have HN := Lib.hid hno
      have HB := Lib.hid hbel
      clear hno hbel
      rcases htk : decide (L.take k = K.take k) with _ | _
      · have HT := Lib.hid htk
        clear htk
        go_wp2
        go_ret
        refine ⟨?_, HB.out⟩
        have h := HN.out (of_decide_eq_false HT.out)
        rw [decide_eq_false h]
        rfl
      · have HT := Lib.hid htk
        clear htk
        by_cases hlt : k < L.length
        · have h1 : (k : Int) < (L.length : Int) := by omega
          have h2 : (k : Int) < (K.length : Int) := by omega
          have h3 : (0 : Int) ≤ (k : Int) := by omega
          obtain ⟨b, o, rfl, n0, n1⟩ := HU.out.at HB.out k hlt
          obtain ⟨b2, o2, rfl, m0, m1⟩ := HV.out.at HB.out k (by omega)
          have HSN := Lib.hid (Pw.take_snoc_eq hlt (show k < K.length by omega))
          have HNE : Hid (∀ h : k < K.length, L[k] ≠ K[k] → L ≠ K) := Lib.hid (fun _ h e => by subst e; exact h rfl)
          obtain ⟨⟨x, p⟩, hx⟩ : ∃ m, L[k] = m := ⟨_, rfl⟩
          obtain ⟨⟨y, q⟩, hy⟩ : ∃ m, K[k]'(by omega) = m := ⟨_, rfl⟩
          rw [hx] at n0 n1
          rw [hy] at m0 m1
          rw [hx, hy] at HSN
          rw [hx] at HNE
          have HNE2 : Hid ((⟨x, p⟩ : M) ≠ ⟨y, q⟩ → L ≠ K) := Lib.hid (by have := HNE.out (by omega); rwa [hy] at this)
          dsimp only at n0 n1 m0 m1
          clear hx hy HNE
          by_cases exy : x = y
          · have e1 : (x == y) = true := by rw [beq_iff_eq]; exact exy
            have EXY := Lib.hid exy
            clear exy
            by_cases epq : p = q
            · have e2 : (p == q) = true := by rw [beq_iff_eq]; exact epq
              have HR : Hid (decide (L.take (k + 1) = K.take (k + 1)) = true) := Lib.hid (decide_eq_true (HSN.out.2 ⟨of_decide_eq_true HT.out, by rw [EXY.out, epq]⟩))
              clear epq
              go_wp2
              go_quiet (fail)
              go_wp2
              go_roundw
              case rel => exact ⟨k + 1, by omega, by rw [HR.out], by go_num, bel_drewN HB.out _, fun h => absurd (of_decide_eq_true HR.out) h⟩
              case measure => simp [intOf]; omega
            · have e2 : (p == q) = false := by rw [beq_eq_false_iff_ne]; exact epq
              have HD : Hid (L ≠ K) := Lib.hid (HNE2.out (fun e => epq (by injection e)))
              have HR : Hid (decide (L.take (k + 1) = K.take (k + 1)) = false) := Lib.hid (decide_eq_false (fun h => epq (by injection (HSN.out.1 h).2)))
              clear epq
              go_wp2
              go_quiet (fail)
              go_wp2
              go_roundw
              case rel => exact ⟨k + 1, by omega, by rw [HR.out], by go_num, bel_drewN HB.out _, fun _ => HD.out⟩
              case measure => simp [intOf]; omega
          · have e1 : (x == y) = false := by rw [beq_eq_false_iff_ne]; exact exy
            have HD : Hid (L ≠ K) := Lib.hid (HNE2.out (fun e => exy (by injection e)))
            have HR : Hid (decide (L.take (k + 1) = K.take (k + 1)) = false) := Lib.hid (decide_eq_false (fun h => exy (by injection (HSN.out.1 h).2)))
            clear exy
            go_wp2
            go_quiet (fail)
            go_wp2
            go_roundw
            case rel => exact ⟨k + 1, by omega, by rw [HR.out], by go_num, bel_drewN HB.out _, fun _ => HD.out⟩
            case measure => simp [intOf]; omega
        · have h1 : ¬ ((k : Int) < (L.length : Int)) := by omega
          have HR : Hid (decide (L = K) = true) := Lib.hid (decide_eq_true (by
            have := of_decide_eq_true HT.out
            rwa [List.take_of_length_le (by omega), List.take_of_length_le (by omega)] at this))
          go_wp2
          go_ret
          exact ⟨by rw [HR.out]; rfl, HB.out⟩
  · have h0 : ((L.length : Int) == (K.length : Int)) = false := by rw [beq_eq_false_iff_ne]; omega
    have HD : Hid (decide (L = K) = false) := Lib.hid (decide_eq_false (fun e => he (by rw [e])))
    clear he
    go_enter Tryd.func22, Tryd.ntmps22
    go_wp2
    go_loopw [5, 6] (fun s i wr => s = .bool false ∧ i = .int .i64 0 ∧ Below w.heap.size w wr) (fun _ _ _ => 0)
    case atStart => exact ⟨rfl, rfl, Below.refl _ _⟩
    case round =>
      obtain ⟨rfl, rfl, hb⟩ := hrel
      go_wp2
      go_ret
      exact ⟨by rw [HD.out]; rfl, hb⟩

/-- One member of a row of the call's own, set. -/
theorem OwnM.set {w : World} {B g n cap i : Nat} {L : List M} (h : OwnM w B (.slice (some ⟨g, 0, none⟩) n cap) L) (hi : i < L.length) (m : M) :
    OwnM ((w.setCell ⟨g, i * 2, none⟩ (.string ⟨m.name.toArray⟩)).setCell ⟨g, i * 2 + 1, none⟩ (.int .i64 m.power)) B (.slice (some ⟨g, 0, none⟩) n cap) (L.set i m) := by
  have hn : n = L.length := by
    obtain ⟨_, _, hv⟩ := own_form h
    simp at hv
    exact hv.2.1
  subst hn
  have h1 := (World.ownsRow.stored h (i * 2) (.string ⟨m.name.toArray⟩)).1
  have h2 := (World.ownsRow.stored h1 (i * 2 + 1) (.int .i64 m.power)).1
  unfold OwnM
  rw [List.length_set, ← mrows_set L i m hi]
  exact h2
end Go.Proofs.YtojpkodmpjibkaaDoor
