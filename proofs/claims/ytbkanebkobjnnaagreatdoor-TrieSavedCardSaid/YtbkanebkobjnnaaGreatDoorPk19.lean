/- TriUnlike, TriGrownMath, ShaLaid -/
import Derived.Test.YtbkanebkobjnnaaGreatDoorPk18
import Derived.Test.YtbkanebkobjnnaaGreatDoorPk10
import Derived.Test.YtbkanebkobjnnaaGreatDoorPk15
import Derived.BigQuiet
import Derived.Test.YtbkanebkobjnnaaGreatDoorPk02
import Derived.Test.YtbkanebkobjnnaaGreatDoorPk17
import Derived.Test.YtbkanebkobjnnaaGreatDoorRows
import Derived.Test.YtbkanebkobjnnaaGreatDoorPk08
import Derived.Lib.LaidU8
import Derived.LaidMore
import Derived.Stop.Joined
import Derived.ProofKit
namespace Go.Proofs.YtbkanebkobjnnaaGreatDoor
open Go.RowKit
open Sto (T St)

def sumsL (L : List T) : List T := L.map Sto.sumOf
theorem sumsL_take {L : List T} {k : Nat} (h : k < L.length) : sumsL (L.take (k + 1)) = sumsL (L.take k) ++ [Sto.sumOf L[k]] := by
  unfold sumsL
  rw [List.take_succ_eq_append_getElem h, List.map_append]; rfl
theorem sumsL_len (L : List T) : (sumsL L).length = L.length := List.length_map ..
theorem sumsL_at (L : List T) (i : Nat) (h : i < L.length) : (sumsL L)[i]'(by rw [sumsL_len]; exact h) = Sto.sumOf L[i] := List.getElem_map ..
def BadAt (Z L : List T) (i k : Nat) : Prop := Z[i]? = Z[k]? ∧ L[i]? ≠ L[k]?
theorem no_clash {L : List T} (h : ∀ (i k : Nat) (hi : i < L.length) (hk : k < i), ¬ (Sto.sumOf L[i] = Sto.sumOf (L[k]'(by omega)) ∧ L[i] ≠ L[k]'(by omega))) : ¬ Clash L := by
  rintro ⟨s, hs, t, ht, hne, he⟩
  obtain ⟨i, hi, rfl⟩ := List.mem_iff_getElem.1 hs
  obtain ⟨k, hk, rfl⟩ := List.mem_iff_getElem.1 ht
  rcases Nat.lt_trichotomy k i with h1 | h1 | h1
  · exact h i k hi h1 ⟨he, hne⟩
  · subst h1; exact hne rfl
  · exact h k i hk h1 ⟨he.symm, fun e => hne e.symm⟩
def UnlikePost (L : List T) (w : World) (e : Ending) (w' : World) : Prop := ∃ b : Bool, e = .returned (.bool b) ∧ (Clash L → b = true) ∧ Below w.heap.size w w'
theorem no_bad {L : List T} (h : ∀ i, i < L.length → ∀ k, k < i → ¬ BadAt (sumsL L) L i k) : ¬ Clash L := by
  refine no_clash fun i k hi hk hb => h i hi k hk ⟨?_, ?_⟩
  · have h1 := sumsL_at L i hi
    have h2 := sumsL_at L k (by omega)
    rw [List.getElem?_eq_getElem (by rw [sumsL_len]; exact hi), List.getElem?_eq_getElem (by rw [sumsL_len]; omega), h1, h2, hb.1]
  · rw [List.getElem?_eq_getElem hi, List.getElem?_eq_getElem (by omega)]
    exact fun e => hb.2 (Option.some.inj e)
set_option maxRecDepth 100000 in
set_option maxHeartbeats 4000000 in
theorem runlike_any (L : List T) (v : Value) (w : World) (hv : Strs w v L) (hl : L.length ≤ 100000) (hsh : ∀ x ∈ L, x.length ≤ 999) :
    Calls Tryz.prog 26 #[.int .i64 1, v] w (UnlikePost L w) := by
  obtain ⟨A, cap, rfl, hc⟩ := id hv
  have HV := Lib.hid hv
  have HL := Lib.hid hl
  have HTG : Hid (∀ k (h : k < L.length) w', Calls Tryz.prog 51 #[.int .i64 1, .string ⟨L[k].toArray⟩] w' fun e w'' => e = .returned (.string ⟨(Sto.sumOf L[k]).toArray⟩) ∧ Below w'.heap.size w' w'') := Lib.hid (fun k h w' => by
    have := rTagged_any 1 L[k] w' (hsh _ (List.getElem_mem h))
    unfold Sto.sumOf Dig.sum
    rw [if_pos (by decide)]
    exact this)
  have HB0 := Lib.hid (Below.refl w.heap.size w)
  have HN0 := Lib.hid (Own.nil w w.heap.size)
  clear hv hc hsh
  go_enter Tryz.func26, Tryz.ntmps26
  go_wp2
  go_loopw [5, 6] (fun av iv wr => ∃ (k : Nat) (u : Value), u = av ∧ k ≤ L.length ∧ iv = .int .i64 k ∧ Own wr w.heap.size u (sumsL (L.take k)) ∧ Below w.heap.size w wr) (fun _ i _ => L.length - (intOf i).toNat)
  case atStart => exact ⟨0, _, rfl, Nat.zero_le _, rfl, HN0.out, HB0.out⟩
  case round =>
    obtain ⟨k, u, rfl, hk, rfl, hu, hb0⟩ := hrel
    have HB := Lib.hid hb0
    have HU := Lib.hid hu
    by_cases hlt : k < L.length
    · have h1 : (k : Int) < (L.length : Int) := by omega
      have h0 : (0 : Int) ≤ (k : Int) := by omega
      have hnb : (k : Int) ≤ 100000 := by have := HL.out; omega
      obtain ⟨A', cap', hv', hc'⟩ := HV.out.below hb0
      obtain ⟨rfl, -⟩ : A = A' ∧ _ := by simpa using hv'
      obtain ⟨a, rfl, hcell⟩ := hc' k hlt
      have HTK := Lib.hid (sumsL_take hlt)
      have HTL : Hid ((sumsL (L.take k)).length ≤ 100000) := Lib.hid (by rw [sumsL_len, List.length_take]; exact Nat.le_trans (Nat.min_le_right _ _) HL.out)
      have HT := Lib.hid (HTG.out k hlt wr)
      obtain ⟨y, hy⟩ : ∃ y, L[k] = y := ⟨_, rfl⟩
      rw [hy] at hcell HT HTK
      obtain ⟨s, hs⟩ : ∃ s, Sto.sumOf y = s := ⟨_, rfl⟩
      rw [hs] at HTK HT
      clear hu hb0 hv' hc' hy hs
      go_wp2_with fail
      refine HT.out.mono ?_
      rintro e w1 ⟨rfl, hb1⟩
      obtain ⟨g5, c5, w5, r5, o5, b5⟩ := app_one s (HU.out.below hb1) HTL.out (bchain HB.out hb1).size
      have HR5 := Lib.hid r5
      have HO5 := Lib.hid o5
      have HB5 : Hid (Below w.heap.size w w5) := Lib.hid ((bchain HB.out hb1).trans b5)
      clear hb1 r5 o5 b5 hcell
      go_wp2_with (at_builtin; refine wpList_append_run rfl _ _ _ rfl u (.slice (some ⟨w1.heap.size, 0, none⟩) 1 1) _ (by rfl) (by rfl) HR5.out ?_)
      exact ⟨⟨k + 1, _, rfl, by omega, by go_num, by rw [HTK.out]; exact HO5.out, HB5.out⟩, by simp [intOf]; omega⟩
    · obtain rfl : k = L.length := by omega
      have h1 : ¬ ((L.length : Int) < (L.length : Int)) := by omega
      rw [List.take_length] at hu
      have HNB := Lib.hid (@no_bad L)
      have HSL : Hid ((sumsL L).length = L.length) := Lib.hid (sumsL_len L)
      obtain ⟨As, cs, rfl⟩ := own_form hu
      have HU2 := Lib.hid hu
      have HV2 := Lib.hid (HV.out.below hb0)
      obtain ⟨w1, rfl⟩ : ∃ y, y = wr := ⟨_, rfl⟩
      clear hu hb0
      rw [HSL.out]
      obtain ⟨Z, hZ⟩ : ∃ Z, sumsL L = Z := ⟨_, rfl⟩
      have HZS : Hid (Own w1 w.heap.size (.slice As Z.length cs) Z) := Lib.hid (by rw [← hZ]; exact HU2.out)
      rw [hZ] at HNB HSL
      have hzl : Z.length = L.length := HSL.out
      have hl1 := HL.out
      clear hZ HU HU2 HTG HN0 HB0
      go_wp2
      go_loopw [7] (fun iv wr => ∃ i : Nat, i ≤ L.length ∧ iv = .int .i64 i ∧ Below w1.heap.size w1 wr ∧ ∀ i', i' < i → ∀ k, k < i' → ¬ BadAt Z L i' k) (fun i _ => L.length - (intOf i).toNat)
      case atStart => exact ⟨0, Nat.zero_le _, rfl, Below.refl _ _, fun i' h => by omega⟩
      case round =>
        obtain ⟨i, hi, rfl, hb1, hg⟩ := hrel
        have HB1 := Lib.hid hb1
        have HG := Lib.hid hg
        obtain ⟨wo, rfl⟩ : ∃ y, y = wr := ⟨_, rfl⟩
        by_cases hlt : i < L.length
        · have h2 : (i : Int) < (L.length : Int) := by omega
          have h3 : (0 : Int) ≤ (i : Int) := by omega
          have hnb : (i : Int) ≤ 100000 := by omega
          clear hb1 hg
          go_wp2
          go_loopw [8] (fun kv wr => ∃ k : Nat, k ≤ i ∧ kv = .int .i64 k ∧ Below w1.heap.size w1 wr ∧ ∀ k', k' < k → ¬ BadAt Z L i k') (fun k _ => i - (intOf k).toNat)
          case atStart => exact ⟨0, Nat.zero_le _, rfl, HB1.out, fun k' h => by omega⟩
          case round =>
            obtain ⟨k, hk, rfl, hb2, hg2⟩ := hrel
            have HB2 := Lib.hid hb2
            have HG2 := Lib.hid hg2
            by_cases hlk : k < i
            · have k1 : (k : Int) < (i : Int) := by omega
              have k2 : (k : Int) < (L.length : Int) := by omega
              have k3 : (0 : Int) ≤ (k : Int) := by omega
              have knb : (k : Int) ≤ 100000 := by omega
              have hown := HZS.out.below hb2
              obtain ⟨a, ra, ci⟩ := hown.strs_at (Below.refl _ _) i (by omega)
              obtain ⟨a2, ra2, ck⟩ := hown.strs_at (Below.refl _ _) k (by omega)
              subst ra
              obtain rfl : a = a2 := by simpa using ra2
              obtain ⟨A', cap', hv', hc'⟩ := HV2.out.below hb2
              obtain ⟨rfl, -⟩ : A = A' ∧ _ := by simpa using hv'
              obtain ⟨b, rb, di⟩ := hc' i (by omega)
              obtain ⟨b2, rb2, dk⟩ := hc' k (by omega)
              subst rb
              obtain rfl : b = b2 := by simpa using rb2
              have HBA : Hid (BadAt Z L i k ↔ Z[i]'(by omega) = Z[k]'(by omega) ∧ L[i] ≠ L[k]'(by omega)) := Lib.hid (by
                unfold BadAt
                rw [List.getElem?_eq_getElem (by omega), List.getElem?_eq_getElem (by omega), List.getElem?_eq_getElem hlt, List.getElem?_eq_getElem (by omega)]
                simp)
              obtain ⟨zi, hzi⟩ : ∃ x, Z[i]'(by omega) = x := ⟨_, rfl⟩
              obtain ⟨zk, hzk⟩ : ∃ x, Z[k]'(by omega) = x := ⟨_, rfl⟩
              obtain ⟨li, hli⟩ : ∃ x, L[i] = x := ⟨_, rfl⟩
              obtain ⟨lk, hlk2⟩ : ∃ x, L[k]'(by omega) = x := ⟨_, rfl⟩
              rw [hzi] at ci
              rw [hzk] at ck
              rw [hli] at di
              rw [hlk2] at dk
              rw [hzi, hzk, hli, hlk2] at HBA
              clear hb2 hg2 hown ra2 hv' hc' rb2 hzi hzk hli hlk2
              by_cases ez : zi = zk
              · have e1 : (zi == zk) = true := by rw [beq_iff_eq]; exact ez
                have EZ := Lib.hid ez
                clear ez
                by_cases el : li = lk
                · have e2 : (li == lk) = true := by rw [beq_iff_eq]; exact el
                  have e3 : (li != lk) = false := by rw [el]; simp
                  have HNO : Hid (¬ BadAt Z L i k) := Lib.hid (fun h => (HBA.out.1 h).2 el)
                  clear el
                  go_wp2
                  go_quiet (fail)
                  go_wp2
                  go_roundw
                  case rel => exact ⟨k + 1, by omega, by go_num, bel_drewN HB2.out _, fun k' h => by
                    rcases Nat.lt_or_ge k' k with h2 | h2
                    · exact HG2.out k' h2
                    · obtain rfl : k' = k := by omega
                      exact HNO.out⟩
                  case measure => simp [intOf]; omega
                · have e2 : (li == lk) = false := by rw [beq_eq_false_iff_ne]; exact el
                  have e3 : (li != lk) = true := by rw [bne_iff_ne]; exact el
                  clear el
                  go_wp2
                  go_quiet (fail)
                  go_wp2
                  go_ret
                  exact ⟨true, rfl, fun _ => rfl, HB.out.trans (bel_drewN HB2.out _ |>.mono HB.out.size)⟩
              · have e1 : (zi == zk) = false := by rw [beq_eq_false_iff_ne]; exact ez
                have HNO : Hid (¬ BadAt Z L i k) := Lib.hid (fun h => ez (HBA.out.1 h).1)
                clear ez
                go_wp2
                go_quiet (fail)
                go_wp2
                go_roundw
                case rel => exact ⟨k + 1, by omega, by go_num, bel_drewN HB2.out _, fun k' h => by
                  rcases Nat.lt_or_ge k' k with h2 | h2
                  · exact HG2.out k' h2
                  · obtain rfl : k' = k := by omega
                    exact HNO.out⟩
                case measure => simp [intOf]; omega
            · obtain rfl : k = i := by omega
              have k1 : ¬ ((k : Int) < (k : Int)) := by omega
              clear hb2 hg2
              go_wp2
              go_roundw
              case rel => exact ⟨k + 1, by omega, by go_num, HB2.out, fun i' h => by
                rcases Nat.lt_or_ge i' k with h2 | h2
                · exact HG.out i' h2
                · obtain rfl : i' = k := by omega
                  exact HG2.out⟩
              case measure => simp [intOf]; omega
        · obtain rfl : i = L.length := by omega
          have h2 : ¬ ((L.length : Int) < (L.length : Int)) := by omega
          clear hb1 hg
          go_wp2
          go_ret
          exact ⟨false, rfl, fun h => absurd h (HNB.out HG.out), HB.out.trans (HB1.out.mono HB.out.size)⟩
end Go.Proofs.YtbkanebkobjnnaaGreatDoor
namespace Go.Proofs.YtbkanebkobjnnaaGreatDoor.Tri
open Sto (T St Rising keys)
open Go.Proofs.YtbkanebkobjnnaaGreatDoor.Nd (N)

theorem nil_spots (dg : N → T) (p : T) {t : Tr} (h : t.isNil) : t.spots dg p = [] ∧ t.sum dg = [] := by
  cases t with
  | nil => exact ⟨rfl, rfl⟩
  | _ => cases h
theorem spots_few (dg : N → T) {t : Tr} (h : t.canon) (p : T) : (t.spots dg p).length ≤ 3 * t.items.length := by
  by_cases hn : t.isNil
  · rw [(nil_spots dg p hn).1]; simp
  · have := (spots_len dg h hn p).1
    omega
end Go.Proofs.YtbkanebkobjnnaaGreatDoor.Tri
namespace Go.Proofs.YtbkanebkobjnnaaGreatDoor
open Go.ChangeShapes Go.WideShapes Go.ChangeAt Go.RowKit

theorem gK : Tryz.prog.globalNamed "pharos/sha.constants" = some 0 := by kernel_rfl
theorem tK : (Tryz.prog.globals[0]?).map (·.type) = some 163 := by kernel_rfl
theorem cK : Tryz.prog.cellsOf 163 = 64 := by kernel_rfl
theorem cW : Tryz.prog.cellsOf 122 = 1 := by kernel_rfl
def laidK : List (String × DataW Unit) := [("pharos/sha.constants", Rows.laid_pharos_sha_constants)]
theorem tab_of_laid {W : World} (h : laidMetH Tryz.prog laidK W) : Tab W := by
  rw [MakeChecks.laidMetH_plain _ _ _ (by kernel_rfl)] at h
  obtain ⟨g, t, cs, fuel, p, hg, hty, hvar, hd⟩ := Lib.laidMet.reads h (.head _)
  obtain rfl := Option.some.inj (gK.symm.trans hg)
  obtain rfl := Option.some.inj (tK.symm.trans hty)
  have hd' : DataW.trod (fun _ => ()) Tryz.prog W 0 (fun _ => true) false fuel 163 cs.toList = some (Lib.tabData .u32 Sha.kTab, p) := hd
  have hcs := Lib.cells_of_tab Tryz.underlying163 Tryz.underlying122 cW cK hd'
  intro i hi
  have hk : i < Sha.kTab.length := hi
  rw [World.var?_cell hg hvar i, ← Array.getElem?_toList, hcs]
  simp [hk]
/-- The door's own heap meets the condition. -/
theorem door_met (os : Os) (args : Array Value) : laidMetH Tryz.prog laidK ((World.doorLaid Tryz.prog 400 os).forCall (fun _ _ => 0) ⟨#[], args, []⟩).memory :=
  laidMetH_of_parts3 (fuel := 8) (laidMet_of_run' 8 (by kernel_rfl) (by kernel_rfl)) (by kernel_rfl) (by kernel_rfl)
end Go.Proofs.YtbkanebkobjnnaaGreatDoor
