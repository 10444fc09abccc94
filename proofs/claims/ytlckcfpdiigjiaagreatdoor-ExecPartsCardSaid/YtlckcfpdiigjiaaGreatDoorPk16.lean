/- TriWithT, TriDelT, ExecPost, ExecAcc -/
import Derived.Test.YtlckcfpdiigjiaaGreatDoorPk15
import Derived.Test.YtlckcfpdiigjiaaGreatDoorPk14
import Derived.Test.YtlckcfpdiigjiaaGreatDoorPk09
import Derived.Test.YtlckcfpdiigjiaaGreatDoorPk02
import Derived.Test.YtlckcfpdiigjiaaGreatDoorPk01
import Derived.Test.YtlckcfpdiigjiaaGreatDoorPk04
namespace Go.Proofs.YtlckcfpdiigjiaaGreatDoor
open Go.RowKit
open Sto (T St)
open Tri (Tr Ok upd ix hb lay splitT Trim rank)
open Go.Proofs.YtlckcfpdiigjiaaGreatDoor.Nd (N)

/-- What with of a trie answers. -/
def TWithPost (S : St) (k v : T) (F : Fm) (w : World) (e : Ending) (w' : World) : Prop :=
  ∃ z, e = .returned (.tuple #[z, .int .i64 (Tri.putC S k v)]) ∧ (Tri.putC S k v = 0 → ∃ g', z = ptr g' ∧ w.heap.size ≤ g' ∧ OpenAt w' F g' (Tri.put S k v)) ∧ (Tri.putC S k v ≠ 0 → z = nilp) ∧ Below w.heap.size w w'
theorem TWithPost.bad {S : St} {k v : T} {F : Fm} {w w' : World} {c : Nat} (h : Tri.putC S k v = c) (hc : c ≠ 0) (hb : Below w.heap.size w w') : TWithPost S k v F w (.returned (.tuple #[.pointer none, .int .i64 c])) w' := by
  subst h
  exact ⟨_, rfl, fun e => absurd e hc, fun _ => rfl, hb⟩
theorem TWithPost.good {S : St} {k v : T} {F : Fm} {w w' : World} {g' n : Nat} {top : Value} {t : Tr} (h : Tri.putC S k v = 0) (hg : w.heap.size ≤ g') (hr : TRow w' g' top n) (hn : n = (Tri.put S k v).length) (hp : PAt w' F false t top) (hs : TrS (Tri.put S k v) t) (hb : Below w.heap.size w w') : TWithPost S k v F w (.returned (.tuple #[.pointer (some ⟨g', 0, none⟩), .int .i64 0])) w' := by
  subst hn
  exact ⟨_, by rw [h]; rfl, fun _ => ⟨g', rfl, hg, top, t, hr, hp, hs⟩, fun e => absurd h e, hb⟩
set_option maxRecDepth 100000 in
set_option maxHeartbeats 1000000 in
theorem twith_good {g : Nat} {S : St} (k v : T) (w : World) (F : Fm) (hF : F.fresh w) (h : OpenAt w F g S) (hc : Tri.putC S k v = 0) :
    Calls Tryz.prog 58 #[ptr g, .string ⟨k.toArray⟩, .string ⟨v.toArray⟩] w (TWithPost S k v F w) := by
  obtain ⟨top, t, h1, h2, h3⟩ := h
  have hc0 := hc
  unfold Tri.putC at hc
  split at hc
  · rename_i hkk
    split at hc
    · rename_i hv
      obtain ⟨v1, v2, v3⟩ := hv
      have hkk2 : 1 ≤ k.length ∧ k.length ≤ 8 := by simpa [Tri.keyed] using hkk
      have HK := Lib.hid (fun w => iskey_any k w)
      rw [hkk] at HK
      have HOF := Lib.hid (fun w => of_any k w (by omega))
      have HFI : Hid (∀ w', Below w.heap.size w w' → Calls Tryz.prog 72 #[top, .string ⟨(Nib.ofL k).toArray⟩] w' fun e w'' => e = .returned (.string ⟨((Sto.look S k).getD []).toArray⟩) ∧ Below w'.heap.size w' w'') := Lib.hid (fun w' hb => by
        have := find_any (Nib.ofL k) w' (h2.below hb) h3.trim.firm (Tri.ofL_fit k) (by rw [Nib.ofL_length]; omega)
        rw [h3.find] at this
        exact this)
      have HCL := Lib.hid (fun w => dclone_any v w (by omega))
      have HWI : Hid (∀ w', Below w.heap.size w w' → Calls Tryz.prog 79 #[top, .string ⟨(Nib.ofL k).toArray⟩, .string ⟨v.toArray⟩] w' fun e w'' => ∃ g9, e = .returned (.pointer (some ⟨g9, 0, none⟩)) ∧ PAt w'' F false (t.put (Nib.ofL k) v) (.pointer (some ⟨g9, 0, none⟩)) ∧ Below w'.heap.size w' w'') := Lib.hid (fun w' hb =>
        (with_any (Nib.ofL k) v w' F (hF.size hb.size) (h2.below hb) h3.trim (Tri.ofL_fit k) (by rw [Nib.ofL_length]; omega)).mono fun e w'' ⟨v9, e1, hp, hb9⟩ => by
          obtain ⟨g9, rfl⟩ := hp.ptr (Tri.put_nn _ _ _)
          exact ⟨g9, e1, hp, hb9⟩)
      have HTS := Lib.hid (h3.put hc0)
      have HCC := Lib.hid hc0
      have HPN := Lib.hid (Tri.put_len S k v)
      have HAL := Lib.hid (Tri.at_look h3.rise k)
      have HT : Hid (∀ w', Below w.heap.size w w' → w'.cell? ⟨g, 0, none⟩ = some top ∧ w'.cell? ⟨g, 1, none⟩ = some (.int .i64 S.length)) := Lib.hid (fun w' hb => ⟨(h1.below hb).top, (h1.below hb).num⟩)
      obtain ⟨P, hP⟩ : ∃ P, Nib.ofL k = P := ⟨_, rfl⟩
      rw [hP] at HOF HFI HWI HTS
      have hve : (v == []) = false := by rw [beq_eq_false_iff_ne]; intro e; subst e; simp at v1
      have hvl : ¬ ((v.length : Int) > 32) := by omega
      have hvl2 : decide ((32 : Int) < (v.length : Int)) = false := decide_eq_false (by omega)
      have hvl3 : decide (32 < v.length) = false := decide_eq_false (by omega)
      unfold ptr
      have BD : Below w.heap.size w w.drew := (Below.refl _ _).drew
      obtain ⟨c0, c1⟩ := HT.out _ BD
      have hfew := h3.few
      have hlen : ∀ (n : Nat), n = (Tri.put S k v).length → n ≤ 1024 := fun n hn => by rw [hn]; exact HTS.out.few
      cases hl : Sto.look S k with
      | some y =>
        have hye : (y == []) = false := by rw [beq_eq_false_iff_ne]; exact h3.look_ne hl
        have hpl : S.length = (Tri.put S k v).length := by
          rw [HPN.out, if_pos (by rw [HAL.out, hl]; rfl)]; omega
        have HPL := Lib.hid hpl
        have hgt : ¬ ((S.length : Int) > 1024) := by omega
        have hgt2 : ¬ ((1024 : Int) < (S.length : Int)) := by omega
        rw [hl, Option.getD_some] at HFI
        clear h1 h2 h3 hkk hP hkk2 v1 v2 v3 hc hc0 HPN HAL hl hfew hlen hpl
        go_enter Tryz.func58, Tryz.ntmps58
        go_wp2_with fail
        refine (HK.out _).mono ?_
        rintro e w1 ⟨rfl, rfl⟩
        go_upto_region 5 with fail
        go_region_held3 (fun w' => w'.cell? ⟨g, 1, none⟩ = some (.int .i64 S.length))
          ((first | (with_reducible assumption) | (refine (HT.out _ ?_).2; with_reducible assumption)))
          ((go_at_call 73; refine (HOF.out _).mono ?_; rintro e w6 ⟨rfl, hb6⟩; have hb6' := bchain BD hb6))
        all_goals
          obtain ⟨d0, d1⟩ := HT.out _ hb6'
          go_wp2_with fail
          refine (HFI.out _ hb6').mono ?_
          rintro e w7 ⟨rfl, hb7⟩
          have hb7' := bchain hb6' hb7
          have BD7 : Below w.heap.size w w7.drew := hb7'.drew
          go_upto_region 10 with fail
          obtain ⟨e0, e1⟩ := HT.out _ BD7
          clear c0 c1 d0 d1
          go_region_held3 (fun w' => w'.cell? ⟨g, 0, none⟩ = some top)
            ((first | (with_reducible assumption) | (refine (HT.out _ ?_).1; with_reducible assumption) | (refine (HT.out _ ?_).1; refine Below.alloc ?_ ?_ _; (with_reducible assumption); (with_reducible exact hs9))))
            (first | (go_at_call 31; refine (HCL.out _).mono ?_; rintro e w8 ⟨rfl, hb8⟩; have hb8' := bchain BD7 hb8) | (go_at_call 79; refine (HWI.out _ ?_).mono ?_; (with_reducible exact hb8'); rintro e w9 ⟨g9, rfl, hp9, hb9⟩; have hb9' := bchain hb8' hb9; have hs9 := hb9'.size))
          all_goals
            go_wp2
            go_ret2
            have hba := hb9'.alloc hs9 (.cells #[.pointer (some ⟨g9, 0, none⟩), .int .i64 S.length] 83)
            exact TWithPost.good HCC.out hs9 (heap_alloc_new w9 _) HPL.out (hp9.below ((Below.refl _ w9).alloc (Nat.le_refl _) _)) HTS.out hba
      | none =>
        have hpl : S.length + 1 = (Tri.put S k v).length := by
          rw [HPN.out, if_neg (by rw [HAL.out, hl]; simp)]
        have z8 : IntKind.i64.wrap ((S.length : Int) + 1) = (S.length : Int) + 1 := IntWalk.i64_in _ (by omega)
        have hl1 := hlen _ hpl
        have HPL := Lib.hid hpl
        have hgt : ¬ ((S.length : Int) + 1 > 1024) := by omega
        have hgt2 : ¬ ((1024 : Int) < (S.length : Int) + 1) := by omega
        rw [hl, Option.getD_none] at HFI
        clear hl1 h1 h2 h3 hkk hP hkk2 v1 v2 v3 hc hc0 HPN HAL hl hfew hlen hpl
        go_enter Tryz.func58, Tryz.ntmps58
        go_wp2_with fail
        refine (HK.out _).mono ?_
        rintro e w1 ⟨rfl, rfl⟩
        go_upto_region 5 with fail
        go_region_held3 (fun w' => w'.cell? ⟨g, 1, none⟩ = some (.int .i64 S.length))
          ((first | (with_reducible assumption) | (refine (HT.out _ ?_).2; with_reducible assumption)))
          ((go_at_call 73; refine (HOF.out _).mono ?_; rintro e w6 ⟨rfl, hb6⟩; have hb6' := bchain BD hb6))
        all_goals
          obtain ⟨d0, d1⟩ := HT.out _ hb6'
          go_wp2_with fail
          refine (HFI.out _ hb6').mono ?_
          rintro e w7 ⟨rfl, hb7⟩
          have hb7' := bchain hb6' hb7
          have BD7 : Below w.heap.size w w7.drew := hb7'.drew
          go_upto_region 10 with fail
          obtain ⟨e0, e1⟩ := HT.out _ BD7
          clear c0 c1 d0 d1
          go_region_held3 (fun w' => w'.cell? ⟨g, 0, none⟩ = some top)
            ((first | (with_reducible assumption) | (refine (HT.out _ ?_).1; with_reducible assumption) | (refine (HT.out _ ?_).1; refine Below.alloc ?_ ?_ _; (with_reducible assumption); (with_reducible exact hs9))))
            (first | (go_at_call 31; refine (HCL.out _).mono ?_; rintro e w8 ⟨rfl, hb8⟩; have hb8' := bchain BD7 hb8) | (go_at_call 79; refine (HWI.out _ ?_).mono ?_; (with_reducible exact hb8'); rintro e w9 ⟨g9, rfl, hp9, hb9⟩; have hb9' := bchain hb8' hb9; have hs9 := hb9'.size))
          all_goals
            go_wp2
            go_ret2
            have hba := hb9'.alloc hs9 (.cells #[.pointer (some ⟨g9, 0, none⟩), .int .i64 ((S.length + 1 : Nat) : Int)] 83)
            exact TWithPost.good HCC.out hs9 (heap_alloc_new w9 _) HPL.out (hp9.below ((Below.refl _ w9).alloc (Nat.le_refl _) _)) HTS.out hba
    · cases hc
  · cases hc
set_option maxRecDepth 100000 in
set_option maxHeartbeats 1000000 in
theorem twith_any {g : Nat} {S : St} (k v : T) (w : World) (F : Fm) (hF : F.fresh w) (h : OpenAt w F g S) :
    Calls Tryz.prog 58 #[ptr g, .string ⟨k.toArray⟩, .string ⟨v.toArray⟩] w (TWithPost S k v F w) := by
  have HK := Lib.hid (fun w => iskey_any k w)
  cases hk : Tri.keyed k with
  | false =>
    rw [hk] at HK
    have HC := Lib.hid (Tri.putC_no (S := S) (y := v) hk)
    unfold ptr
    clear h hk
    go_enter Tryz.func58, Tryz.ntmps58
    go_wp2_with fail
    refine (HK.out _).mono ?_
    rintro e w1 ⟨rfl, rfl⟩
    go_wp2
    go_ret2
    exact TWithPost.bad HC.out (by decide) (Below.refl _ _)
  | true =>
    rw [hk] at HK
    by_cases hok : 1 ≤ v.length ∧ v.length ≤ 32 ∧ (Tri.at_ S k = true ∨ S.length < 1024)
    · exact twith_good k v w F hF h (Tri.putC_ok hk hok)
    · have HC := Lib.hid (Tri.putC_bad (S := S) (y := v) hk hok)
      by_cases hv0 : v = []
      · subst hv0
        unfold ptr
        clear h hk hok
        go_enter Tryz.func58, Tryz.ntmps58
        go_wp2_with fail
        refine (HK.out _).mono ?_
        rintro e w1 ⟨rfl, rfl⟩
        go_wp2
        go_ret2
        exact TWithPost.bad HC.out (by decide) (Below.refl _ _)
      · have hve : (v == []) = false := by rw [beq_eq_false_iff_ne]; exact hv0
        have hv1 : 1 ≤ v.length := List.length_pos_iff.2 hv0
        by_cases hv2 : v.length ≤ 32
        · obtain ⟨top, t, h1, h2, h3⟩ := h
          have hno : ¬ (Tri.at_ S k = true ∨ S.length < 1024) := fun e => hok ⟨hv1, hv2, e⟩
          have hl : Sto.look S k = none := by
            have := Tri.at_look h3.rise k
            cases hl : Sto.look S k with
            | none => rfl
            | some y => exact absurd (Or.inl (by rw [this, hl]; rfl)) hno
          have hfew : S.length = 1024 := by
            have := h3.few
            have : ¬ S.length < 1024 := fun e => hno (Or.inr e)
            omega
          have hx8 : k.length ≤ 8 := by simp [Tri.keyed] at hk; omega
          have HOF := Lib.hid (fun w => of_any k w (by omega))
          have HFI : Hid (∀ w', Below w.heap.size w w' → Calls Tryz.prog 72 #[top, .string ⟨(Nib.ofL k).toArray⟩] w' fun e w'' => e = .returned (.string ⟨#[]⟩) ∧ Below w'.heap.size w' w'') := Lib.hid (fun w' hb => by
            have := find_any (Nib.ofL k) w' (h2.below hb) h3.trim.firm (Tri.ofL_fit k) (by rw [Nib.ofL_length]; omega)
            rw [h3.find, hl] at this
            exact this)
          have HT : Hid (∀ w', Below w.heap.size w w' → w'.cell? ⟨g, 0, none⟩ = some top ∧ w'.cell? ⟨g, 1, none⟩ = some (.int .i64 1024)) := Lib.hid (fun w' hb => ⟨(h1.below hb).top, by have := (h1.below hb).num; rw [hfew] at this; exact this⟩)
          obtain ⟨P, hP⟩ : ∃ P, Nib.ofL k = P := ⟨_, rfl⟩
          rw [hP] at HOF HFI
          have BD : Below w.heap.size w w.drew := (Below.refl _ _).drew
          obtain ⟨c0, c1⟩ := HT.out _ BD
          have hvl2 : decide ((32 : Int) < (v.length : Int)) = false := decide_eq_false (by omega)
          have hvl3 : decide (32 < v.length) = false := decide_eq_false (by omega)
          have hvl : ¬ ((v.length : Int) > 32) := by omega
          unfold ptr
          clear h1 h2 h3 hk hP hl hno hok hfew hv0 hv1 hv2 hx8
          go_enter Tryz.func58, Tryz.ntmps58
          go_wp2_with fail
          refine (HK.out _).mono ?_
          rintro e w1 ⟨rfl, rfl⟩
          go_upto_region 5 with fail
          go_region_held3 (fun w' => w'.cell? ⟨g, 1, none⟩ = some (.int .i64 1024))
            ((first | (with_reducible assumption) | (refine (HT.out _ ?_).2; with_reducible assumption)))
            ((go_at_call 73; refine (HOF.out _).mono ?_; rintro e w6 ⟨rfl, hb6⟩; have hb6' := bchain BD hb6))
          all_goals
            obtain ⟨d0, d1⟩ := HT.out _ hb6'
            go_wp2_with fail
            refine (HFI.out _ hb6').mono ?_
            rintro e w7 ⟨rfl, hb7⟩
            have hb7' := bchain hb6' hb7
            go_wp2
            go_ret2
            exact TWithPost.bad HC.out (by decide) hb7'
        · have hvl : (v.length : Int) > 32 := by omega
          have hvl2 : decide ((32 : Int) < (v.length : Int)) = true := decide_eq_true (by omega)
          have hvl3 : decide (32 < v.length) = true := decide_eq_true (by omega)
          unfold ptr
          clear h hk hok hv0 hv1 hv2
          go_enter Tryz.func58, Tryz.ntmps58
          go_wp2_with fail
          refine (HK.out _).mono ?_
          rintro e w1 ⟨rfl, rfl⟩
          go_wp2
          go_ret2
          exact TWithPost.bad HC.out (by decide) (Below.refl _ _)
def TPutPost (S : St) (k v : T) (w : World) (e : Ending) (w' : World) : Prop :=
  ∃ z, e = .returned (.tuple #[z, .int .i64 (Tri.putC S k v)]) ∧ (Tri.putC S k v = 0 → ∃ g', z = ptr g' ∧ TrAt w' g' (Tri.put S k v)) ∧ (Tri.putC S k v ≠ 0 → z = nilp) ∧ Below w.heap.size w w'
theorem TPutPost.bad {S : St} {k v : T} {w w' : World} {c : Nat} (h : Tri.putC S k v = c) (hc : c ≠ 0) (hb : Below w.heap.size w w') : TPutPost S k v w (.returned (.tuple #[.pointer none, .int .i64 c])) w' := by
  subst h
  exact ⟨_, rfl, fun e => absurd e hc, fun _ => rfl, hb⟩
theorem TPutPost.good {S : St} {k v : T} {w w' : World} {g' : Nat} (h : Tri.putC S k v = 0) (ht : TrAt w' g' (Tri.put S k v)) (hb : Below w.heap.size w w') : TPutPost S k v w (.returned (.tuple #[.pointer (some ⟨g', 0, none⟩), .int .i64 0])) w' :=
  ⟨_, by rw [h]; rfl, fun _ => ⟨g', rfl, ht⟩, fun e => absurd h e, hb⟩
set_option maxRecDepth 100000 in
set_option maxHeartbeats 1000000 in
theorem tput_any {g : Nat} {S : St} (k v : T) (w : World) (h : TrAt w g S) (hT : Tab w) :
    Calls Tryz.prog 28 #[ptr g, .string ⟨k.toArray⟩, .string ⟨v.toArray⟩] w (TPutPost S k v w) := by
  have HW := Lib.hid (twith_any k v w (Fm.from w.heap.size) (fun g hg _ => hg) (h.open w.heap.size))
  have HT := Lib.hid hT
  unfold TWithPost ptr at HW
  unfold ptr
  obtain ⟨c, hc⟩ : ∃ c, Tri.putC S k v = c := ⟨_, rfl⟩
  rw [hc] at HW
  have HCC := Lib.hid hc
  clear h hT hc
  go_enter Tryz.func28, Tryz.ntmps28
  go_wp2_with fail
  refine HW.out.mono ?_
  rintro e w1 ⟨z, rfl, hz1, hz0, hb1⟩
  have HB1 := Lib.hid hb1
  by_cases hc0 : c = 0
  · obtain ⟨g', rfl, hg', top, t, hr, hp, hs⟩ := hz1 hc0
    subst hc0
    have HSE := Lib.hid (seal_to t top w1 w.heap.size HT.out.pos hb1.size (HT.out.below hb1) hs.ok hp)
    have HR := Lib.hid hr
    have HS := Lib.hid hs
    have m0 := hr.top
    clear hz1 hz0 hb1 hr hp hs hg'
    go_wp2_with fail
    refine HSE.out.mono ?_
    rintro e w2 ⟨rfl, hp2, hk2, hb2⟩
    have HP2 := Lib.hid hp2
    have HR2 : Hid (TRow w2 g' top (Tri.put S k v).length) := Lib.hid (hk2.2.2 _ _ _ _ (by decide) HR.out)
    have HB2 := Lib.hid (HB1.out.trans hb2)
    clear hp2 hk2 hb2
    go_wp2
    go_ret2
    exact TPutPost.good HCC.out ⟨top, t, HR2.out, HP2.out.sealed (fun _ _ e => by cases e) true, HS.out⟩ HB2.out
  · have e0 : ((c : Int) == 0) = false := by rw [beq_eq_false_iff_ne]; omega
    have e1 : z = .pointer none := hz0 hc0
    subst e1
    have HC := Lib.hid hc0
    clear hz1 hz0 hb1 hc0
    go_wp2
    go_ret2
    exact TPutPost.bad HCC.out HC.out HB1.out
end Go.Proofs.YtlckcfpdiigjiaaGreatDoor
namespace Go.Proofs.YtlckcfpdiigjiaaGreatDoor
open Go.RowKit
open Sto (T St)
open Tri (Tr Ok upd ix hb lay splitT Trim rank)
open Go.Proofs.YtlckcfpdiigjiaaGreatDoor.Nd (N)

def TDelPost (S : St) (k : T) (w : World) (e : Ending) (w' : World) : Prop :=
  ∃ z, e = .returned (.tuple #[z, .int .i64 (Tri.getC S k).2]) ∧ ((Tri.getC S k).2 = 0 → ∃ g', z = ptr g' ∧ TrAt w' g' (Tri.del S k)) ∧ ((Tri.getC S k).2 ≠ 0 → z = nilp) ∧ Below w.heap.size w w'
theorem TDelPost.bad {S : St} {k : T} {w w' : World} (hc : (Tri.getC S k).2 ≠ 0) (hb : Below w.heap.size w w') : TDelPost S k w (.returned (.tuple #[.pointer none, .int .i64 (Tri.getC S k).2])) w' := ⟨_, rfl, fun e => absurd e hc, fun _ => rfl, hb⟩
theorem TDelPost.good {S : St} {k : T} {w w' : World} {g' : Nat} (h : (Tri.getC S k).2 = 0) (ht : TrAt w' g' (Tri.del S k)) (hb : Below w.heap.size w w') : TDelPost S k w (.returned (.tuple #[.pointer (some ⟨g', 0, none⟩), .int .i64 0])) w' :=
  ⟨_, by rw [h]; rfl, fun _ => ⟨g', rfl, ht⟩, fun e => absurd h e, hb⟩
theorem getC_zero {S : St} {k : T} (h : (Tri.getC S k).2 = 0) : Tri.keyed k = true ∧ Sto.look S k ≠ none := by
  unfold Tri.getC at h
  split at h
  · rename_i hk
    split at h
    · rename_i y hy; exact ⟨hk, by rw [hy]; simp⟩
    · cases h
  · cases h
set_option maxRecDepth 100000 in
theorem tdel_bad {g : Nat} {S : St} (k : T) (w : World) (h : TrAt w g S) (hc : (Tri.getC S k).2 ≠ 0) :
    Calls Tryz.prog 67 #[ptr g, .string ⟨k.toArray⟩] w (TDelPost S k w) := by
  have HG := Lib.hid (tget_any k w h)
  have HC := Lib.hid hc
  obtain ⟨x, c, hx⟩ : ∃ x c, Tri.getC S k = (x, c) := ⟨_, _, rfl⟩
  have HX := Lib.hid hx
  rw [hx] at hc HG
  have e0 : ((c : Int) == 0) = false := by rw [beq_eq_false_iff_ne]; simp only at hc; omega
  unfold ptr at HG ⊢
  clear h hc hx
  go_enter Tryz.func67, Tryz.ntmps67
  go_wp2_with fail
  refine HG.out.mono ?_
  rintro e w1 ⟨rfl, hb1⟩
  go_wp2
  go_ret2
  have := TDelPost.bad HC.out hb1
  rw [HX.out] at this
  exact this
set_option maxRecDepth 100000 in
set_option maxHeartbeats 2000000 in
theorem tdel_some {g : Nat} {S : St} (k : T) (w : World) (h : TrAt w g S) (hT : Tab w) (hc : (Tri.getC S k).2 = 0) (hnl : ∀ t, TrS S t → ¬ (t.del (Nib.ofL k)).isNil) :
    Calls Tryz.prog 67 #[ptr g, .string ⟨k.toArray⟩] w (TDelPost S k w) := by
  have HG := Lib.hid (tget_any k w h)
  obtain ⟨top, t, h1, h2, h3⟩ := h
  have hnt := hnl t h3
  obtain ⟨hkk, hlk⟩ := getC_zero hc
  have hx8 : k.length ≤ 8 := by simp [Tri.keyed] at hkk; omega
  have HOF := Lib.hid (fun w => of_any k w (by omega))
  have hgt : t.get (Nib.ofL k) ≠ none := by rw [h3.tree.get h3.rise]; exact hlk
  have HWI : Hid (∀ w', Below w.heap.size w w' → Calls Tryz.prog 84 #[top, .string ⟨(Nib.ofL k).toArray⟩] w' fun e w'' => ∃ g9, e = .returned (.pointer (some ⟨g9, 0, none⟩)) ∧ PAt w'' (Fm.from w.heap.size) false (t.del (Nib.ofL k)) (.pointer (some ⟨g9, 0, none⟩)) ∧ Below w'.heap.size w' w'') := Lib.hid (fun w' hb =>
    (without_to t top (Nib.ofL k) w' (Fm.from w.heap.size) (fun g hg _ => Nat.le_trans hb.size hg) ((h2.sealed (fun _ _ e => by cases e) false).below hb) h3.tree.1 h3.tree.2.1 h3.within (Tri.ofL_fit k) (by rw [Nib.ofL_length]; omega) hgt).mono fun e w'' ⟨v9, e1, hp, hb9⟩ => by
      obtain ⟨g9, rfl⟩ := hp.ptr hnt
      exact ⟨g9, e1, hp, hb9⟩)
  have HTS := Lib.hid (h3.del hlk)
  have hat : Tri.at_ S k = true := by rw [Tri.at_look h3.rise]; cases hl : Sto.look S k with | none => exact absurd hl hlk | some v => rfl
  have hdl := Tri.del_len h3.rise k hat
  obtain ⟨n, hn⟩ : ∃ n, (Tri.del S k).length = n := ⟨_, rfl⟩
  rw [hn] at hdl
  have hfew := h3.few
  have HT : Hid (∀ w', Below w.heap.size w w' → w'.cell? ⟨g, 0, none⟩ = some top ∧ w'.cell? ⟨g, 1, none⟩ = some (.int .i64 ((n : Int) + 1))) := Lib.hid (fun w' hb => ⟨(h1.below hb).top, by have := (h1.below hb).num; rw [← hdl] at this; exact this⟩)
  have z8 : IntKind.i64.wrap ((n : Int) + 1 - 1) = (n : Int) := (IntWalk.i64_in ((n : Int) + 1 - 1) (by omega)).trans (by omega)
  have z9 : IntKind.i64.wrap ((n : Int)) = (n : Int) := IntWalk.i64_in _ (by omega)
  obtain ⟨P, hP⟩ : ∃ P, Nib.ofL k = P := ⟨_, rfl⟩
  rw [hP] at HOF HWI HTS
  have HTB := Lib.hid hT
  have HN := Lib.hid hn
  have HCC := Lib.hid hc
  obtain ⟨x, hx⟩ : ∃ x, Tri.getC S k = (x, 0) := ⟨(Tri.getC S k).1, by rw [← hc]⟩
  rw [hx] at HG
  unfold ptr at HG ⊢
  have hqq : w.heap.size ≤ w.heap.size := Nat.le_refl _
  clear h1 h2 h3 hkk hlk hx8 hP hgt hat hdl hfew hT hn hx hc hnl hnt hqq
  go_enter Tryz.func67, Tryz.ntmps67
  go_wp2_with fail
  refine HG.out.mono ?_
  rintro e w1 ⟨rfl, hb1⟩
  have HB1 := Lib.hid hb1
  go_upto_region 4 with fail
  have BD : Below w.heap.size w w1.drew := HB1.out.drew
  obtain ⟨c0, c1⟩ := HT.out _ BD
  clear hb1
  go_region_held3 (fun w' => w'.cell? ⟨g, 0, none⟩ = some top ∧ w'.cell? ⟨g, 1, none⟩ = some (.int .i64 ((n : Int) + 1)))
    ((first | (with_reducible exact ⟨c0, c1⟩) | (refine HT.out _ ?_; with_reducible assumption) | (refine HT.out _ ?_; refine Below.alloc ?_ ?_ _; (with_reducible assumption); (with_reducible exact hs9))))
    (first | (go_at_call 73; refine (HOF.out _).mono ?_; rintro e w6 ⟨rfl, hb6⟩; have hb6' := bchain BD hb6) | (go_at_call 84; refine (HWI.out _ ?_).mono ?_; (with_reducible exact hb6'); rintro e w9 ⟨g9, rfl, hp9, hb9⟩; have hb9' := bchain hb6' hb9; have hs9 := hb9'.size))
  all_goals
    have hba := hb9'.alloc hs9 (.cells #[(.pointer (some ⟨g9, 0, none⟩)), .int .i64 n] 83)
    have hr : TRow (w9.alloc (.cells #[(.pointer (some ⟨g9, 0, none⟩)), .int .i64 n] 83)) w9.heap.size (.pointer (some ⟨g9, 0, none⟩)) n := heap_alloc_new w9 _
    have hp := hp9.below ((Below.refl _ w9).alloc (Nat.le_refl _) (.cells #[(.pointer (some ⟨g9, 0, none⟩)), .int .i64 n] 83))
    have HSE := Lib.hid (seal_to _ _ _ w.heap.size HTB.out.pos hba.size (HTB.out.below hba) HTS.out.ok hp)
    have HR := Lib.hid hr
    have HBA := Lib.hid hba
    have m0 := hr.top
    clear hr hp hba
    go_wp2_with fail
    refine HSE.out.mono ?_
    rintro e w2 ⟨rfl, hp2, hk2, hb2⟩
    have HP2 := Lib.hid hp2
    have HR2 : Hid (TRow w2 w9.heap.size (.pointer (some ⟨g9, 0, none⟩)) (Tri.del S k).length) := Lib.hid (by rw [HN.out]; exact hk2.2.2 _ _ _ _ (by decide) HR.out)
    have HB2 := Lib.hid (HBA.out.trans hb2)
    clear hp2 hk2 hb2
    go_wp2
    go_ret2
    exact TDelPost.good HCC.out ⟨_, _, HR2.out, HP2.out.sealed (fun _ _ e => by cases e) true, HTS.out⟩ HB2.out
set_option maxRecDepth 100000 in
set_option maxHeartbeats 2000000 in
theorem tdel_none {g : Nat} {S : St} (k : T) (w : World) (h : TrAt w g S) (hT : Tab w) (hc : (Tri.getC S k).2 = 0) (hnl : ∀ t, TrS S t → (t.del (Nib.ofL k)).isNil) :
    Calls Tryz.prog 67 #[ptr g, .string ⟨k.toArray⟩] w (TDelPost S k w) := by
  have HG := Lib.hid (tget_any k w h)
  obtain ⟨top, t, h1, h2, h3⟩ := h
  have hnt := hnl t h3
  obtain ⟨hkk, hlk⟩ := getC_zero hc
  have hx8 : k.length ≤ 8 := by simp [Tri.keyed] at hkk; omega
  have HOF := Lib.hid (fun w => of_any k w (by omega))
  have hgt : t.get (Nib.ofL k) ≠ none := by rw [h3.tree.get h3.rise]; exact hlk
  have HWI : Hid (∀ w', Below w.heap.size w w' → Calls Tryz.prog 84 #[top, .string ⟨(Nib.ofL k).toArray⟩] w' fun e w'' => e = .returned (.pointer none) ∧ PAt w'' (Fm.from w.heap.size) false (t.del (Nib.ofL k)) (.pointer none) ∧ Below w'.heap.size w' w'') := Lib.hid (fun w' hb =>
    (without_to t top (Nib.ofL k) w' (Fm.from w.heap.size) (fun g hg _ => Nat.le_trans hb.size hg) ((h2.sealed (fun _ _ e => by cases e) false).below hb) h3.tree.1 h3.tree.2.1 h3.within (Tri.ofL_fit k) (by rw [Nib.ofL_length]; omega) hgt).mono fun e w'' ⟨v9, e1, hp, hb9⟩ => by
      have hv9 : v9 = .pointer none := by rw [Tri.isNil_eq hnt] at hp; exact hp
      subst hv9
      exact ⟨e1, hp, hb9⟩)
  have HTS := Lib.hid (h3.del hlk)
  have hat : Tri.at_ S k = true := by rw [Tri.at_look h3.rise]; cases hl : Sto.look S k with | none => exact absurd hl hlk | some v => rfl
  have hdl := Tri.del_len h3.rise k hat
  obtain ⟨n, hn⟩ : ∃ n, (Tri.del S k).length = n := ⟨_, rfl⟩
  rw [hn] at hdl
  have hfew := h3.few
  have HT : Hid (∀ w', Below w.heap.size w w' → w'.cell? ⟨g, 0, none⟩ = some top ∧ w'.cell? ⟨g, 1, none⟩ = some (.int .i64 ((n : Int) + 1))) := Lib.hid (fun w' hb => ⟨(h1.below hb).top, by have := (h1.below hb).num; rw [← hdl] at this; exact this⟩)
  have z8 : IntKind.i64.wrap ((n : Int) + 1 - 1) = (n : Int) := (IntWalk.i64_in ((n : Int) + 1 - 1) (by omega)).trans (by omega)
  have z9 : IntKind.i64.wrap ((n : Int)) = (n : Int) := IntWalk.i64_in _ (by omega)
  obtain ⟨P, hP⟩ : ∃ P, Nib.ofL k = P := ⟨_, rfl⟩
  rw [hP] at HOF HWI HTS
  have HTB := Lib.hid hT
  have HN := Lib.hid hn
  have HCC := Lib.hid hc
  obtain ⟨x, hx⟩ : ∃ x, Tri.getC S k = (x, 0) := ⟨(Tri.getC S k).1, by rw [← hc]⟩
  rw [hx] at HG
  unfold ptr at HG ⊢
  have hqq : w.heap.size ≤ w.heap.size := Nat.le_refl _
  clear h1 h2 h3 hkk hlk hx8 hP hgt hat hdl hfew hT hn hx hc hnl hnt hqq
  go_enter Tryz.func67, Tryz.ntmps67
  go_wp2_with fail
  refine HG.out.mono ?_
  rintro e w1 ⟨rfl, hb1⟩
  have HB1 := Lib.hid hb1
  go_upto_region 4 with fail
  have BD : Below w.heap.size w w1.drew := HB1.out.drew
  obtain ⟨c0, c1⟩ := HT.out _ BD
  clear hb1
  go_region_held3 (fun w' => w'.cell? ⟨g, 0, none⟩ = some top ∧ w'.cell? ⟨g, 1, none⟩ = some (.int .i64 ((n : Int) + 1)))
    ((first | (with_reducible exact ⟨c0, c1⟩) | (refine HT.out _ ?_; with_reducible assumption) | (refine HT.out _ ?_; refine Below.alloc ?_ ?_ _; (with_reducible assumption); (with_reducible exact hs9))))
    (first | (go_at_call 73; refine (HOF.out _).mono ?_; rintro e w6 ⟨rfl, hb6⟩; have hb6' := bchain BD hb6) | (go_at_call 84; refine (HWI.out _ ?_).mono ?_; (with_reducible exact hb6'); rintro e w9 ⟨rfl, hp9, hb9⟩; have hb9' := bchain hb6' hb9; have hs9 := hb9'.size))
  all_goals
    have hba := hb9'.alloc hs9 (.cells #[(.pointer none), .int .i64 n] 83)
    have hr : TRow (w9.alloc (.cells #[(.pointer none), .int .i64 n] 83)) w9.heap.size (.pointer none) n := heap_alloc_new w9 _
    have hp := hp9.below ((Below.refl _ w9).alloc (Nat.le_refl _) (.cells #[(.pointer none), .int .i64 n] 83))
    have HSE := Lib.hid (seal_to _ _ _ w.heap.size HTB.out.pos hba.size (HTB.out.below hba) HTS.out.ok hp)
    have HR := Lib.hid hr
    have HBA := Lib.hid hba
    have m0 := hr.top
    clear hr hp hba
    go_wp2_with fail
    refine HSE.out.mono ?_
    rintro e w2 ⟨rfl, hp2, hk2, hb2⟩
    have HP2 := Lib.hid hp2
    have HR2 : Hid (TRow w2 w9.heap.size (.pointer none) (Tri.del S k).length) := Lib.hid (by rw [HN.out]; exact hk2.2.2 _ _ _ _ (by decide) HR.out)
    have HB2 := Lib.hid (HBA.out.trans hb2)
    clear hp2 hk2 hb2
    go_wp2
    go_ret2
    exact TDelPost.good HCC.out ⟨_, _, HR2.out, HP2.out.sealed (fun _ _ e => by cases e) true, HTS.out⟩ HB2.out
theorem tdel_any {g : Nat} {S : St} (k : T) (w : World) (h : TrAt w g S) (hT : Tab w) :
    Calls Tryz.prog 67 #[ptr g, .string ⟨k.toArray⟩] w (TDelPost S k w) := by
  by_cases hc : (Tri.getC S k).2 = 0
  · have h0 := h
    obtain ⟨top, t, h1, h2, h3⟩ := h
    by_cases hn : (t.del (Nib.ofL k)).isNil
    · exact tdel_none k w h0 hT hc (fun u hu => by rw [hu.tree.one h3.tree]; exact hn)
    · exact tdel_some k w h0 hT hc (fun u hu => by rw [hu.tree.one h3.tree]; exact hn)
  · exact tdel_bad k w h hc
set_option maxRecDepth 100000 in
theorem troot_any {g n : Nat} {top : Value} {t : Tr} (w : World) (hr : TRow w g top n) (hp : PAt w (Fm.from 0) true t top) (ho : Ok t) :
    Calls Tryz.prog 25 #[ptr g] w fun e w' => e = .returned (.string ⟨(t.sum Nd.sumS).toArray⟩) ∧ Below w.heap.size w w' := by
  have m0 := hr.top
  by_cases hn : t.isNil
  · rw [Tri.isNil_eq hn] at hp ⊢
    have e : top = .pointer none := hp
    subst e
    unfold ptr
    clear hr hp
    go_enter Tryz.func25, Tryz.ntmps25
    go_wp2
    go_ret
    exact ⟨rfl, Below.refl _ _⟩
  · obtain ⟨g2, s', K, rfl, hs, -, h2, -⟩ := hp.row hn
    obtain rfl := hs rfl
    have m1 := h2.sum
    have HCL := Lib.hid (fun w => dclone_any (t.sum Nd.sumS) w (by rw [ho.sum_len hn]; omega))
    obtain ⟨X, hX⟩ : ∃ X, t.sum Nd.sumS = X := ⟨_, rfl⟩
    rw [if_pos rfl, hX] at m1
    rw [hX] at HCL ⊢
    unfold ptr at *
    clear hr h2 hX hn ho
    go_enter Tryz.func25, Tryz.ntmps25
    go_wp2_with fail
    refine (HCL.out _).mono ?_
    rintro e w1 ⟨rfl, hb⟩
    go_wp2
    go_ret
    exact ⟨rfl, hb⟩
end Go.Proofs.YtlckcfpdiigjiaaGreatDoor
namespace Go.Proofs.YtlckcfpdiigjiaaGreatDoor
open Go.RowKit
open Sto (T St)
open Go.Proofs.YtlckcfpdiigjiaaGreatDoor.Pw (M)
open Go.Proofs.YtlckcfpdiigjiaaGreatDoor.Exc (A)

/-- A state that was asked for: its code, and where it is. -/
def TEnd (c : Int) (R : St) (w : World) (e : Ending) (w' : World) : Prop := ∃ z, e = .returned (.tuple #[z, .int .i64 c]) ∧ (c = 0 → ∃ g, z = ptr g ∧ TrAt w' g R) ∧ (c ≠ 0 → z = nilp) ∧ Below w.heap.size w w'
theorem TEnd.bad {c : Int} {R : St} {w w' : World} (hc : c ≠ 0) (hb : Below w.heap.size w w') : TEnd c R w (.returned (.tuple #[.pointer none, .int .i64 c])) w' := ⟨_, rfl, fun e => absurd e hc, fun _ => rfl, hb⟩
theorem TEnd.good {R : St} {w w' : World} {g : Nat} (ht : TrAt w' g R) (hb : Below w.heap.size w w') : TEnd 0 R w (.returned (.tuple #[.pointer (some ⟨g, 0, none⟩), .int .i64 0])) w' := ⟨_, rfl, fun _ => ⟨g, rfl, ht⟩, fun e => absurd rfl e, hb⟩
theorem TEnd.ofPut {S : St} {k v : T} {w w' : World} {e : Ending} (h : TPutPost S k v w e w') : TEnd (Tri.putC S k v : Nat) (Tri.put S k v) w e w' := by
  obtain ⟨z, rfl, h1, h2, h3⟩ := h
  exact ⟨z, rfl, fun e => h1 (by omega), fun e => h2 (by omega), h3⟩
theorem TEnd.ofDel {S : St} {k : T} {w w' : World} {e : Ending} (h : TDelPost S k w e w') : TEnd ((Tri.getC S k).2 : Nat) (Tri.del S k) w e w' := by
  obtain ⟨z, rfl, h1, h2, h3⟩ := h
  exact ⟨z, rfl, fun e => h1 (by omega), fun e => h2 (by omega), h3⟩
theorem TEnd.from {c : Int} {R : St} {w0 w w' : World} {e : Ending} (h : TEnd c R w e w') (hb : Below w0.heap.size w0 w) : TEnd c R w0 e w' := by
  obtain ⟨z, rfl, h1, h2, h3⟩ := h
  exact ⟨z, rfl, h1, h2, bchain hb h3⟩
/-- A trie stays where an account's block alone is written. -/
theorem TrAt.acc {w w' : World} {g q : Nat} {S : St} {a : A} (h : TrAt w g S) (ho : Only q w w') (ha : AccAt w q a) : TrAt w' g S := by
  obtain ⟨top, t, h1, h2, h3⟩ := h
  have hn : ∀ {k : Nat} {cs : Array Value} {t : TypeId} {f : Nat × Nat}, w.heap[k]? = some (.cells cs t f) → t ≠ 55 → k ≠ q := fun hk ht e => by
    subst e
    rw [ha] at hk
    injection hk with hk
    injection hk with _ e2 _
    exact ht e2.symm
  exact ⟨top, t, (ho.block _ (lt_of_heap h1) (hn h1 (by decide))).trans h1, h2.change (fun _ _ _ h => h) fun g k p x K s s2 _ hr => (ho.block _ (lt_of_heap hr) (hn hr (by decide))).trans hr, h3⟩

theorem eisName_any (s : T) (w : World) : Calls Tryz.prog 41 #[.string ⟨s.toArray⟩] w fun r w' => r = .returned (.bool (Txn.nameB s)) ∧ w' = w := by
  have HN : Hid (Txn.nameB s = (!s.isEmpty && decide ((s.length : Int) ≤ 6))) := Lib.hid (by
    unfold Txn.nameB
    rw [show decide (s.length ≤ 6) = decide ((s.length : Int) ≤ 6) from decide_eq_decide.2 (by omega)]
    cases s <;> simp)
  obtain ⟨e1, he1⟩ : ∃ b, s.isEmpty = b := ⟨_, rfl⟩
  have f1 : (s == []) = e1 := by rw [← he1]; cases s <;> rfl
  have f2 : (s != []) = !e1 := by rw [← f1]; rfl
  obtain ⟨c2, h2⟩ : ∃ c, decide ((s.length : Int) ≤ 6) = c := ⟨_, rfl⟩
  have h3 : decide (s.length ≤ 6) = c2 := by rw [← h2]; exact decide_eq_decide.2 (by omega)
  rw [he1, h2] at HN
  cases e1 <;> cases c2 <;>
  · go_enter Tryz.func41, Tryz.ntmps41
    go_wp2
    go_ret
    exact ⟨by rw [HN.out]; rfl, rfl⟩
theorem eisAmount_any (n : Int) (w : World) : Calls Tryz.prog 46 #[.int .i64 n] w fun r w' => r = .returned (.bool (Exc.wi n)) ∧ w' = w := by
  have HN : Hid (Exc.wi n = (decide (0 ≤ n) && decide (n ≤ 1099511627776))) := Lib.hid rfl
  obtain ⟨c1, h1⟩ : ∃ c, decide (0 ≤ n) = c := ⟨_, rfl⟩
  obtain ⟨c2, h2⟩ : ∃ c, decide (n ≤ 1099511627776) = c := ⟨_, rfl⟩
  rw [h1, h2] at HN
  cases c1 <;> cases c2 <;>
  · go_enter Tryz.func46, Tryz.ntmps46
    go_wp2
    go_ret
    exact ⟨by rw [HN.out]; rfl, rfl⟩
theorem enumber_any (n : Nat) (hn : n < 2 ^ 63) (w : World) : Calls Tryz.prog 76 #[.int .i64 n] w fun r w' => r = .returned (.string ⟨(Code.numL n).toArray⟩) ∧ Below w.heap.size w w' := by
  have HN := Lib.hid (num_any n hn w)
  clear hn
  go_enter Tryz.func76, Tryz.ntmps76
  go_wp2_with fail
  refine HN.out.mono ?_
  rintro r w1 ⟨rfl, hb⟩
  have HB := Lib.hid hb
  clear hb
  go_wp2
  go_ret
  exact ⟨rfl, HB.out⟩
set_option maxRecDepth 100000 in
set_option maxHeartbeats 4000000 in
theorem eput_any {g : Nat} {S : St} (a : A) (w : World) (ht : TrAt w g S) (hT : Tab w) (ha : Exc.wi a.amt = true) (hs : Exc.wi a.seq = true) (hn : a.name.length ≤ 100) :
    Calls Tryz.prog 54 #[ptr g, accval a] w (TEnd (Tri.putC S (Exc.aK a.name) (Exc.valS a.amt a.seq) : Nat) (Tri.put S (Exc.aK a.name) (Exc.valS a.amt a.seq)) w) := by
  obtain ⟨w0, hw0, hb0, ra⟩ := acc_box a w
  have HB := Lib.hid hb0
  have HT0 := Lib.hid (ht.below hb0)
  have HTB := Lib.hid (hT.below hb0)
  obtain ⟨q0, hq0⟩ : ∃ q0, w.heap.size = q0 := ⟨_, rfl⟩
  rw [hq0] at ra
  have HA := Lib.hid ra
  have HQ0 := Lib.hid hq0
  obtain ⟨a1, a2⟩ := Exc.wi_of ha
  obtain ⟨s1, s2⟩ := Exc.wi_of hs
  obtain ⟨n, hn1⟩ : ∃ n : Nat, a.amt = (n : Int) := ⟨a.amt.toNat, by omega⟩
  obtain ⟨m, hm1⟩ : ∃ m : Nat, a.seq = (m : Int) := ⟨a.seq.toNat, by omega⟩
  have hn6 : n < 2 ^ 63 := by omega
  have hm6 : m < 2 ^ 63 := by omega
  have HNU : Hid (∀ (n : Nat) w', n < 2 ^ 63 → Below w0.heap.size w0 w' → Calls Tryz.prog 76 #[.int .i64 n] w' fun e w'' => e = .returned (.string ⟨(Code.numL n).toArray⟩) ∧ Below w0.heap.size w0 w'') := Lib.hid (fun n w' hs h => (enumber_any n hs w').mono fun e w'' ⟨p, q⟩ => ⟨p, bchain h q⟩)
  have HCC : Hid (∀ w', Below w0.heap.size w0 w' → w'.cell? ⟨q0, 0, none⟩ = some (.string ⟨a.name.toArray⟩) ∧ w'.cell? ⟨q0, 1, none⟩ = some (.int .i64 n) ∧ w'.cell? ⟨q0, 2, none⟩ = some (.int .i64 m)) := Lib.hid (fun w' h => by
    have h1 := (HA.out.below h).cells
    exact ⟨h1.1, by rw [h1.2.1, hn1], by rw [h1.2.2, hm1]⟩)
  have HV : Hid (Exc.valS a.amt a.seq = Code.numL n ++ Code.numL m) := Lib.hid (by unfold Exc.valS; rw [hn1, hm1]; rfl)
  have HPU : Hid (∀ w', Below w0.heap.size w0 w' → Calls Tryz.prog 28 #[ptr g, .string ⟨(Exc.aK a.name).toArray⟩, .string ⟨(Exc.valS a.amt a.seq).toArray⟩] w' (TEnd (Tri.putC S (Exc.aK a.name) (Exc.valS a.amt a.seq) : Nat) (Tri.put S (Exc.aK a.name) (Exc.valS a.amt a.seq)) w)) := Lib.hid (fun w' h => (tput_any _ _ w' (HT0.out.below h) (HTB.out.below h)).mono fun e w'' h2 => (TEnd.ofPut h2).from (bchain HB.out h))
  obtain ⟨RS, hRS⟩ : ∃ R, Tri.put S (Exc.aK a.name) (Exc.valS a.amt a.seq) = R := ⟨_, rfl⟩
  obtain ⟨C, hC⟩ : ∃ c, Tri.putC S (Exc.aK a.name) (Exc.valS a.amt a.seq) = c := ⟨_, rfl⟩
  rw [hRS, hC] at HPU ⊢
  rw [HV.out] at HPU
  have BD : Below w0.heap.size w0 w0.drew := (Below.refl _ _).drew
  have e1 := cat_mk (Code.numL n) (Code.numL m)
  have e2 := cat_mk [97, 58] a.name
  rw [show [97, 58] ++ a.name = Exc.aK a.name from rfl] at e2
  have hg2 : ¬ (9223372036854775807 < 2 + a.name.length) := by omega
  have hg3 : ¬ (9223372036854775807 < (Code.numL n).length + (Code.numL m).length) := by
    have := Code.numL_length n
    have := Code.numL_length m
    have := Code.sz_le8 n (by omega)
    have := Code.sz_le8 m (by omega)
    omega
  obtain ⟨c0, c1, c2⟩ := HCC.out _ (Below.refl _ _)
  rw [hn1, hm1] at hw0
  unfold accval ptr
  unfold ptr at HPU
  rw [hn1, hm1]
  clear hb0 ra hq0 ha hs a1 a2 s1 s2 hn1 hm1 hn ht hT hRS hC
  go_enter Tryz.func54, Tryz.ntmps54
  go_upto_region 1 with fail
  try rw [hw0]
  try rw [HQ0.out]
  clear hw0
  go_region_with (first | (go_at_call 76; refine (HNU.out _ _ (by with_reducible assumption) (by with_reducible assumption)).mono ?_; rintro r wa ⟨rfl, hba⟩; obtain ⟨b2, b3, b4⟩ := HCC.out _ hba) | (go_at_call 28; refine (HPU.out _ (by with_reducible assumption)).mono ?_; rintro r wb hpost; obtain ⟨zb, rfl, hz1, hz2, hbb⟩ := hpost))
  all_goals
    have HZ : Hid (TEnd (C : Nat) RS w (.returned (.tuple #[zb, .int .i64 (C : Nat)])) _) := Lib.hid ⟨zb, rfl, hz1, hz2, hbb⟩
    clear hz1 hz2 hbb
    go_wp2
    go_ret2
    exact HZ.out
end Go.Proofs.YtlckcfpdiigjiaaGreatDoor
namespace Go.Proofs.YtlckcfpdiigjiaaGreatDoor
open Go.RowKit
open Sto (T St)
open Go.Proofs.YtlckcfpdiigjiaaGreatDoor.Pw (M)
open Go.Proofs.YtlckcfpdiigjiaaGreatDoor.Exc (A)

theorem TrAt.vals {w : World} {g : Nat} {S : St} (h : TrAt w g S) : ∀ x ∈ S, x.2.length ≤ 32 := by
  obtain ⟨_, _, _, _, h3⟩ := h
  exact fun x hx => (h3.fair x hx).2.2.2
theorem Rd.off_ {g k : Nat} {w w' : World} {s : List UInt8} {c : Int} (h : Rd w g s c) (ho : Only k w w') (hne : g ≠ k) : Rd w' g s c := (ho.block g h.lt hne).trans h
set_option maxRecDepth 100000 in
set_option maxHeartbeats 8000000 in
theorem eaccount_any {gt : Nat} (S : St) (n : T) (w : World) (ht : TrAt w gt S) (hn1 : n.length ≤ 1000000) :
    Calls Tryz.prog 19 #[ptr gt, .string ⟨n.toArray⟩] w fun r w' => r = .returned (.tuple #[accval (Exc.acc S n).1, .int .i64 (Exc.acc S n).2]) ∧ Below w.heap.size w w' := by
  obtain ⟨w0, hw0, hb0, rp⟩ := acc_box Exc.A.zero w
  have HV := Lib.hid (ht.below hb0)
  have HP0 := Lib.hid rp
  have HB0 := Lib.hid hb0
  obtain ⟨p, hp⟩ : ∃ p, w.heap.size = p := ⟨_, rfl⟩
  rw [hp] at HP0
  have HLP := Lib.hid (Nat.le_of_eq hp)
  have HPE := Lib.hid hp
  have HW0 : Hid (w.alloc (.cells #[.string ⟨#[]⟩, .int .i64 0, .int .i64 0] 55) = w0) := Lib.hid hw0
  have HNA := Lib.hid (fun w' => eisName_any n w')
  have HCL := Lib.hid (fun w' => dclone_any n w' (by omega))
  have HGT := Lib.hid (fun w' h => tget_any (S := S) (g := gt) (Exc.aK n) w' h)
  have HGA := Lib.hid (fun h => Exc.getC_acc (S := S) (n := n) h)
  have HFV : Hid (∀ v, Sto.look S (Exc.aK n) = some v → v.length ≤ 32) := Lib.hid (fun v h => ht.vals _ ((Sto.look_mem ht.rise _ _).1 h))
  have HAC : Hid (Exc.acc S n = if Txn.nameB n = false then (Exc.A.zero, (1 : Int)) else match Sto.look S (Exc.aK n) with | none => ((⟨n, 0, 0⟩ : Exc.A), (0 : Int)) | some v => match Exc.told v with | none => (Exc.A.zero, (3 : Int)) | some (a, s) => ((⟨n, a, s⟩ : Exc.A), (0 : Int))) := Lib.hid (by unfold Exc.acc; rfl)
  have HNL : Hid (Txn.nameB n = true → n.length ≤ 6) := Lib.hid (fun h => by simp only [Txn.nameB, Bool.and_eq_true, decide_eq_true_eq] at h; exact h.2)
  unfold ptr at HGT ⊢
  clear ht hb0 rp hw0 hp hn1
  go_enter Tryz.func19, Tryz.ntmps19
  go_upto_region 1 with fail
  try rw [HW0.out]
  try rw [HPE.out]
  go_wp2_with fail
  refine (HNA.out _).mono ?_
  rintro r w1 ⟨rfl, hw1⟩
  obtain rfl := hw1.symm
  cases hn : Txn.nameB n with
  | false =>
    obtain ⟨p0, p1, p2⟩ := HP0.out.cells
    have u0 := HP0.out.free 0
    have u1 := HP0.out.free 1
    have u2 := HP0.out.free 2
    have HEQ := Lib.hid (show Exc.acc S n = (Exc.A.zero, (1 : Int)) from by rw [HAC.out, hn, if_pos rfl])
    go_wp2
    exact bodyPost_ret (ret_putAcc rfl _ w0 p Exc.A.zero rfl HP0.out) rfl ⟨by rw [HEQ.out]; rfl, HB0.out.trans ((putAcc_only w0 p Exc.A.zero).below HLP.out HB0.out.size)⟩
  | true =>
  have HNN := Lib.hid hn
  have hnl := HNL.out hn
  have HGC := Lib.hid (HGA.out hn)
  clear hn
  go_wp2_with fail
  refine (HCL.out _).mono ?_
  rintro r w1 ⟨rfl, hb⟩
  have HB1 := Lib.hid (bchain HB0.out hb)
  have HP1 := Lib.hid (HP0.out.below hb)
  have HV1 := Lib.hid (HV.out.below hb)
  clear hb
  obtain ⟨w2, hw2, hb, rb⟩ := acc_box (⟨n, 0, 0⟩ : A) w1
  obtain ⟨q, hq⟩ : ∃ q, w1.heap.size = q := ⟨_, rfl⟩
  rw [hq] at rb
  have HQE := Lib.hid hq
  have HW2 : Hid (w1.alloc (.cells #[.string ⟨n.toArray⟩, .int .i64 0, .int .i64 0] 55) = w2) := Lib.hid hw2
  have HQ2 := Lib.hid rb
  have HLQ : Hid (w.heap.size ≤ q) := Lib.hid (by rw [← hq]; exact HB1.out.size)
  have HPQ : Hid (p ≠ q) := Lib.hid (by rw [← hq]; exact Nat.ne_of_lt (lt_of_heap HP1.out))
  have HB2 := Lib.hid (bchain HB1.out hb)
  have HP2 := Lib.hid (HP1.out.below hb)
  have HV2 := Lib.hid (HV1.out.below hb)
  clear hb rb hq hw2
  go_upto_region 4 with fail
  try rw [HW2.out]
  try rw [HQE.out]
  have e1 := cat_mk [97, 58] n
  rw [show [97, 58] ++ n = Exc.aK n from rfl] at e1
  have hg : ¬ (9223372036854775807 < 2 + n.length) := by omega
  have HG2 := Lib.hid (HGT.out _ HV2.out)
  obtain ⟨K, hK⟩ : ∃ K, Exc.aK n = K := ⟨_, rfl⟩
  rw [hK] at e1 HG2 HGC HFV HAC
  clear hK hnl
  cases hl : Sto.look S K with
  | none =>
    have HEQ := Lib.hid (show Exc.acc S n = ((⟨n, 0, 0⟩ : Exc.A), (0 : Int)) from by rw [HAC.out, HNN.out, if_neg (by decide), hl])
    have HGE := HGC.out
    rw [hl] at HGE
    rw [HGE] at HG2
    clear hl HGE
    go_wp2_with fail
    refine HG2.out.mono ?_
    rintro r w3 ⟨rfl, hb⟩
    have HB3 := Lib.hid (bchain HB2.out hb)
    have HP3 := Lib.hid (HP2.out.below hb)
    have HQ3 := Lib.hid (HQ2.out.below hb)
    clear hb
    obtain ⟨p0, p1, p2⟩ := HP3.out.cells
    have u0 := HP3.out.free 0
    have u1 := HP3.out.free 1
    have u2 := HP3.out.free 2
    obtain ⟨q0, q1, q2⟩ := HQ3.out.cells
    go_wp2
    exact bodyPost_ret (ret_putAcc rfl _ w3 p (⟨n, 0, 0⟩ : A) rfl HP3.out) rfl ⟨by rw [HEQ.out]; rfl, HB3.out.trans ((putAcc_only w3 p (⟨n, 0, 0⟩ : A)).below HLP.out HB3.out.size)⟩
  | some y =>
  have HLO := Lib.hid hl
  have HGE := HGC.out
  rw [hl] at HGE
  rw [HGE] at HG2
  have hvl := HFV.out y hl
  clear hl HGE
  go_wp2_with fail
  refine HG2.out.mono ?_
  rintro r w3 ⟨rfl, hb⟩
  have HB3 := Lib.hid (bchain HB2.out hb)
  have HP3 := Lib.hid (HP2.out.below hb)
  have HQ3 := Lib.hid (HQ2.out.below hb)
  clear hb e1 hg
  have HTD : Hid (Exc.told y = if Pw.endC (Pw.rdN (Pw.rdN (y, 0)).2).2 = 0 ∧ Exc.wi (Pw.rdN (y, 0)).1 = true ∧ Exc.wi (Pw.rdN (Pw.rdN (y, 0)).2).1 = true then some ((((Pw.rdN (y, 0)).1 : Nat) : Int), (((Pw.rdN (Pw.rdN (y, 0)).2).1 : Nat) : Int)) else none) := Lib.hid rfl
  have HN1 := Lib.hid (fun g w' h => rnum_st (y, 0) g w' h (by dsimp only; omega))
  have HL1 := Lib.hid (Nat.le_trans (Pw.rdN_le (y, 0)) hvl)
  obtain ⟨⟨a, st1⟩, h2⟩ : ∃ p, Pw.rdN (y, 0) = p := ⟨_, rfl⟩
  rw [h2] at HTD HN1 HL1
  dsimp only at HTD HN1 HL1
  have HN2 := Lib.hid (fun g w' h => rnum_st st1 g w' h (by have := HL1.out; omega))
  obtain ⟨⟨s, st2⟩, h3⟩ : ∃ p, Pw.rdN st1 = p := ⟨_, rfl⟩
  rw [h3] at HTD HN2
  dsimp only at HTD HN2
  have HN3 := Lib.hid (fun g w' h => rend_st st2 g w' h)
  obtain ⟨E, hE⟩ : ∃ E, Pw.endC st2 = E := ⟨_, rfl⟩
  rw [hE] at HTD HN3
  have HWA := Lib.hid (fun w' => eisAmount_any (a : Nat) w')
  have HWS := Lib.hid (fun w' => eisAmount_any (s : Nat) w')
  obtain ⟨c1, hc1⟩ : ∃ c, Exc.wi (a : Nat) = c := ⟨_, rfl⟩
  obtain ⟨c2, hc2⟩ : ∃ c, Exc.wi (s : Nat) = c := ⟨_, rfl⟩
  rw [hc1, hc2] at HTD
  rw [hc1] at HWA
  rw [hc2] at HWS
  clear hvl h2 h3 hE hc1 hc2
  go_wp2_with fail
  refine (read_any y _).mono ?_
  rintro r w4 ⟨rfl, hr, hb⟩
  obtain ⟨g, hg2⟩ : ∃ g, w3.heap.size = g := ⟨_, rfl⟩
  rw [hg2] at hr
  try rw [hg2]
  have HPG : Hid (p ≠ g) := Lib.hid (by rw [← hg2]; exact Nat.ne_of_lt (lt_of_heap HP3.out))
  have HQG : Hid (q ≠ g) := Lib.hid (by rw [← hg2]; exact Nat.ne_of_lt (lt_of_heap HQ3.out))
  have HLG : Hid (w.heap.size ≤ g) := Lib.hid (by rw [← hg2]; exact HB3.out.size)
  have HR4 := Lib.hid hr
  have HB4 := Lib.hid (bchain HB3.out hb)
  have HP4 := Lib.hid (HP3.out.below hb)
  have HQ4 := Lib.hid (HQ3.out.below hb)
  clear hr hb hg2
  go_wp2_with fail
  refine (HN1.out g _ HR4.out).mono ?_
  rintro r w5 ⟨rfl, hr, ho⟩
  have HB5 := Lib.hid (HB4.out.trans (ho.below HLG.out HB4.out.size))
  have HP5 : Hid (AccAt w5 p Exc.A.zero) := Lib.hid ((ho.block p (lt_of_heap HP4.out) HPG.out).trans HP4.out)
  have HQ5 : Hid (AccAt w5 q ⟨n, 0, 0⟩) := Lib.hid ((ho.block q (lt_of_heap HQ4.out) HQG.out).trans HQ4.out)
  have HR5 := Lib.hid hr
  clear hr ho
  go_wp2_with fail
  refine (HN2.out g _ HR5.out).mono ?_
  rintro r w6 ⟨rfl, hr, ho⟩
  have HB6 := Lib.hid (HB5.out.trans (ho.below HLG.out HB5.out.size))
  have HP6 : Hid (AccAt w6 p Exc.A.zero) := Lib.hid ((ho.block p (lt_of_heap HP5.out) HPG.out).trans HP5.out)
  have HQ6 : Hid (AccAt w6 q ⟨n, 0, 0⟩) := Lib.hid ((ho.block q (lt_of_heap HQ5.out) HQG.out).trans HQ5.out)
  have HR6 := Lib.hid hr
  clear hr ho
  obtain ⟨q0, q1, q2⟩ := HQ6.out.cells
  have v1 := HQ6.out.free 1
  have v2 := HQ6.out.free 2
  go_upto_region 9 with fail
  have ho := ((Only.refl q w6).setCell (p := ⟨q, 1, none⟩) rfl (.int .i64 (a : Nat))).setCell (p := ⟨q, 2, none⟩) rfl (.int .i64 (s : Nat))
  have hq7 := (HQ6.out.setAmt (a : Nat)).setSeq (s : Nat)
  dsimp only at hq7
  obtain ⟨w7, hw7⟩ : ∃ w7, (w6.setCell ⟨q, 1, none⟩ (.int .i64 (a : Nat))).setCell ⟨q, 2, none⟩ (.int .i64 (s : Nat)) = w7 := ⟨_, rfl⟩
  rw [hw7] at ho hq7
  try rw [hw7]
  have HQ7 := Lib.hid hq7
  have HB7 := Lib.hid (HB6.out.trans (ho.below HLQ.out HB6.out.size))
  have HP7 : Hid (AccAt w7 p Exc.A.zero) := Lib.hid ((ho.block p (lt_of_heap HP6.out) HPQ.out).trans HP6.out)
  have HR7 := Lib.hid (HR6.out.off_ ho (fun h => HQG.out h.symm))
  clear ho hq7 hw7 q0 q1 q2 v1 v2
  by_cases hE : E = 0
  case neg =>
    have hE2 : (E != 0) = true := by rw [bne_iff_ne]; exact hE
    have HEN := Lib.hid hE
    clear hE
    go_wp2_with fail
    refine (HN3.out g _ HR7.out).mono ?_
    rintro r w8 ⟨rfl, ho⟩
    have HB8 := Lib.hid (HB7.out.trans (ho.below HLG.out HB7.out.size))
    have HP8 : Hid (AccAt w8 p Exc.A.zero) := Lib.hid ((ho.block p (lt_of_heap HP7.out) HPG.out).trans HP7.out)
    clear ho
    obtain ⟨p0, p1, p2⟩ := HP8.out.cells
    have u0 := HP8.out.free 0
    have u1 := HP8.out.free 1
    have u2 := HP8.out.free 2
    have HEQ := Lib.hid (show Exc.acc S n = (Exc.A.zero, (3 : Int)) from by rw [HAC.out, HNN.out, if_neg (by decide), HLO.out]; dsimp only; rw [HTD.out, if_neg (fun h => HEN.out h.1)])
    go_wp2
    exact bodyPost_ret (ret_putAcc rfl _ w8 p Exc.A.zero rfl HP8.out) rfl ⟨by rw [HEQ.out]; rfl, HB8.out.trans ((putAcc_only w8 p Exc.A.zero).below HLP.out HB8.out.size)⟩
  subst hE
  go_wp2_with fail
  refine (HN3.out g _ HR7.out).mono ?_
  rintro r w8 ⟨rfl, ho⟩
  have HB8 := Lib.hid (HB7.out.trans (ho.below HLG.out HB7.out.size))
  have HP8 : Hid (AccAt w8 p Exc.A.zero) := Lib.hid ((ho.block p (lt_of_heap HP7.out) HPG.out).trans HP7.out)
  have HQ8 : Hid (AccAt w8 q ⟨n, (a : Nat), (s : Nat)⟩) := Lib.hid ((ho.block q (lt_of_heap HQ7.out) HQG.out).trans HQ7.out)
  clear ho
  obtain ⟨q0, q1, q2⟩ := HQ8.out.cells
  dsimp only at q0 q1 q2
  go_wp2_with fail
  refine (HWA.out _).mono ?_
  rintro r w9 ⟨rfl, hw9⟩
  obtain rfl := hw9.symm
  cases c1 with
  | false =>
    obtain ⟨p0, p1, p2⟩ := HP8.out.cells
    have u0 := HP8.out.free 0
    have u1 := HP8.out.free 1
    have u2 := HP8.out.free 2
    have HEQ := Lib.hid (show Exc.acc S n = (Exc.A.zero, (3 : Int)) from by rw [HAC.out, HNN.out, if_neg (by decide), HLO.out]; dsimp only; rw [HTD.out, if_neg (fun h => absurd h.2.1 (by decide))])
    go_wp2
    exact bodyPost_ret (ret_putAcc rfl _ w8 p Exc.A.zero rfl HP8.out) rfl ⟨by rw [HEQ.out]; rfl, HB8.out.trans ((putAcc_only w8 p Exc.A.zero).below HLP.out HB8.out.size)⟩
  | true =>
  go_wp2_with fail
  refine (HWS.out _).mono ?_
  rintro r w9 ⟨rfl, hw9⟩
  obtain rfl := hw9.symm
  cases c2 with
  | false =>
    obtain ⟨p0, p1, p2⟩ := HP8.out.cells
    have u0 := HP8.out.free 0
    have u1 := HP8.out.free 1
    have u2 := HP8.out.free 2
    have HEQ := Lib.hid (show Exc.acc S n = (Exc.A.zero, (3 : Int)) from by rw [HAC.out, HNN.out, if_neg (by decide), HLO.out]; dsimp only; rw [HTD.out, if_neg (fun h => absurd h.2.2 (by decide))])
    go_wp2
    exact bodyPost_ret (ret_putAcc rfl _ w8 p Exc.A.zero rfl HP8.out) rfl ⟨by rw [HEQ.out]; rfl, HB8.out.trans ((putAcc_only w8 p Exc.A.zero).below HLP.out HB8.out.size)⟩
  | true =>
  obtain ⟨p0, p1, p2⟩ := HP8.out.cells
  have u0 := HP8.out.free 0
  have u1 := HP8.out.free 1
  have u2 := HP8.out.free 2
  have HEQ := Lib.hid (show Exc.acc S n = ((⟨n, (a : Nat), (s : Nat)⟩ : Exc.A), (0 : Int)) from by rw [HAC.out, HNN.out, if_neg (by decide), HLO.out]; dsimp only; rw [HTD.out, if_pos ⟨by trivial, by trivial, by trivial⟩])
  go_wp2
  exact bodyPost_ret (ret_putAcc rfl _ w8 p (⟨n, (a : Nat), (s : Nat)⟩ : A) rfl HP8.out) rfl ⟨by rw [HEQ.out]; rfl, HB8.out.trans ((putAcc_only w8 p (⟨n, (a : Nat), (s : Nat)⟩ : A)).below HLP.out HB8.out.size)⟩
set_option maxRecDepth 100000 in
theorem edata_any {gt : Nat} (S : St) (k : T) (w : World) (ht : TrAt w gt S) (hk : k.length ≤ 1000000) :
    Calls Tryz.prog 21 #[ptr gt, .string ⟨k.toArray⟩] w fun r w' => r = .returned (.tuple #[.string ⟨(Exc.dat S k).1.toArray⟩, .int .i64 (Exc.dat S k).2]) ∧ Below w.heap.size w w' := by
  by_cases h0 : k = []
  · subst h0
    unfold ptr
    go_enter Tryz.func21, Tryz.ntmps21
    go_wp2
    go_ret2
    exact ⟨rfl, Below.refl _ _⟩
  have hp : (k == []) = false := beq_eq_false_iff_ne.2 h0
  have HD : Hid (Exc.dat S k = ((Tri.getC S (Exc.dK k)).1, ((Tri.getC S (Exc.dK k)).2 : Int))) := Lib.hid (by
    rw [Exc.getC_dat]
    split
    · rename_i hb
      have hl : 6 < k.length := by
        have h1 := List.length_pos_iff.2 h0
        simp only [Txn.keyB, Bool.and_eq_false_iff, decide_eq_false_iff_not] at hb
        omega
      have hn : Tri.keyed (Exc.dK k) = false := by
        simp [Tri.keyed, Exc.dK]
        omega
      rw [Tri.getC_no hn]
      rfl
    · rfl)
  have HG := Lib.hid (tget_any (Exc.dK k) w ht)
  have e1 := cat_mk [100, 58] k
  rw [show [100, 58] ++ k = Exc.dK k from rfl] at e1
  have hg : ¬ (9223372036854775807 < 2 + k.length) := by omega
  obtain ⟨⟨G, c⟩, hG⟩ : ∃ G, Tri.getC S (Exc.dK k) = G := ⟨_, rfl⟩
  rw [hG] at HD HG
  dsimp only at HD HG
  obtain ⟨K, hK⟩ : ∃ K, Exc.dK k = K := ⟨_, rfl⟩
  rw [hK] at e1 HG
  unfold ptr at HG ⊢
  clear h0 hk ht hG hK
  go_enter Tryz.func21, Tryz.ntmps21
  go_wp2_with fail
  refine HG.out.mono ?_
  rintro r w1 ⟨rfl, hb⟩
  have HB := Lib.hid hb
  clear hb
  go_wp2
  go_ret2
  exact ⟨by rw [HD.out]; rfl, HB.out⟩
end Go.Proofs.YtlckcfpdiigjiaaGreatDoor
