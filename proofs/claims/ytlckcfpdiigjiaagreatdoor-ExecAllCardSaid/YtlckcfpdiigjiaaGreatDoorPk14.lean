/- TriWalk, NibSide, TriFind, TriSide, TriTexts, TriWants, NibCommon, TriWith, TriWithMore -/
import Derived.Test.YtlckcfpdiigjiaaGreatDoorPk13
import Derived.Test.YtlckcfpdiigjiaaGreatDoorPk01
import Derived.Test.YtlckcfpdiigjiaaGreatDoorPk10
import Derived.WalkSpells
import Derived.WalkLawsBesides
import Derived.Lib.Hide
import Derived.Lib.Strings
import Derived.Deep.QuietTactic
import Derived.BigQuiet
import Derived.Test.YtlckcfpdiigjiaaGreatDoorPk06
import Derived.Test.YtlckcfpdiigjiaaGreatDoorPk12
import Derived.Deep.RegionLaw
import Derived.Test.YtlckcfpdiigjiaaGreatDoorChecked
import Derived.WalkKit
import Derived.ShutString
import Derived.WalkSmall
namespace Go.Proofs.YtlckcfpdiigjiaaGreatDoor
open Go.RowKit
open Sto (T)
open Tri (Tr Ok upd ix hb lay splitT Trim rank)
open Go.Proofs.YtlckcfpdiigjiaaGreatDoor.Nd (N)
namespace Tri
/-- The nodes that are come to, each with its place. -/
def Tr.visits (want : T → Bool) : T → Tr → List (T × Tr)
  | _, .nil => []
  | p, .leaf q v => [(p, .leaf q v)]
  | p, .ext q t => (p, .ext q t) :: if want p then t.visits want (p ++ q) else []
  | p, .br v k => (p, .br v k) :: if want p then (List.finRange 16).flatMap fun i => (k i).visits want (p ++ [hb i]) else []
end Tri
theorem flat_one {α : Type} (f : Fin 16 → List α) (h : ∀ i, i ≠ 0 → f i = []) : (List.finRange 16).flatMap f = f 0 := by
  rw [show List.finRange 16 = 0 :: (List.finRange 16).tail from rfl, List.flatMap_cons]
  have : (List.finRange 16).tail.flatMap f = [] := by
    rw [List.flatMap_eq_nil_iff]
    intro i hi
    refine h i ?_
    rintro rfl
    revert hi
    decide
  rw [this, List.append_nil]
theorem flat_take {α : Type} (f : Fin 16 → List α) (k : Nat) (i : Fin 16) (hi : i.val = k) : (((List.finRange 16).take k).flatMap f).length + (f i).length ≤ ((List.finRange 16).flatMap f).length := by
  have h1 : (List.finRange 16).take (k + 1) = (List.finRange 16).take k ++ [i] := by
    have hl : k < (List.finRange 16).length := by have := i.isLt; simp; omega
    rw [List.take_succ_eq_append_getElem hl]
    congr 2
    exact Fin.ext (by simp [hi])
  have h2 := congrArg (fun l => (l.flatMap f).length) (List.take_append_drop (k + 1) (List.finRange 16))
  simp only [List.flatMap_append, List.length_append, h1, List.flatMap_singleton] at h2
  omega
theorem visits_kid (want : T → Bool) (p : T) {t : Tr} (h : ¬ t.isNil) : t.visits want p = (p, t) :: if want p then (List.finRange 16).flatMap fun i => (t.kid i).visits want (placeT t.kind (p ++ t.pth) i) else [] := by
  cases t with
  | nil => exact absurd trivial h
  | leaf q v =>
    rw [Tri.Tr.visits]
    have : ((List.finRange 16).flatMap fun i => ((Tr.leaf q v).kid i).visits want (placeT (Tr.leaf q v).kind (p ++ (Tr.leaf q v).pth) i)) = [] := by
      rw [List.flatMap_eq_nil_iff]; intro i _; rfl
    rw [this]
    cases want p <;> rfl
  | ext q u =>
    rw [Tri.Tr.visits, flat_one _ (fun i hi => by simp only [Tri.Tr.kid, if_neg hi]; rfl)]
    rfl
  | br v k =>
    rw [Tri.Tr.visits]
    simp [Tri.Tr.kid, placeT, Tri.Tr.kind, Tri.Tr.pth]
/-- What a closure that is handed to walk does. -/
structure Visits (w0 : World) (F : Fm) (id : Nat) (caps : Array Value) (want : T → Bool) (I : World → List (T × Tr) → Prop) : Prop where
  call : ∀ args w, (callFunc id args).run Tryz.prog w = .ok (.enter id args) w
  keep : ∀ w' w'' L, I w' L → Below w'.heap.size w' w'' → I w'' L
  step : ∀ (w' : World) (L : List (T × Tr)) (p : T) (t : Tr) (v : Value), L.length < 100000 → Below w0.heap.size w0 w' → I w' L → PAt w0 F true t v → ¬ t.isNil → Ok t → Nib.fitL p = true → (∀ x ∈ t.items, p.length + x.1.length ≤ 16) →
    Calls Tryz.prog id (#[v, .string ⟨p.toArray⟩] ++ caps) w' fun e w'' => e = .returned (.bool (want p)) ∧ I w'' (L ++ [(p, t)]) ∧ Below w0.heap.size w0 w''
def WalkTo (w0 : World) (F : Fm) (id : Nat) (caps : Array Value) (want : T → Bool) (I : World → List (T × Tr) → Prop) (t : Tr) : Prop :=
  ∀ (w' : World) (L : List (T × Tr)) (p : T) (v : Value), L.length + (t.visits want p).length ≤ 100000 → Below w0.heap.size w0 w' → I w' L → PAt w0 F true t v → Ok t → Nib.fitL p = true → (∀ x ∈ t.items, p.length + x.1.length ≤ 16) →
    Calls Tryz.prog 34 #[v, .string ⟨p.toArray⟩, .func (.func id) #[] caps] w' fun e w'' => e = .returned (.tuple #[]) ∧ I w'' (L ++ t.visits want p) ∧ Below w0.heap.size w0 w''
theorem items_kid {t : Tr} (p : T) (h : ∀ x ∈ t.items, p.length + x.1.length ≤ 16) (i : Fin 16) : ∀ x ∈ (t.kid i).items, (placeT t.kind (p ++ t.pth) i).length + x.1.length ≤ 16 := by
  intro x hx
  cases t with
  | nil => cases hx
  | leaf q v => cases hx
  | ext q u =>
    simp only [Tri.Tr.kid] at hx
    split at hx
    · have := h (q ++ x.1, x.2) (Tri.mem_behind.2 ⟨x.1, hx, rfl⟩)
      simp [placeT, Tri.Tr.kind, Tri.Tr.pth] at this ⊢
      omega
    · cases hx
  | br v k =>
    have := h (hb i :: x.1, x.2) (Tri.mem_br.2 (Or.inr ⟨i, x.1, rfl, hx⟩))
    simp [placeT, Tri.Tr.kind, Tri.Tr.pth] at this ⊢
    omega
theorem pth_len {t : Tr} {p : T} (ho : Ok t) (hn : ¬ t.isNil) (h : ∀ x ∈ t.items, p.length + x.1.length ≤ 16) : p.length + t.pth.length ≤ 16 := by
  have hne : t.items ≠ [] := fun e => hn ((Tri.items_nil ho.canon).1 e)
  obtain ⟨a, l, e⟩ := List.exists_cons_of_ne_nil hne
  have ha : a ∈ t.items := by rw [e]; exact List.mem_cons_self ..
  have h1 := h a ha
  cases t with
  | nil => exact absurd trivial hn
  | leaf q v =>
    obtain rfl := List.mem_singleton.1 ha
    exact h1
  | ext q u =>
    obtain ⟨r, _, e2⟩ := Tri.mem_behind.1 ha
    rw [e2] at h1
    simp [Tri.Tr.pth] at h1 ⊢
    omega
  | br v k =>
    simp only [Tri.Tr.pth, List.length_nil]
    omega
theorem hb_fit (i : Fin 16) : Nib.fitL [hb i] = true := Tri.fit_cons.2 ⟨by rw [Tri.hb_toNat]; have := i.isLt; omega, rfl⟩
theorem place_fit {t : Tr} {p : T} (hf : t.fits) (hp : Nib.fitL p = true) (i : Fin 16) : Nib.fitL (placeT t.kind (p ++ t.pth) i) = true := by
  have h1 : Nib.fitL t.pth = true := by
    cases t with
    | nil => rfl
    | leaf q v => exact hf
    | ext q u => exact hf.1
    | br v k => rfl
  have h2 := Tri.fit_append.2 ⟨hp, h1⟩
  unfold placeT
  split
  · exact Tri.fit_append.2 ⟨h2, hb_fit i⟩
  · exact h2
set_option maxRecDepth 100000 in
theorem walk_nil {w0 : World} {F : Fm} {id : Nat} {caps : Array Value} {want : T → Bool} {I : World → List (T × Tr) → Prop} : WalkTo w0 F id caps want I .nil := by
  intro w' L p v _ hb hI h _ _ _
  have e : v = .pointer none := h
  subst e
  have HI := Lib.hid hI
  have HB := Lib.hid hb
  clear hI hb h
  go_enter Tryz.func34, Tryz.ntmps34
  go_wp2
  refine bodyPost_ret (results_none rfl _ _ _) rfl ⟨rfl, ?_, HB.out⟩
  rw [Tri.Tr.visits, List.append_nil]
  exact HI.out
set_option maxRecDepth 100000 in
set_option maxHeartbeats 2000000 in
theorem walk_some {w0 : World} {F : Fm} {id : Nat} {caps : Array Value} {want : T → Bool} {I : World → List (T × Tr) → Prop} (hV : Visits w0 F id caps want I) {t : Tr} (hn : ¬ t.isNil) (IH : ∀ i, WalkTo w0 F id caps want I (t.kid i)) : WalkTo w0 F id caps want I t := by
  intro w L p v hlen hb hI h ho hf hl
  have HV := Lib.hid (hV.step w L p t v (by rw [visits_kid want p hn, List.length_cons] at hlen; omega) hb hI h hn ho hf hl)
  obtain ⟨g, s', K, rfl, hs, -, hr, hk⟩ := h.row hn
  obtain rfl := hs rfl
  unfold ptr at HV ⊢
  obtain ⟨b, hbw⟩ : ∃ b, want p = b := ⟨_, rfl⟩
  rw [hbw] at HV
  have hcall := hV.call
  have HKEEP := Lib.hid hV.keep
  have HVK := Lib.hid (visits_kid want p hn)
  have HPW : Hid (want p = b) := Lib.hid hbw
  have HB := Lib.hid hb
  have HR := Lib.hid hr
  have HRG : Hid (∀ w', Below w0.heap.size w0 w' → RowP w' g t.kind t.pth t.vl K (if True then t.sum Nd.sumS else [])) := Lib.hid (fun w' hb' => by
    have := hr.below hb'
    simpa using this)
  have HI := Lib.hid (kcl_info K)
  have HKE := Lib.hid (fun (i : Fin 16) w => index_kids K i w)
  have HK := Lib.hid hk
  have hpl := pth_len ho hn hl
  have HPL : Hid (∀ (k : Nat), k ≤ 3 → ∀ (i : Fin 16) w, Calls Tryz.prog 64 #[.int .i64 k, .string ⟨(p ++ t.pth).toArray⟩, .int .i64 i.val] w fun r w' => r = .returned (.string ⟨(placeT k (p ++ t.pth) i).toArray⟩) ∧ Below w.heap.size w w') := Lib.hid (fun k hk i w => place_any k _ i w (by simp; omega) hk)
  have HIH : Hid (∀ (i : Fin 16) (w' : World) (L' : List (T × Tr)), L'.length + ((t.kid i).visits want (placeT t.kind (p ++ t.pth) i)).length ≤ 100000 → Below w0.heap.size w0 w' → I w' L' → Calls Tryz.prog 34 #[K i, .string ⟨(placeT t.kind (p ++ t.pth) i).toArray⟩, .func (.func id) #[] caps] w' fun e w'' => e = .returned (.tuple #[]) ∧ I w'' (L' ++ (t.kid i).visits want (placeT t.kind (p ++ t.pth) i)) ∧ Below w0.heap.size w0 w'') := Lib.hid (fun i w' L' hle hb' hI' =>
    IH i w' L' _ _ hle hb' hI' (hk i) (ho.kid i) (place_fit ho.fits hf i) (items_kid p hl i))
  have hkd : t.kind ≤ 3 := by cases t <;> simp [Tri.Tr.kind]
  obtain ⟨kd, hkd2⟩ : ∃ kd, t.kind = kd := ⟨_, rfl⟩
  obtain ⟨pp, hpp⟩ : ∃ pp, t.pth = pp := ⟨_, rfl⟩
  rw [hkd2, hpp] at HVK HRG HIH
  rw [hpp] at HPL hpl
  rw [hkd2] at hkd
  have HCM := Lib.hid (HPL.out kd hkd)
  have HLEN : Hid (b = true → ∀ k (i : Fin 16), i.val = k → (L ++ [(p, t)] ++ ((List.finRange 16).take k).flatMap fun j => (t.kid j).visits want (placeT kd (p ++ pp) j)).length + ((t.kid i).visits want (placeT kd (p ++ pp) i)).length ≤ 100000) := Lib.hid (fun hb2 k i hi => by
    have h2 := hlen
    rw [HVK.out, hbw, if_pos hb2, List.length_cons] at h2
    have h3 := flat_take (fun j => (t.kid j).visits want (placeT kd (p ++ pp) j)) k i hi
    simp only [List.length_append, List.length_singleton]
    omega)
  obtain ⟨VT, hVT⟩ : ∃ VT, t.visits want p = VT := ⟨_, rfl⟩
  rw [hVT] at HVK ⊢
  have cL : p.length ≤ 1000 := by omega
  have cL2 : pp.length ≤ 1000 := by omega
  have hcm := cat_mk p pp
  clear hlen hV h ho hf hl hr hk hb hI IH hkd2 hpp HPL hVT hbw hpl hn
  cases b with
  | false =>
    go_enter Tryz.func34, Tryz.ntmps34
    go_wp2_with fail
    refine HV.out.mono ?_
    rintro e w1 ⟨rfl, hI1, hb1⟩
    go_wp2
    refine bodyPost_ret (results_none rfl _ _ _) rfl ⟨rfl, ?_, hb1⟩
    rw [HVK.out, HPW.out]
    exact hI1
  | true =>
    replace HLEN := Lib.hid (HLEN.out rfl)
    go_enter Tryz.func34, Tryz.ntmps34
    go_wp2_with fail
    refine HV.out.mono ?_
    rintro e w1 ⟨rfl, hI1, hb1⟩
    have HI1 := Lib.hid hI1
    have HB1 := Lib.hid hb1
    have HRA := Lib.hid (HRG.out w1 hb1).range
    clear hI1 hb1
    go_wp2_with (refine wpList_load_mid (by rfl) _ _ (by rfl) g 3 (by rfl) (kcl K) _ HRA.out Tryz.underlying85 (by rfl) HI.out ?_)
    obtain ⟨KC, hKC⟩ : ∃ KC, kcl K = KC := ⟨_, rfl⟩
    rw [hKC] at HKE HI HRA ⊢
    clear hKC
    go_loopw [21] (fun i wr => ∃ k : Nat, k ≤ 16 ∧ i = .int .i64 k ∧ I wr (L ++ [(p, t)] ++ ((List.finRange 16).take k).flatMap fun j => (t.kid j).visits want (placeT kd (p ++ pp) j)) ∧ Below w0.heap.size w0 wr) (fun i _ => 16 - (intOf i).toNat)
    case atStart => exact ⟨0, Nat.zero_le _, rfl, by rw [List.take_zero, List.flatMap_nil, List.append_nil]; exact HI1.out, HB1.out⟩
    case round =>
      obtain ⟨k, hk, rfl, hIr, hbr⟩ := hrel
      have HIR := Lib.hid hIr
      have HBR := Lib.hid hbr
      by_cases hlt : k < 16
      · obtain ⟨i, hi⟩ : ∃ i : Fin 16, i.val = k := ⟨⟨k, hlt⟩, rfl⟩
        have h1 : (k : Int) < 16 := by omega
        have h0 : (0 : Int) ≤ (k : Int) := by omega
        have n0 := HKE.out i
        rw [hi] at n0
        have HTK : Hid ((List.finRange 16).take (k + 1) = (List.finRange 16).take k ++ [i]) := Lib.hid (by
          have hl : k < (List.finRange 16).length := by simpa using hlt
          rw [List.take_succ_eq_append_getElem hl]
          congr 2
          exact Fin.ext (by simp [hi]))
        have hki := HK.out i
        by_cases hnl : (t.kid i).isNil
        · have e : K i = .pointer none := by rw [Tri.isNil_eq hnl] at hki; exact hki
          rw [e] at n0
          have HZ : Hid ((t.kid i).visits want (placeT kd (p ++ pp) i) = []) := Lib.hid (by rw [Tri.isNil_eq hnl]; rfl)
          clear hki hnl e hIr hbr
          go_wp2
          exact ⟨⟨k + 1, by omega, by go_num, by rw [HTK.out, List.flatMap_append, List.flatMap_singleton, HZ.out, List.append_nil]; exact HIR.out, HBR.out⟩, by simp [intOf]; omega⟩
        · obtain ⟨g6, e⟩ := hki.ptr hnl
          rw [e] at n0
          have HC := Lib.hid (fun (w' : World) hb' hI' => HIH.out i w' _ (HLEN.out k i hi) hb' hI')
          rw [e] at HC
          have HPP := Lib.hid (fun w => HCM.out i w)
          rw [hi] at HPP
          have hrr := HRG.out wr hbr
          have m0 : wr.cell? ⟨g, 0, none⟩ = some (.int .i64 kd) := hrr.kind
          have HG : Hid (∀ w', Below wr.heap.size wr w' → w'.cell? ⟨g, 0, none⟩ = some (.int .i64 kd) ∧ w'.cell? ⟨g, 1, none⟩ = some (.string ⟨pp.toArray⟩)) := Lib.hid (fun w' hb' => by
            have k1 := hrr.below hb'
            exact ⟨k1.kind, k1.path⟩)
          have HGB : Hid (∀ w', Below w0.heap.size w0 w' → w'.cell? ⟨g, 0, none⟩ = some (.int .i64 kd) ∧ w'.cell? ⟨g, 1, none⟩ = some (.string ⟨pp.toArray⟩)) := Lib.hid (fun w' hb' => by
            have k1 := HRG.out w' hb'
            exact ⟨k1.kind, k1.path⟩)
          obtain ⟨PL, hPL⟩ : ∃ PL, placeT kd (p ++ pp) i = PL := ⟨_, rfl⟩
          rw [hPL] at HC HPP
          have HPLE := Lib.hid hPL
          clear hki hnl e hIr hbr hrr m0 hPL hi
          go_upto_region 5 with fail
          have BD : Below w0.heap.size w0 wr.drew := HBR.out.drew
          have hID : I wr.drew (L ++ [(p, t)] ++ ((List.finRange 16).take k).flatMap fun j => (t.kid j).visits want (placeT kd (p ++ pp) j)) := HKEEP.out _ _ _ HIR.out (Below.refl _ _).drew
          have HID := Lib.hid hID
          obtain ⟨c0, c1⟩ := HGB.out _ BD
          clear hID
          go_region_with (first | (go_at_call 64; refine (HPP.out _).mono ?_; rintro e w6 ⟨rfl, hb6⟩; have hI6 := Lib.hid (HKEEP.out _ _ _ HID.out hb6); have hb6' := BD.trans (hb6.mono BD.size)) | (go_at_call 34; refine (HC.out _ ?_ hI6.out).mono ?_; (with_reducible exact hb6'); rintro e w7 ⟨rfl, hI7, hb7⟩; have hI7' := Lib.hid hI7))
          all_goals
            go_wp2
            refine ⟨⟨k + 1, by omega, by go_num, ?_, hb7⟩, by simp [intOf]; omega⟩
            rw [HTK.out, List.flatMap_append, List.flatMap_singleton, HPLE.out, ← List.append_assoc]
            exact hI7'.out
      · have h1 : ¬ ((k : Int) < 16) := by omega
        obtain rfl : k = 16 := by omega
        clear hIr hbr
        go_wp2
        go_end0
        refine ⟨rfl, ?_, HBR.out⟩
        have h2 := HIR.out
        rw [List.take_of_length_le (by simp)] at h2
        rw [HVK.out, HPW.out, if_pos rfl]
        simpa using h2
/-- walk, of any tree. -/
theorem walk_to {w0 : World} {F : Fm} {id : Nat} {caps : Array Value} {want : T → Bool} {I : World → List (T × Tr) → Prop} (hV : Visits w0 F id caps want I) (t : Tr) : WalkTo w0 F id caps want I t := by
  induction t using Tri.kid_ind with
  | h0 => exact walk_nil
  | h t hn IH => exact walk_some hV hn IH
end Go.Proofs.YtlckcfpdiigjiaaGreatDoor
namespace Go.Proofs.YtlckcfpdiigjiaaGreatDoor
open Go.RowKit

theorem short_no {p m : List UInt8} (h : ¬ p.length ≤ m.length) : ¬ m.take p.length = p := by
  intro e; have := congrArg List.length e; simp at this; omega

end Go.Proofs.YtlckcfpdiigjiaaGreatDoor
namespace Go.Proofs.YtlckcfpdiigjiaaGreatDoor
open Go.RowKit
open Sto (T)
open Tri (Tr Ok upd ix hb lay splitT Trim rank)

set_option maxHeartbeats 400000 in
theorem prefix_in (s p : T) (w : World) :
    Calls Tryz.prog 105 #[.string ⟨s.toArray⟩, .string ⟨p.toArray⟩] w fun e w' => e = .returned (.bool (decide (s.take p.length = p))) ∧ w = w' := by
  by_cases h : p.length ≤ s.length
  · have h1 : (p.length : Int) ≤ (s.length : Int) := by omega
    have h0 : (0 : Int) ≤ (p.length : Int) := by omega
    have he : (((⟨s.toArray⟩ : ByteArray).extract 0 p.length).toList == p) = decide (s.take p.length = p) := by
      rw [Lib.extract_eq, Bool.eq_iff_iff]; simp
    obtain ⟨b, hb⟩ : ∃ b, decide (s.take p.length = p) = b := ⟨_, rfl⟩
    rw [hb] at he ⊢
    clear hb
    go_enter Tryz.func105, Tryz.ntmps105
    go_wp2
    go_ret
    exact ⟨rfl, rfl⟩
  · have h1 : ¬ ((p.length : Int) ≤ (s.length : Int)) := by omega
    have he : decide (s.take p.length = p) = false := decide_eq_false (short_no h)
    rw [he]
    clear he
    go_enter Tryz.func105, Tryz.ntmps105
    go_wp2
    go_ret
    exact ⟨rfl, rfl⟩
theorem prefix_any (s p : T) (w : World) :
    Calls Tryz.prog 87 #[.string ⟨s.toArray⟩, .string ⟨p.toArray⟩] w fun e w' => e = .returned (.bool (decide (s.take p.length = p))) ∧ w = w' := by
  have HP := Lib.hid (fun w => prefix_in s p w)
  go_enter Tryz.func87, Tryz.ntmps87
  go_wp2_with fail
  refine (HP.out _).mono ?_
  rintro e w1 ⟨rfl, rfl⟩
  go_wp2
  go_ret
  exact ⟨rfl, rfl⟩
def slen : Value → Nat
  | .string b => b.size
  | _ => 0
def fmeas (p q : Value) : Nat := match p with | .pointer none => 0 | _ => slen q + 1
theorem fmeas_le (v : Value) (r : T) : fmeas v (.string ⟨r.toArray⟩) ≤ r.length + 1 := by
  unfold fmeas
  split
  · omega
  · simp [slen, ByteArray.size]
theorem fmeas_ptr (g : Nat) (q : T) : fmeas (.pointer (some ⟨g, 0, none⟩)) (.string ⟨q.toArray⟩) = q.length + 1 := by simp [fmeas, slen, ByteArray.size]
/-- What find answers: no value, if there is none. -/
def findT (t : Tr) (p : T) : T := (t.get p).getD []
theorem find_no {t : Tr} {p : T} (hn : ¬ t.isNil) (h : p.take t.pth.length ≠ t.pth) : findT t p = [] := by
  unfold findT
  cases t with
  | nil => exact absurd trivial hn
  | leaf q v =>
    rw [Tri.Tr.get, if_neg (fun e => h (by subst e; simp [Tri.Tr.pth]))]; rfl
  | ext q u =>
    have h2 : ¬ p.take q.length = q := h
    rw [Tri.Tr.get, if_neg h2]; rfl
  | br v k => simp [Tri.Tr.pth] at h
theorem find_ext {t : Tr} {p : T} (hk : t.kind = 2) (h : p.take t.pth.length = t.pth) : findT t p = findT (t.kid 0) (p.drop t.pth.length) := by
  cases t with
  | ext q u =>
    have h2 : p.take q.length = q := h
    unfold findT
    rw [Tri.Tr.get, if_pos h2]
    simp [Tri.Tr.kid, Tri.Tr.pth]
  | _ => cases hk
theorem find_here {t : Tr} {p : T} (hn : ¬ t.isNil) (hk : t.kind ≠ 2) (h : p.take t.pth.length = t.pth) (hd : p.drop t.pth.length = []) : findT t p = t.vl := by
  have e : p = t.pth := by rw [← List.take_append_drop t.pth.length p, h, hd, List.append_nil]
  unfold findT
  cases t with
  | nil => exact absurd trivial hn
  | leaf q v =>
    have e2 : p = q := e
    rw [Tri.Tr.get, if_pos e2]; rfl
  | ext q u => exact absurd rfl hk
  | br v k =>
    have e2 : p = [] := e
    rw [e2, Tri.Tr.get]
    split
    · rename_i hv; rw [hv]; rfl
    · rfl
theorem find_on {t : Tr} {p r : T} {b : UInt8} (hn : ¬ t.isNil) (hk : t.kind ≠ 2) (h : p.take t.pth.length = t.pth) (hd : p.drop t.pth.length = b :: r) (hb1 : b.toNat ≤ 15) : findT t p = findT (t.kid (ix b)) r := by
  unfold findT
  cases t with
  | nil => exact absurd trivial hn
  | leaf q v =>
    rw [Tri.Tr.get, if_neg (fun e => by subst e; simp [Tri.Tr.pth] at hd)]; rfl
  | ext q u => exact absurd rfl hk
  | br v k =>
    have e : p = b :: r := by simpa [Tri.Tr.pth] using hd
    rw [e, Tri.Tr.get, if_pos hb1]
    rfl
theorem kid_firm {t : Tr} (h : t.firm) (i : Fin 16) : (t.kid i).firm := by
  cases t with
  | nil => trivial
  | leaf p v => trivial
  | ext p t =>
    simp only [Tri.Tr.kid]; split
    · exact h.2.2
    · trivial
  | br v k => exact h i

set_option maxRecDepth 100000 in
set_option maxHeartbeats 2000000 in
theorem find_any {t : Tr} {v : Value} {F : Fm} {s : Bool} (p : T) (w : World) (h : PAt w F s t v) (hf : t.firm) (hp : Nib.fitL p = true) (hl : p.length ≤ 16) :
    Calls Tryz.prog 72 #[v, .string ⟨p.toArray⟩] w fun e w' => e = .returned (.string ⟨(findT t p).toArray⟩) ∧ Below w.heap.size w w' := by
  obtain ⟨res, hres⟩ : ∃ res, findT t p = res := ⟨_, rfl⟩
  rw [hres]
  have HP := Lib.hid (fun (s p : T) w => prefix_any s p w)
  have H0 := Lib.hid (show ∃ (u : Tr) (q : T) (s' : Bool), .string ⟨p.toArray⟩ = Value.string ⟨q.toArray⟩ ∧ PAt w F s' u v ∧ u.firm ∧ findT u q = res ∧ Nib.fitL q = true ∧ q.length ≤ 16 from ⟨t, p, s, rfl, h, hf, hres, hp, hl⟩)
  clear h hf hp hl hres
  go_enter Tryz.func72, Tryz.ntmps72
  go_wp2
  go_loopw [0, 1] (fun pz qv wr => ∃ (u : Tr) (q : T) (s' : Bool) (pv : Value), pv = pz ∧ qv = .string ⟨q.toArray⟩ ∧ PAt wr F s' u pv ∧ u.firm ∧ findT u q = res ∧ Nib.fitL q = true ∧ q.length ≤ 16 ∧ Below w.heap.size w wr) (fun pv qv _ => fmeas pv qv)
  case atStart =>
    obtain ⟨u, q, s', e, h1, h2, h3, h4, h5⟩ := H0.out
    exact ⟨u, q, s', _, rfl, e, h1, h2, h3, h4, h5, Below.refl _ _⟩
  case round =>
    obtain ⟨u, q, s', pv, rfl, rfl, h1, h2, h3, h4, h5, h6⟩ := hrel
    by_cases hn : u.isNil
    · rw [Tri.isNil_eq hn] at h1 h3
      have e : pv = .pointer none := h1
      subst e
      have HR : Hid (res = []) := Lib.hid h3.symm
      have HB := Lib.hid h6
      clear h1 h2 h3 h4 h5 h6 hn
      go_wp2
      go_ret
      exact ⟨by rw [HR.out]; rfl, HB.out⟩
    · obtain ⟨g, s2, K, rfl, -, -, hr, hk⟩ := h1.row hn
      have HB := Lib.hid h6
      have HK := Lib.hid hk
      have HR := Lib.hid hr
      have n0 := hr.kind
      have n1 := hr.path
      have HPX := Lib.hid (fun w => HP.out q u.pth w)
      by_cases hpre : q.take u.pth.length = u.pth
      · rw [decide_eq_true hpre] at HPX
        have hle : u.pth.length ≤ q.length := by have := congrArg List.length hpre; simp at this; omega
        have htail := ext_drop q u.pth.length
        have z0 : (0 : Int) ≤ (u.pth.length : Int) := by omega
        have z1 : (u.pth.length : Int) ≤ (q.length : Int) := by omega
        obtain ⟨r, hr'⟩ : ∃ r, q.drop u.pth.length = r := ⟨_, rfl⟩
        have hrf : Nib.fitL r = true := by rw [← hr']; exact Tri.fit_drop _ h4
        have hrl : r.length + u.pth.length = q.length := by rw [← hr']; simp; omega
        rw [hr'] at htail
        by_cases h2k : u.kind = 2
        · have hpl : 1 ≤ u.pth.length := by
            cases u with
            | ext a b => exact List.length_pos_iff.2 h2.1
            | _ => cases h2k
          have hfe := find_ext h2k hpre
          rw [hr', h3] at hfe
          have n3 := hr.kid 0
          have hk0 := hk 0
          have hf0 := kid_firm h2 0
          have HNX := Lib.hid (show PAt wr F s2 (u.kid 0) (K 0) ∧ (u.kid 0).firm ∧ findT (u.kid 0) r = res ∧ Nib.fitL r = true ∧ r.length ≤ 16 from ⟨hk0, hf0, hfe.symm, hrf, by omega⟩)
          have HLE : Hid (∀ v, fmeas v (.string ⟨r.toArray⟩) < fmeas (.pointer (some ⟨g, 0, none⟩)) (.string ⟨q.toArray⟩)) := Lib.hid (fun v => by have := fmeas_le v r; rw [fmeas_ptr]; omega)
          rw [h2k] at n0
          obtain ⟨pp, hpp⟩ : ∃ pp, u.pth = pp := ⟨_, rfl⟩
          rw [hpp] at HPX n1 htail z0 z1
          obtain ⟨vk, hvk⟩ : ∃ vk, K 0 = vk := ⟨_, rfl⟩
          have n3' : wr.cell? ⟨g, 3, none⟩ = some vk := by rw [← hvk]; exact n3
          rw [hvk] at HNX
          unfold ptr
          clear n3 h1 h2 h3 h4 h5 h6 hn hr hk hpre hpp hvk hk0 hf0 hfe h2k hpl hr' hrf hrl hle
          go_wp2_with fail
          refine (HPX.out _).mono ?_
          rintro e w1 ⟨rfl, rfl⟩
          go_wp2
          obtain ⟨a1, a2, a3, a4, a5⟩ := HNX.out
          exact ⟨⟨_, r, s2, _, rfl, rfl, a1, a2, a3, a4, a5, HB.out⟩, HLE.out _⟩
        · have e2 : ((u.kind : Int) == 2) = false := by rw [beq_eq_false_iff_ne]; omega
          obtain ⟨kd, hkd⟩ : ∃ kd, u.kind = kd := ⟨_, rfl⟩
          rw [hkd] at n0 e2
          cases hd : r with
          | nil =>
            subst hd
            have HRS : Hid (res = u.vl) := Lib.hid (by rw [← h3]; exact find_here hn h2k hpre hr')
            have n2 := hr.val
            obtain ⟨pp, hpp⟩ : ∃ pp, u.pth = pp := ⟨_, rfl⟩
            rw [hpp] at HPX n1 htail z0 z1
            have htail' : (⟨q.toArray⟩ : ByteArray).extract pp.length q.length = ⟨#[]⟩ := htail
            unfold ptr
            clear htail h1 h2 h3 h4 h5 h6 hn hr hk hpre hpp h2k hr' hrf hrl hle hkd
            go_wp2_with fail
            refine (HPX.out _).mono ?_
            rintro e w1 ⟨rfl, rfl⟩
            go_wp2
            go_ret
            exact ⟨by rw [HRS.out]; rfl, HB.out⟩
          | cons b r2 =>
            subst hd
            obtain ⟨hb1, hf2⟩ := Tri.fit_cons.1 hrf
            have hix := ix_val hb1
            have hfe := find_on hn h2k hpre hr' hb1
            rw [h3] at hfe
            have n3 := hr.kid (ix b)
            rw [hix] at n3
            rw [List.length_cons] at hrl
            have HNX := Lib.hid (show PAt wr F s2 (u.kid (ix b)) (K (ix b)) ∧ (u.kid (ix b)).firm ∧ findT (u.kid (ix b)) r2 = res ∧ Nib.fitL r2 = true ∧ r2.length ≤ 16 from ⟨hk _, kid_firm h2 _, hfe.symm, hf2, by omega⟩)
            have HLE : Hid (∀ v, fmeas v (.string ⟨r2.toArray⟩) < fmeas (.pointer (some ⟨g, 0, none⟩)) (.string ⟨q.toArray⟩)) := Lib.hid (fun v => by have := fmeas_le v r2; rw [fmeas_ptr]; omega)
            have hbyte : ∀ hh, (⟨(b :: r2).toArray⟩ : ByteArray)[0]'hh = b := byte_drop rfl
            have htl2 : (⟨(b :: r2).toArray⟩ : ByteArray).extract 1 (b :: r2).length = ⟨r2.toArray⟩ := tail_drop (n := 0) rfl
            have hne : ((b :: r2 : List UInt8) == []) = false := rfl
            have y0 : (0 : Int) < ((b :: r2).length : Int) := by rw [List.length_cons]; omega
            have y1 : (1 : Int) ≤ ((b :: r2).length : Int) := by rw [List.length_cons]; omega
            have y6 : (0 : Int) ≤ (b.toNat : Int) := by omega
            have y7 : (b.toNat : Int) < 16 := by omega
            obtain ⟨pp, hpp⟩ : ∃ pp, u.pth = pp := ⟨_, rfl⟩
            rw [hpp] at HPX n1 htail z0 z1
            obtain ⟨P, hP⟩ : ∃ P, b :: r2 = P := ⟨_, rfl⟩
            rw [hP] at htail hbyte htl2 hne y0 y1
            obtain ⟨vk, hvk⟩ : ∃ vk, K (ix b) = vk := ⟨_, rfl⟩
            rw [hvk] at n3 HNX
            unfold ptr
            clear h1 h2 h3 h4 h5 h6 hn hr hk hpre hpp h2k hr' hrf hrl hle hkd hvk hP hfe hix hb1 hf2
            go_wp2_with fail
            refine (HPX.out _).mono ?_
            rintro e w1 ⟨rfl, rfl⟩
            go_upto_region 3 with fail
            go_quiet (fail)
            go_wp2
            obtain ⟨a1, a2, a3, a4, a5⟩ := HNX.out
            exact ⟨⟨_, r2, s2, _, rfl, rfl, a1.below (bel_drewN (Below.refl _ _) _), a2, a3, a4, a5, bel_drewN HB.out _⟩, HLE.out _⟩
      · rw [decide_eq_false hpre] at HPX
        have HRS : Hid (res = []) := Lib.hid (by rw [← h3]; exact find_no hn hpre)
        obtain ⟨pp, hpp⟩ : ∃ pp, u.pth = pp := ⟨_, rfl⟩
        rw [hpp] at HPX n1
        unfold ptr
        clear h1 h2 h3 h4 h5 h6 hn hr hk hpre hpp
        go_wp2_with fail
        refine (HPX.out _).mono ?_
        rintro e w1 ⟨rfl, rfl⟩
        go_wp2
        go_ret
        exact ⟨by rw [HRS.out]; rfl, HB.out⟩
end Go.Proofs.YtlckcfpdiigjiaaGreatDoor
namespace Go.Proofs.YtlckcfpdiigjiaaGreatDoor.Tri
open Sto (T St Rising keys)

def begins (p m : T) : Bool := decide (m.take p.length = p)
end Go.Proofs.YtlckcfpdiigjiaaGreatDoor.Tri
namespace Go.Proofs.YtlckcfpdiigjiaaGreatDoor
open Go.RowKit
open Sto (T)
open Tri (Tr Ok upd ix hb lay splitT Trim rank)
open Go.Proofs.YtlckcfpdiigjiaaGreatDoor.Nd (N)

/-- A call of one argument as a step of a region that draws its order. -/
theorem step_call {P : Program} {ops : Array Oper} {o : Oper} {a : Act} {w : World} {K : Act → World → Prop} {Q : Exit → Act → World → Prop} {E : Prop} (hg : o.guard = none) (f : Nat) (x : Operand) (ts : Array TypeId) (hop : o.op = Op.call { callee := Callee.value (.func f), args := #[x], argTypes := ts })
    (hcf : ∀ args w, (callFunc f args).run P w = .ok (.enter f args) w) (R : Ending → World → Prop) (hc : Calls P f #[a.eval x] w R) (hK : ∀ e w', R e w' → ∃ v, e = .returned v ∧ K (a.put o.dst v) w') : if Region.wanted o (yielded ops a.tmps) = true then Oper.wp P o a w K Q else E := by
  have hw : Region.wanted o (yielded ops a.tmps) = true := by simp [Region.wanted, hg]
  rw [if_pos hw]
  obtain ⟨dst, op, type, pos, after, guard⟩ := o
  simp only at hop
  subst hop
  show Oper.upon P _ a K Q ((callFunc f (#[] ++ #[x].map a.eval ++ #[])).run P w)
  rw [hcf, Oper.upon_enter]
  refine Calls.mono (by simpa using hc) ?_
  intro e w' h
  obtain ⟨v, rfl, hk⟩ := hK e w' h
  exact hk
end Go.Proofs.YtlckcfpdiigjiaaGreatDoor
namespace Go.Proofs.YtlckcfpdiigjiaaGreatDoor
open Sto (T)
open Tri (Tr)
open Go.Proofs.YtlckcfpdiigjiaaGreatDoor.Nd (N)
end Go.Proofs.YtlckcfpdiigjiaaGreatDoor
namespace Go.Proofs.YtlckcfpdiigjiaaGreatDoor
open Go.RowKit

set_option maxHeartbeats 400000 in
theorem common_any (a b : List UInt8) (w : World) (ha : a.length ≤ 1000000) (hb : b.length ≤ 1000000) :
    Calls Tryz.prog 97 #[.string ⟨a.toArray⟩, .string ⟨b.toArray⟩] w fun e w' => e = .returned (.int .i64 (Nib.commonL a b)) ∧ Below w.heap.size w w' := by
  rcases Nat.lt_or_ge b.length a.length with hm | hm
  all_goals
    go_enter Tryz.func97, Tryz.ntmps97
    go_wp2
    go_loopw [13] (fun i wr => ∃ k : Nat, k ≤ min a.length b.length ∧ a.take k = b.take k ∧ i = .int .i64 k ∧ Below w.heap.size w wr) (fun i _ => min a.length b.length - (intOf i).toNat)
    case atStart => exact ⟨0, Nat.zero_le _, by simp, rfl, Below.refl _ _⟩
    case round =>
      obtain ⟨k, hk, hf, rfl, hbel⟩ := hrel
      have HF := Lib.hid hf; clear hf
      by_cases hlt : k < min a.length b.length
      · have h1 : (k : Int) < (a.length : Int) := by omega
        have h2 : (k : Int) < (b.length : Int) := by omega
        go_wp2
        go_quiet (fail)
        go_wp2
        · go_ret
          have ht : (((a[k]'(by omega)).toNat : Int) != ((b[k]'(by omega)).toNat : Int)) = true := by assumption
          exact ⟨by rw [Nib.commonL_of_diff a b k (by omega) (by omega) HF.out (Nib.byte_ne ht)]; rfl, bel_drewN hbel _⟩
        · go_roundw
          case rel =>
            have ht : (((a[k]'(by omega)).toNat : Int) != ((b[k]'(by omega)).toNat : Int)) = false := by assumption
            exact ⟨k + 1, by omega, Nib.take_eq_succ a b k (by omega) (by omega) HF.out (Nib.byte_eq ht), by go_num, bel_drewN hbel _⟩
          case measure => simp [intOf]; omega
      · go_wp2
        go_ret
        have := HF.out
        exact ⟨by rw [Nib.commonL_of_end a b k (by omega) this]; exact ret_i64 (by omega), hbel⟩

end Go.Proofs.YtlckcfpdiigjiaaGreatDoor
namespace Go.Proofs.YtlckcfpdiigjiaaGreatDoor
open Go.RowKit
open Sto (T)
open Tri (Tr Ok upd ix hb lay splitT Trim rank)

/-- What with is to answer, of trees of at most this rank. -/
def WithTo (m : Nat) : Prop := ∀ (t : Tr) (v : Value) (p x : T) (w : World) (F : Fm), rank t p ≤ m → F.fresh w → PAt w F false t v → Trim t → Nib.fitL p = true → p.length ≤ 16 →
  Calls Tryz.prog 79 #[v, .string ⟨p.toArray⟩, .string ⟨x.toArray⟩] w (MadeT w F (t.put p x))

set_option maxRecDepth 100000 in
theorem with_nil (p x : T) (w : World) (F : Fm) (hF : F.fresh w) :
    Calls Tryz.prog 79 #[.pointer none, .string ⟨p.toArray⟩, .string ⟨x.toArray⟩] w (MadeT w F (.leaf p x)) := by
  have HLF := Lib.hid (leaf_any p x w F hF)
  unfold MadeT at HLF ⊢
  go_enter Tryz.func79, Tryz.ntmps79
  go_wp2_with fail
  refine HLF.out.mono ?_
  rintro e w1 ⟨v, rfl, hp, hb⟩
  go_wp2
  go_ret
  exact ⟨v, rfl, hp, hb⟩
set_option maxRecDepth 100000 in
set_option maxHeartbeats 1000000 in
theorem with_here {y : T} {k : Fin 16 → Tr} {v : Value} (x : T) (w : World) (F : Fm) (hF : F.fresh w) (h : PAt w F false (.br y k) v) :
    Calls Tryz.prog 79 #[v, .string ⟨#[]⟩, .string ⟨x.toArray⟩] w (MadeT w F (.br x k)) := by
  obtain ⟨g, s', K, rfl, -, -, hr, hk⟩ := h.row id
  have HO := Lib.hid (open_any w hr (fun i => (hk i).oneCell))
  have n0 : w.cell? ⟨g, 0, none⟩ = some (.int .i64 3) := hr.kind
  have HK := Lib.hid hk
  unfold MadeT
  unfold ptr at HO ⊢
  clear h hr hk
  go_enter Tryz.func79, Tryz.ntmps79
  go_wp2_with fail
  refine HO.out.mono ?_
  rintro e w1 ⟨rfl, hr1, hb1⟩
  have m2 := hr1.val
  have f2 := hr1.free 2
  have HR1 := Lib.hid hr1
  have HB := Lib.hid hb1
  clear hr1 hb1
  go_wp2
  go_ret
  have hb2 := HB.out.setCell (p := ⟨w.heap.size, 2, none⟩) (Nat.le_refl _) (.string ⟨x.toArray⟩)
  exact ⟨_, rfl, PAt.new (K := K) id (hF _ (Nat.le_refl _)) (HR1.out.setVal x) (fun i => ((HK.out i).weak).below hb2), hb2⟩
set_option maxRecDepth 100000 in
set_option maxHeartbeats 2000000 in
theorem with_below {m : Nat} (IH : WithTo m) {y : T} {k : Fin 16 → Tr} {v : Value} (b : UInt8) (p x : T) (w : World) (F : Fm) (hm : 2 * p.length + 1 ≤ m) (hF : F.fresh w) (h : PAt w F false (.br y k) v) (hg : Trim (.br y k)) (hf : Nib.fitL (b :: p) = true) (hl : (b :: p).length ≤ 16) :
    Calls Tryz.prog 79 #[v, .string ⟨(b :: p).toArray⟩, .string ⟨x.toArray⟩] w (MadeT w F (.br y (upd k (ix b) ((k (ix b)).put p x)))) := by
  obtain ⟨g, s', K, rfl, -, -, hr, hk⟩ := h.row id
  have HO := Lib.hid (open_any w hr (fun i => (hk i).oneCell))
  have n0 : w.cell? ⟨g, 0, none⟩ = some (.int .i64 3) := hr.kind
  have HK := Lib.hid hk
  have HR := Lib.hid hr
  obtain ⟨hb1, hfp⟩ := Tri.fit_cons.1 hf
  have hix := ix_val hb1
  have hpl : p.length ≤ 16 := by simp at hl; omega
  have HI : Hid (∀ w', Below w.heap.size w w' → w.heap.size < w'.heap.size → Calls Tryz.prog 79 #[K (ix b), .string ⟨p.toArray⟩, .string ⟨x.toArray⟩] w' fun e w'' => ∃ g6, e = .returned (.pointer (some ⟨g6, 0, none⟩)) ∧ PAt w'' (F.off w.heap.size) false ((k (ix b)).put p x) (ptr g6) ∧ Below w'.heap.size w' w'') := Lib.hid (fun w' hb hs =>
    (IH (k (ix b)) (K (ix b)) p x w' _ (Nat.le_trans (Tri.rank_le _ _) hm) ((hF.size hb.size).off hs) (((hk (ix b)).weak.new_off (Nat.le_refl _)).below hb) (hg.br _) hfp hpl).mono fun e w'' ⟨v6, e6, hp6, hb6⟩ => by
      obtain ⟨g6, _, _, rfl, _⟩ := hp6.row (Tri.put_nn _ _ _)
      exact ⟨g6, e6, hp6, hb6⟩)
  have hbyte : ∀ hh, (⟨(b :: p).toArray⟩ : ByteArray)[0]'hh = b := byte_drop rfl
  have htail : (⟨(b :: p).toArray⟩ : ByteArray).extract 1 (b :: p).length = ⟨p.toArray⟩ := tail_drop (n := 0) rfl
  have hne : ((b :: p : List UInt8) == []) = false := rfl
  have z0 : (0 : Int) < ((b :: p).length : Int) := by rw [List.length_cons]; omega
  have z1 : (1 : Int) ≤ ((b :: p).length : Int) := by rw [List.length_cons]; omega
  have z6 : (0 : Int) ≤ (b.toNat : Int) := by omega
  have z7 : (b.toNat : Int) < 16 := by omega
  have HIX := Lib.hid hix
  obtain ⟨vk, hvk⟩ : ∃ vk, K (ix b) = vk := ⟨_, rfl⟩
  rw [hvk] at HI
  have HVK := Lib.hid hvk
  obtain ⟨P, hP⟩ : ∃ P, b :: p = P := ⟨_, rfl⟩
  rw [hP] at hbyte htail hne z0 z1 ⊢
  unfold MadeT
  unfold ptr at HO ⊢
  clear h hr hk hg hf hl hm hb1 hfp hix hpl IH hvk hP
  go_enter Tryz.func79, Tryz.ntmps79
  go_wp2_with fail
  refine HO.out.mono ?_
  rintro e w1 ⟨rfl, hr1, hb1⟩
  obtain ⟨q, hq⟩ : ∃ q, w.heap.size = q := ⟨_, rfl⟩
  have HSZ : Hid (q < w1.heap.size) := Lib.hid (by rw [← hq]; exact lt_of_heap hr1)
  have HGQ : Hid (g < q) := Lib.hid (by rw [← hq]; exact lt_of_heap HR.out)
  have HR1 := Lib.hid hr1
  have HB1 := Lib.hid hb1
  rw [hq] at HR1 HB1 HI ⊢
  have HQ := Lib.hid hq
  have HN1 : Hid (∀ w', Below w1.heap.size w1 w' → w'.cell? ⟨g, 3 + b.toNat, none⟩ = some vk ∧ w'.cell? ⟨q, 3 + b.toNat, none⟩ = some vk ∧ w'.frozen? ⟨q, 3 + b.toNat, none⟩ = false) := Lib.hid (fun w' hb => by
    have k1 := (HR.out.below (by rw [HQ.out]; exact HB1.out)).below hb
    have k2 := HR1.out.below hb
    have e1 := k1.kid (ix b)
    have e2 := k2.kid (ix b)
    rw [HIX.out, HVK.out] at e1 e2
    exact ⟨e1, e2, k2.free _⟩)
  have HK1 : Hid (∀ w' v, Below w1.heap.size w1 w' → (w'.setCell ⟨q, 3 + b.toNat, none⟩ v).cell? ⟨g, 3 + b.toNat, none⟩ = some vk) := Lib.hid (fun w' v hb => keep_cell (HN1.out w' hb).1 (Nat.ne_of_lt HGQ.out))
  have HI2 : Hid (∀ w', Below w1.heap.size w1 w' → Calls Tryz.prog 79 #[vk, .string ⟨p.toArray⟩, .string ⟨x.toArray⟩] w' fun e w'' => ∃ g6, e = .returned (.pointer (some ⟨g6, 0, none⟩)) ∧ PAt w'' (F.off q) false ((k (ix b)).put p x) (ptr g6) ∧ Below w1.heap.size w1 w'') := Lib.hid (fun w' hb => (HI.out w' (HB1.out.trans (hb.mono (Nat.le_of_lt HSZ.out))) (Nat.lt_of_lt_of_le HSZ.out hb.size)).mono fun e w'' ⟨g6, e6, hp6, hb6⟩ => ⟨g6, e6, hp6, hb.trans (hb6.mono hb.size)⟩)
  clear hr1 hb1 hq HI
  go_upto_region 7 with fail
  have BD : Below w1.heap.size w1 w1.drew := (Below.refl _ _).drew
  obtain ⟨c1, c2, c3⟩ := HN1.out _ BD
  go_region_held3 (fun w' => w'.cell? ⟨g, 3 + b.toNat, none⟩ = some vk)
    ((first | (with_reducible exact c1) | (with_reducible exact d1) | (refine HK1.out _ _ ?_; with_reducible assumption)))
    ((go_at_call 79; refine (HI2.out _ ?_).mono ?_; (with_reducible assumption); rintro e w6 ⟨g6, rfl, hp6, hb6⟩; obtain ⟨d1, d2, d3⟩ := HN1.out _ hb6))
  all_goals
    go_wp2
    go_ret
    have hbq : Below w.heap.size w w6 := by rw [HQ.out]; exact HB1.out.trans (hb6.mono (Nat.le_of_lt HSZ.out))
    refine ⟨_, rfl, PAt.new (K := updK K (ix b) (ptr g6)) id (hF _ (Nat.le_of_eq HQ.out)) ?_ (fun i => ?_), by rw [← HQ.out]; exact hbq.setCell (p := ⟨w.heap.size, _, none⟩) (Nat.le_refl _) _⟩
    · have := (HR1.out.below hb6).setKid (ix b) (ptr g6)
      rw [HIX.out] at this
      exact this
    · simp only [Tri.Tr.kid, updK, Tri.upd]
      split
      · exact hp6.off _ _
      · exact (((HK.out i).weak.new_off (Nat.le_of_eq HQ.out)).below hbq).off _ _
end Go.Proofs.YtlckcfpdiigjiaaGreatDoor
namespace Go.Proofs.YtlckcfpdiigjiaaGreatDoor
open Go.RowKit
open Sto (T)
open Tri (Tr Ok upd ix hb lay splitT Trim rank)

/-- Behind the split, if there is one. -/
theorem with_plan {t : Tr} {p : T} (hg : Trim t) (hk : t.kind = 1 ∨ t.kind = 2) (hp : Nib.fitL p = true) (hl : p.length ≤ 16) (x : T) :
    ∃ tb, tb = (if Tri.splits t p then splitT (Nib.commonL t.pth p) t else t.kid 0) ∧ t.put p x = lay (p.take (Nib.commonL t.pth p)) (tb.put (p.drop (Nib.commonL t.pth p)) x) ∧
      Trim tb ∧ rank tb (p.drop (Nib.commonL t.pth p)) ≤ 2 * p.length ∧ (tb.put (p.drop (Nib.commonL t.pth p)) x).pth.length ≤ 16 := by
  have hbr : ∀ u : Tr, u.isBr → rank u (p.drop (Nib.commonL t.pth p)) ≤ 2 * p.length ∧ (u.put (p.drop (Nib.commonL t.pth p)) x).pth.length ≤ 16 := fun u hu => by
    refine ⟨by rw [Tri.rank_br hu]; simp; omega, ?_⟩
    have := Tri.put_br hu (p.drop (Nib.commonL t.pth p)) x
    generalize u.put (p.drop (Nib.commonL t.pth p)) x = y at this ⊢
    cases y <;> simp_all [Tri.Tr.isBr, Tri.Tr.pth]
  refine ⟨_, rfl, ?_⟩
  cases t with
  | nil => rcases hk with h | h <;> cases h
  | br y k => rcases hk with h | h <;> cases h
  | leaf q y =>
    refine ⟨Tri.put_leaf_plan hg.fits hp, ?_⟩
    by_cases h : Tri.splits (.leaf q y) p = true
    · rw [if_pos h]
      exact ⟨hg.split, hbr _ (Tri.split_br _ _)⟩
    · rw [if_neg h]
      refine ⟨Tri.Trim.nil, by simp [Tri.Tr.kid, rank]; omega, ?_⟩
      simp only [Tri.Tr.kid, Tri.Tr.put, Tri.Tr.pth, List.length_drop]
      omega
  | ext q u =>
    refine ⟨Tri.put_ext_plan hg.firm.2.1 hg.firm.1 hg.fits.1 hp, ?_⟩
    by_cases h : Tri.splits (.ext q u) p = true
    · rw [if_pos h]
      exact ⟨hg.split, hbr _ (Tri.split_br _ _)⟩
    · rw [if_neg h]
      have e : (Tr.ext q u).kid 0 = u := by simp [Tri.Tr.kid]
      rw [e]
      exact ⟨hg.ext, hbr _ hg.firm.2.1⟩

theorem cut_drop (p : T) (c : Nat) : (⟨p.toArray⟩ : ByteArray).extract c p.length = ⟨(p.drop c).toArray⟩ := ext_drop p c
theorem cut_take (p : T) (c : Nat) : (⟨p.toArray⟩ : ByteArray).extract 0 c = ⟨(p.take c).toArray⟩ := by rw [Lib.extract_eq]; simp
set_option maxRecDepth 100000 in
set_option maxHeartbeats 2000000 in
theorem with_else {m : Nat} (IH : WithTo m) {t : Tr} {v : Value} (p x : T) (w : World) (F : Fm) (hk : t.kind = 1 ∨ t.kind = 2) (hm : 2 * p.length ≤ m) (hF : F.fresh w) (h : PAt w F false t v) (hg : Trim t) (hf : Nib.fitL p = true) (hl : p.length ≤ 16) :
    Calls Tryz.prog 79 #[v, .string ⟨p.toArray⟩, .string ⟨x.toArray⟩] w (MadeT w F (t.put p x)) := by
  have hnn : ¬ t.isNil := fun e => by rw [← Tri.kind_nil] at e; omega
  obtain ⟨tb, htb, hput, htr, hrk, hpb⟩ := with_plan hg hk hf hl x
  obtain ⟨g, s', K, rfl, -, -, hr, hkk⟩ := h.row hnn
  have hcl := Nib.commonL_le t.pth p
  have hqs : t.pth.length ≤ 16 := by
    have := hg.low
    cases t <;> simp_all [Tri.Tr.low, Tri.Tr.pth]
  have HCM := Lib.hid (fun w => common_any t.pth p w (by omega) (by omega))
  have n0 := hr.kind
  have n1 := hr.path
  have n3 := hr.kid 0
  have HR := Lib.hid hr
  have HH := Lib.hid h
  have HSP : Hid (Tri.splits t p = true → ∀ w', Below w.heap.size w w' → Calls Tryz.prog 98 #[ptr g, .int .i64 (Nib.commonL t.pth p)] w' (MadeT w' F (splitT (Nib.commonL t.pth p) t))) := Lib.hid (fun hs w' hb =>
    split_any _ w' F (hF.size hb.size) (h.below hb) hk hg.firm hg.fits (by omega) hcl.1 (fun h2 => by
      cases t with
      | ext q u => simpa [Tri.splits, Tri.Tr.pth] using hs
      | _ => cases h2))
  obtain ⟨c, hc⟩ : ∃ c, Nib.commonL t.pth p = c := ⟨_, rfl⟩
  rw [hc] at htb hput hrk hpb hcl HCM HSP
  obtain ⟨q, hq⟩ : ∃ q, t.pth = q := ⟨_, rfl⟩
  rw [hq] at hcl hqs HCM n1
  have HRB : Hid (∀ w' vb, Below w.heap.size w w' → PAt w' F false tb vb → Calls Tryz.prog 79 #[vb, .string ⟨(p.drop c).toArray⟩, .string ⟨x.toArray⟩] w' (MadeT w' F (tb.put (p.drop c) x))) := Lib.hid (fun w' vb hb hp =>
    IH tb vb (p.drop c) x w' F (Nat.le_trans hrk hm) (hF.size hb.size) hp htr (Tri.fit_drop _ hf) (by simp; omega))
  have HBH : Hid (∀ w' v6, Below w.heap.size w w' → PAt w' F false (tb.put (p.drop c) x) v6 → Calls Tryz.prog 99 #[v6, .string ⟨(p.take c).toArray⟩] w' (MadeT w' F (t.put p x))) := Lib.hid (fun w' v6 hb hp => by
    rw [hput]
    exact behind_any (p.take c) w' F (hF.size hb.size) hp (Or.inr (Tri.put_nn _ _ _)) (by simp; omega) (by omega))
  have htail := cut_drop p c
  have htake := cut_take p c
  have z0 : (0 : Int) ≤ (c : Int) := by omega
  have z1 : (c : Int) ≤ (p.length : Int) := by omega
  obtain ⟨P1, hP1⟩ : ∃ P1, p.drop c = P1 := ⟨_, rfl⟩
  obtain ⟨P2, hP2⟩ : ∃ P2, p.take c = P2 := ⟨_, rfl⟩
  rw [hP1] at htail HRB HBH
  rw [hP2] at htake HBH
  have hkd : (t.kind : Int) ≠ 3 := by omega
  have e3 : ((t.kind : Int) == 3) = false := by rw [beq_eq_false_iff_ne]; exact hkd
  obtain ⟨b1, hb1⟩ : ∃ b, decide ((c : Int) < (q.length : Int)) = b := ⟨_, rfl⟩
  obtain ⟨b2, hb2⟩ : ∃ b, ((t.kind : Int) == 1) = b := ⟨_, rfl⟩
  obtain ⟨b3, hb3⟩ : ∃ b, decide ((c : Int) < (p.length : Int)) = b := ⟨_, rfl⟩
  have hsp : Tri.splits t p = (b1 || (b2 && b3)) := by
    subst hb1 hb2 hb3
    cases t with
    | nil => exact absurd trivial hnn
    | br y k => rcases hk with h | h <;> cases h
    | leaf q' y =>
      obtain rfl : q' = q := hq
      have hc2 : Nib.commonL q' p = c := hc
      simp only [Tri.splits, hc2, Tri.Tr.kind]
      rw [Bool.eq_iff_iff]; simp
    | ext q' y =>
      obtain rfl : q' = q := hq
      have hc2 : Nib.commonL q' p = c := hc
      simp only [Tri.splits, hc2, Tri.Tr.kind]
      rw [Bool.eq_iff_iff]; simp
  obtain ⟨kd, hkd2⟩ : ∃ kd, t.kind = kd := ⟨_, rfl⟩
  rw [hkd2] at n0 e3 hb2
  have hvk : PAt w F false (t.kid 0) (K 0) := (hkk 0).weak
  obtain ⟨vk, hvk2⟩ : ∃ vk, K 0 = vk := ⟨_, rfl⟩
  rw [hvk2] at n3 hvk
  have HVK := Lib.hid hvk
  have HTB := Lib.hid htb
  have HG : Hid (∀ w', Below w.heap.size w w' → w'.cell? ⟨g, 0, none⟩ = some (.int .i64 kd) ∧ w'.cell? ⟨g, 1, none⟩ = some (.string ⟨q.toArray⟩) ∧ w'.cell? ⟨g, 3, none⟩ = some vk) := Lib.hid (fun w' hb => by
    have k1 := hr.below hb
    have k3 := k1.kid 0
    rw [hvk2] at k3
    exact ⟨by rw [k1.kind, hkd2], by rw [k1.path, hq], k3⟩)
  have HSB : Hid (Tri.splits t p = (b1 || (b2 && b3))) := Lib.hid hsp
  unfold MadeT at HRB HBH HSP ⊢
  unfold ptr at HSP ⊢
  obtain ⟨TP, hTP⟩ : ∃ TP, t.put p x = TP := ⟨_, rfl⟩
  rw [hTP] at HBH ⊢
  clear h hg hf hl hm hcl hqs hput htr hrk hpb hr hkk IH hP1 hP2 hkd hsp hkd2 hvk hvk2 htb hc hq hTP hnn
  have hb1n : decide (c < q.length) = b1 := by rw [← hb1, decide_eq_decide]; omega
  have hb3n : decide (c < p.length) = b3 := by rw [← hb3, decide_eq_decide]; omega
  have hb2n : (kd == 1) = b2 := by rw [← hb2, Bool.eq_iff_iff]; simp; omega
  have HEND : Hid (∀ w', Below w.heap.size w w' → Below w.heap.size w w'.drew ∧ ∀ vb, PAt w' F false tb vb → PAt w'.drew F false tb vb) := Lib.hid (fun w' hb => ⟨hb.drew, fun vb hp => hp.below (Below.refl _ _).drew⟩)
  have HSPW : Hid (∀ b, Tri.splits t p = b → (b = true → (if Tri.splits t p then splitT c t else t.kid 0) = splitT c t) ∧ (b = false → (if Tri.splits t p then splitT c t else t.kid 0) = t.kid 0)) := Lib.hid (fun b hb => by rw [hb]; exact ⟨fun e => by rw [e]; rfl, fun e => by rw [e]; rfl⟩)
  clear hk
  cases b1 with
  | true =>
    replace HSP := Lib.hid (HSP.out HSB.out)
    replace HTB : Hid (tb = splitT c t) := Lib.hid (HTB.out.trans ((HSPW.out _ HSB.out).1 rfl))
    clear HSB HSPW
    go_enter Tryz.func79, Tryz.ntmps79
    go_wp2_with fail
    refine (HCM.out _).mono ?_
    rintro e w1 ⟨rfl, hbw1⟩
    obtain ⟨m0, m1, m3⟩ := HG.out _ hbw1
    have HB1 := Lib.hid hbw1
    clear hbw1
    go_wp2_with fail
    refine (HSP.out _ HB1.out).mono ?_
    rintro e w2 ⟨vb, rfl, hpb, hbs⟩
    have HB2 := Lib.hid (bchain HB1.out hbs)
    have HPB : Hid (PAt w2 F false tb vb) := Lib.hid (by rw [HTB.out]; exact hpb)
    clear hpb hbs m0 m1 m3
    go_upto_region 13 with fail
    obtain ⟨BD, PD0⟩ := HEND.out _ HB2.out
    have PD := PD0 _ HPB.out
    clear PD0
    go_region_held3 (fun _ => True) (trivial)
      (first | (go_at_call 79; refine (HRB.out _ vb ?_ ?_).mono ?_; (with_reducible exact BD); (with_reducible exact PD); rintro e w6 ⟨v6, rfl, hp6, hb6⟩; have hb6' := bchain BD hb6) | (go_at_call 99; refine (HBH.out _ v6 ?_ ?_).mono ?_; (with_reducible exact hb6'); (with_reducible exact hp6); rintro e w7 ⟨v7, rfl, hp7, hb7⟩; have hb7' := bchain hb6' hb7))
    all_goals
      go_wp2
      go_ret
      exact ⟨v7, rfl, hp7, hb7'⟩
  | false =>
    cases b2 with
    | false =>
      replace HTB : Hid (tb = t.kid 0) := Lib.hid (HTB.out.trans ((HSPW.out _ HSB.out).2 rfl))
      clear HSB HSPW HSP
      go_enter Tryz.func79, Tryz.ntmps79
      go_wp2_with fail
      refine (HCM.out _).mono ?_
      rintro e w1 ⟨rfl, hbw1⟩
      obtain ⟨m0, m1, m3⟩ := HG.out _ hbw1
      have HB1 := Lib.hid hbw1
      clear hbw1
      obtain ⟨vb, hvb⟩ : ∃ vb, vk = vb := ⟨_, rfl⟩
      rw [hvb] at m3
      have HPB : Hid (PAt w1 F false tb vb) := Lib.hid (by rw [HTB.out, ← hvb]; exact HVK.out.below HB1.out)
      clear hvb
      go_upto_region 13 with fail
      obtain ⟨BD, PD0⟩ := HEND.out _ HB1.out
      have PD := PD0 _ HPB.out
      clear PD0 m0 m1 m3
      go_region_held3 (fun _ => True) (trivial)
        (first | (go_at_call 79; refine (HRB.out _ vb ?_ ?_).mono ?_; (with_reducible exact BD); (with_reducible exact PD); rintro e w6 ⟨v6, rfl, hp6, hb6⟩; have hb6' := bchain BD hb6) | (go_at_call 99; refine (HBH.out _ v6 ?_ ?_).mono ?_; (with_reducible exact hb6'); (with_reducible exact hp6); rintro e w7 ⟨v7, rfl, hp7, hb7⟩; have hb7' := bchain hb6' hb7))
      all_goals
        go_wp2
        go_ret
        exact ⟨v7, rfl, hp7, hb7'⟩
    | true =>
      cases b3 with
      | false =>
        replace HTB : Hid (tb = t.kid 0) := Lib.hid (HTB.out.trans ((HSPW.out _ HSB.out).2 rfl))
        clear HSB HSPW HSP
        go_enter Tryz.func79, Tryz.ntmps79
        go_wp2_with fail
        refine (HCM.out _).mono ?_
        rintro e w1 ⟨rfl, hbw1⟩
        obtain ⟨m0, m1, m3⟩ := HG.out _ hbw1
        have HB1 := Lib.hid hbw1
        clear hbw1
        obtain ⟨vb, hvb⟩ : ∃ vb, vk = vb := ⟨_, rfl⟩
        rw [hvb] at m3
        have HPB : Hid (PAt w1 F false tb vb) := Lib.hid (by rw [HTB.out, ← hvb]; exact HVK.out.below HB1.out)
        clear hvb
        go_upto_region 13 with fail
        obtain ⟨BD, PD0⟩ := HEND.out _ HB1.out
        have PD := PD0 _ HPB.out
        clear PD0 m0 m1 m3
        go_region_held3 (fun _ => True) (trivial)
          (first | (go_at_call 79; refine (HRB.out _ vb ?_ ?_).mono ?_; (with_reducible exact BD); (with_reducible exact PD); rintro e w6 ⟨v6, rfl, hp6, hb6⟩; have hb6' := bchain BD hb6) | (go_at_call 99; refine (HBH.out _ v6 ?_ ?_).mono ?_; (with_reducible exact hb6'); (with_reducible exact hp6); rintro e w7 ⟨v7, rfl, hp7, hb7⟩; have hb7' := bchain hb6' hb7))
        all_goals
          go_wp2
          go_ret
          exact ⟨v7, rfl, hp7, hb7'⟩
      | true =>
        replace HSP := Lib.hid (HSP.out HSB.out)
        replace HTB : Hid (tb = splitT c t) := Lib.hid (HTB.out.trans ((HSPW.out _ HSB.out).1 rfl))
        clear HSB HSPW
        go_enter Tryz.func79, Tryz.ntmps79
        go_wp2_with fail
        refine (HCM.out _).mono ?_
        rintro e w1 ⟨rfl, hbw1⟩
        obtain ⟨m0, m1, m3⟩ := HG.out _ hbw1
        have HB1 := Lib.hid hbw1
        clear hbw1
        go_wp2_with fail
        refine (HSP.out _ HB1.out).mono ?_
        rintro e w2 ⟨vb, rfl, hpb, hbs⟩
        have HB2 := Lib.hid (bchain HB1.out hbs)
        have HPB : Hid (PAt w2 F false tb vb) := Lib.hid (by rw [HTB.out]; exact hpb)
        clear hpb hbs m0 m1 m3
        go_upto_region 13 with fail
        obtain ⟨BD, PD0⟩ := HEND.out _ HB2.out
        have PD := PD0 _ HPB.out
        clear PD0
        go_region_held3 (fun _ => True) (trivial)
          (first | (go_at_call 79; refine (HRB.out _ vb ?_ ?_).mono ?_; (with_reducible exact BD); (with_reducible exact PD); rintro e w6 ⟨v6, rfl, hp6, hb6⟩; have hb6' := bchain BD hb6) | (go_at_call 99; refine (HBH.out _ v6 ?_ ?_).mono ?_; (with_reducible exact hb6'); (with_reducible exact hp6); rintro e w7 ⟨v7, rfl, hp7, hb7⟩; have hb7' := bchain hb6' hb7))
        all_goals
          go_wp2
          go_ret
          exact ⟨v7, rfl, hp7, hb7'⟩
/-- with, of any tree. -/
theorem with_to (m : Nat) : WithTo m := by
  induction m using Nat.strongRecOn with
  | ind m IH =>
    intro t v p x w F hr hF h hg hf hl
    cases t with
    | nil =>
      have e : v = .pointer none := h
      subst e
      exact with_nil p x w F hF
    | leaf q y =>
      have hm : 2 * p.length + 1 ≤ m := hr
      exact with_else (IH (m - 1) (by omega)) p x w F (Or.inl rfl) (by omega) hF h hg hf hl
    | ext q u =>
      have hm : 2 * p.length + 1 ≤ m := hr
      exact with_else (IH (m - 1) (by omega)) p x w F (Or.inr rfl) (by omega) hF h hg hf hl
    | br y k =>
      cases p with
      | nil => exact with_here x w F hF h
      | cons b p =>
        have hm : 2 * (b :: p).length ≤ m := hr
        rw [List.length_cons] at hm
        exact with_below (IH (m - 1) (by omega)) b p x w F (by omega) hF h hg hf hl
theorem with_any {t : Tr} {v : Value} (p x : T) (w : World) (F : Fm) (hF : F.fresh w) (h : PAt w F false t v) (hg : Trim t) (hf : Nib.fitL p = true) (hl : p.length ≤ 16) :
    Calls Tryz.prog 79 #[v, .string ⟨p.toArray⟩, .string ⟨x.toArray⟩] w (MadeT w F (t.put p x)) := with_to _ t v p x w F (Nat.le_refl _) hF h hg hf hl
end Go.Proofs.YtlckcfpdiigjiaaGreatDoor
