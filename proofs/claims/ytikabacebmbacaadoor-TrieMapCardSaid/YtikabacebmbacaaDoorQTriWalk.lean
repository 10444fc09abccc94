/- (*part).walk: through a tree, in order; below a node only where it is wanted. -/
import Derived.Test.YtikabacebmbacaaDoorPk07
namespace Go.Proofs.YtikabacebmbacaaDoor
open Go.RowKit
open Sto (T)
open Tri (Tr Ok upd ix hb lay splitT Trim rank)
open Go.Proofs.YtikabacebmbacaaDoor.Nd (N)
namespace Tri
/-- The nodes that are come to, each with its place. -/
def Tr.visits (want : T → Bool) : T → Tr → List (T × Tr)
  | _, .nil => []
  | p, .leaf q v => [(p, .leaf q v)]
  | p, .ext q t => (p, .ext q t) :: if want p then t.visits want (p ++ q) else []
  | p, .br v k => (p, .br v k) :: if want p then (List.finRange 16).flatMap fun i => (k i).visits want (p ++ [hb i]) else []
end Tri
theorem flat_one {α : Type} (f : Fin 16 → List α) (h : ∀ i, i ≠ 0 → f i = []) : (List.finRange 16).flatMap f = f 0 := by
  rw [show List.finRange 16 = 0 :: (List.finRange 16).tail from rfl, List.flatMap_cons]
  have : (List.finRange 16).tail.flatMap f = [] := by
    rw [List.flatMap_eq_nil_iff]
    intro i hi
    refine h i ?_
    rintro rfl
    revert hi
    decide
  rw [this, List.append_nil]
theorem flat_take {α : Type} (f : Fin 16 → List α) (k : Nat) (i : Fin 16) (hi : i.val = k) : (((List.finRange 16).take k).flatMap f).length + (f i).length ≤ ((List.finRange 16).flatMap f).length := by
  have h1 : (List.finRange 16).take (k + 1) = (List.finRange 16).take k ++ [i] := by
    have hl : k < (List.finRange 16).length := by have := i.isLt; simp; omega
    rw [List.take_succ_eq_append_getElem hl]
    congr 2
    exact Fin.ext (by simp [hi])
  have h2 := congrArg (fun l => (l.flatMap f).length) (List.take_append_drop (k + 1) (List.finRange 16))
  simp only [List.flatMap_append, List.length_append, h1, List.flatMap_singleton] at h2
  omega
theorem visits_kid (want : T → Bool) (p : T) {t : Tr} (h : ¬ t.isNil) : t.visits want p = (p, t) :: if want p then (List.finRange 16).flatMap fun i => (t.kid i).visits want (placeT t.kind (p ++ t.pth) i) else [] := by
  cases t with
  | nil => exact absurd trivial h
  | leaf q v =>
    rw [Tri.Tr.visits]
    have : ((List.finRange 16).flatMap fun i => ((Tr.leaf q v).kid i).visits want (placeT (Tr.leaf q v).kind (p ++ (Tr.leaf q v).pth) i)) = [] := by
      rw [List.flatMap_eq_nil_iff]; intro i _; rfl
    rw [this]
    cases want p <;> rfl
  | ext q u =>
    rw [Tri.Tr.visits, flat_one _ (fun i hi => by simp only [Tri.Tr.kid, if_neg hi]; rfl)]
    rfl
  | br v k =>
    rw [Tri.Tr.visits]
    simp [Tri.Tr.kid, placeT, Tri.Tr.kind, Tri.Tr.pth]
/-- What a closure that is handed to walk does. -/
structure Visits (w0 : World) (F : Fm) (id : Nat) (caps : Array Value) (want : T → Bool) (I : World → List (T × Tr) → Prop) : Prop where
  call : ∀ args w, (callFunc id args).run Tryd.prog w = .ok (.enter id args) w
  keep : ∀ w' w'' L, I w' L → Below w'.heap.size w' w'' → I w'' L
  step : ∀ (w' : World) (L : List (T × Tr)) (p : T) (t : Tr) (v : Value), L.length < 100000 → Below w0.heap.size w0 w' → I w' L → PAt w0 F true t v → ¬ t.isNil → Ok t → Nib.fitL p = true → (∀ x ∈ t.items, p.length + x.1.length ≤ 16) →
    Calls Tryd.prog id (#[v, .string ⟨p.toArray⟩] ++ caps) w' fun e w'' => e = .returned (.bool (want p)) ∧ I w'' (L ++ [(p, t)]) ∧ Below w0.heap.size w0 w''
def WalkTo (w0 : World) (F : Fm) (id : Nat) (caps : Array Value) (want : T → Bool) (I : World → List (T × Tr) → Prop) (t : Tr) : Prop :=
  ∀ (w' : World) (L : List (T × Tr)) (p : T) (v : Value), L.length + (t.visits want p).length ≤ 100000 → Below w0.heap.size w0 w' → I w' L → PAt w0 F true t v → Ok t → Nib.fitL p = true → (∀ x ∈ t.items, p.length + x.1.length ≤ 16) →
    Calls Tryd.prog 35 #[v, .string ⟨p.toArray⟩, .func (.func id) #[] caps] w' fun e w'' => e = .returned (.tuple #[]) ∧ I w'' (L ++ t.visits want p) ∧ Below w0.heap.size w0 w''
theorem items_kid {t : Tr} (p : T) (h : ∀ x ∈ t.items, p.length + x.1.length ≤ 16) (i : Fin 16) : ∀ x ∈ (t.kid i).items, (placeT t.kind (p ++ t.pth) i).length + x.1.length ≤ 16 := by
  intro x hx
  cases t with
  | nil => cases hx
  | leaf q v => cases hx
  | ext q u =>
    simp only [Tri.Tr.kid] at hx
    split at hx
    · have := h (q ++ x.1, x.2) (Tri.mem_behind.2 ⟨x.1, hx, rfl⟩)
      simp [placeT, Tri.Tr.kind, Tri.Tr.pth] at this ⊢
      omega
    · cases hx
  | br v k =>
    have := h (hb i :: x.1, x.2) (Tri.mem_br.2 (Or.inr ⟨i, x.1, rfl, hx⟩))
    simp [placeT, Tri.Tr.kind, Tri.Tr.pth] at this ⊢
    omega
theorem pth_len {t : Tr} {p : T} (ho : Ok t) (hn : ¬ t.isNil) (h : ∀ x ∈ t.items, p.length + x.1.length ≤ 16) : p.length + t.pth.length ≤ 16 := by
  have hne : t.items ≠ [] := fun e => hn ((Tri.items_nil ho.canon).1 e)
  obtain ⟨a, l, e⟩ := List.exists_cons_of_ne_nil hne
  have ha : a ∈ t.items := by rw [e]; exact List.mem_cons_self ..
  have h1 := h a ha
  cases t with
  | nil => exact absurd trivial hn
  | leaf q v =>
    obtain rfl := List.mem_singleton.1 ha
    exact h1
  | ext q u =>
    obtain ⟨r, _, e2⟩ := Tri.mem_behind.1 ha
    rw [e2] at h1
    simp [Tri.Tr.pth] at h1 ⊢
    omega
  | br v k =>
    simp only [Tri.Tr.pth, List.length_nil]
    omega
theorem hb_fit (i : Fin 16) : Nib.fitL [hb i] = true := Tri.fit_cons.2 ⟨by rw [Tri.hb_toNat]; have := i.isLt; omega, rfl⟩
theorem place_fit {t : Tr} {p : T} (hf : t.fits) (hp : Nib.fitL p = true) (i : Fin 16) : Nib.fitL (placeT t.kind (p ++ t.pth) i) = true := by
  have h1 : Nib.fitL t.pth = true := by
    cases t with
    | nil => rfl
    | leaf q v => exact hf
    | ext q u => exact hf.1
    | br v k => rfl
  have h2 := Tri.fit_append.2 ⟨hp, h1⟩
  unfold placeT
  split
  · exact Tri.fit_append.2 ⟨h2, hb_fit i⟩
  · exact h2
set_option maxRecDepth 100000 in
theorem walk_nil {w0 : World} {F : Fm} {id : Nat} {caps : Array Value} {want : T → Bool} {I : World → List (T × Tr) → Prop} : WalkTo w0 F id caps want I .nil := by
  intro w' L p v _ hb hI h _ _ _
  have e : v = .pointer none := h
  subst e
  have HI := Lib.hid hI
  have HB := Lib.hid hb
  clear hI hb h
  go_enter Tryd.func35, Tryd.ntmps35
  go_wp2
  refine bodyPost_ret (results_none rfl _ _ _) rfl ⟨rfl, ?_, HB.out⟩
  rw [Tri.Tr.visits, List.append_nil]
  exact HI.out
set_option maxRecDepth 100000 in
set_option maxHeartbeats 2000000 in
theorem walk_some {w0 : World} {F : Fm} {id : Nat} {caps : Array Value} {want : T → Bool} {I : World → List (T × Tr) → Prop} (hV : Visits w0 F id caps want I) {t : Tr} (hn : ¬ t.isNil) (IH : ∀ i, WalkTo w0 F id caps want I (t.kid i)) : WalkTo w0 F id caps want I t := by
  intro w L p v hlen hb hI h ho hf hl
  have HV := Lib.hid (hV.step w L p t v (by rw [visits_kid want p hn, List.length_cons] at hlen; omega) hb hI h hn ho hf hl)
  obtain ⟨g, s', K, rfl, hs, -, hr, hk⟩ := h.row hn
  obtain rfl := hs rfl
  unfold ptr at HV ⊢
  obtain ⟨b, hbw⟩ : ∃ b, want p = b := ⟨_, rfl⟩
  rw [hbw] at HV
  have hcall := hV.call
  have HKEEP := Lib.hid hV.keep
  have HVK := Lib.hid (visits_kid want p hn)
  have HPW : Hid (want p = b) := Lib.hid hbw
  have HB := Lib.hid hb
  have HR := Lib.hid hr
  have HRG : Hid (∀ w', Below w0.heap.size w0 w' → RowP w' g t.kind t.pth t.vl K (if True then t.sum Nd.sumS else [])) := Lib.hid (fun w' hb' => by
    have := hr.below hb'
    simpa using this)
  have HI := Lib.hid (kcl_info K)
  have HKE := Lib.hid (fun (i : Fin 16) w => index_kids K i w)
  have HK := Lib.hid hk
  have hpl := pth_len ho hn hl
  have HPL : Hid (∀ (k : Nat), k ≤ 3 → ∀ (i : Fin 16) w, Calls Tryd.prog 55 #[.int .i64 k, .string ⟨(p ++ t.pth).toArray⟩, .int .i64 i.val] w fun r w' => r = .returned (.string ⟨(placeT k (p ++ t.pth) i).toArray⟩) ∧ Below w.heap.size w w') := Lib.hid (fun k hk i w => place_any k _ i w (by simp; omega) hk)
  have HIH : Hid (∀ (i : Fin 16) (w' : World) (L' : List (T × Tr)), L'.length + ((t.kid i).visits want (placeT t.kind (p ++ t.pth) i)).length ≤ 100000 → Below w0.heap.size w0 w' → I w' L' → Calls Tryd.prog 35 #[K i, .string ⟨(placeT t.kind (p ++ t.pth) i).toArray⟩, .func (.func id) #[] caps] w' fun e w'' => e = .returned (.tuple #[]) ∧ I w'' (L' ++ (t.kid i).visits want (placeT t.kind (p ++ t.pth) i)) ∧ Below w0.heap.size w0 w'') := Lib.hid (fun i w' L' hle hb' hI' =>
    IH i w' L' _ _ hle hb' hI' (hk i) (ho.kid i) (place_fit ho.fits hf i) (items_kid p hl i))
  have hkd : t.kind ≤ 3 := by cases t <;> simp [Tri.Tr.kind]
  obtain ⟨kd, hkd2⟩ : ∃ kd, t.kind = kd := ⟨_, rfl⟩
  obtain ⟨pp, hpp⟩ : ∃ pp, t.pth = pp := ⟨_, rfl⟩
  rw [hkd2, hpp] at HVK HRG HIH
  rw [hpp] at HPL hpl
  rw [hkd2] at hkd
  have HCM := Lib.hid (HPL.out kd hkd)
  have HLEN : Hid (b = true → ∀ k (i : Fin 16), i.val = k → (L ++ [(p, t)] ++ ((List.finRange 16).take k).flatMap fun j => (t.kid j).visits want (placeT kd (p ++ pp) j)).length + ((t.kid i).visits want (placeT kd (p ++ pp) i)).length ≤ 100000) := Lib.hid (fun hb2 k i hi => by
    have h2 := hlen
    rw [HVK.out, hbw, if_pos hb2, List.length_cons] at h2
    have h3 := flat_take (fun j => (t.kid j).visits want (placeT kd (p ++ pp) j)) k i hi
    simp only [List.length_append, List.length_singleton]
    omega)
  obtain ⟨VT, hVT⟩ : ∃ VT, t.visits want p = VT := ⟨_, rfl⟩
  rw [hVT] at HVK ⊢
  have cL : p.length ≤ 1000 := by omega
  have cL2 : pp.length ≤ 1000 := by omega
  have hcm := cat_mk p pp
  clear hlen hV h ho hf hl hr hk hb hI IH hkd2 hpp HPL hVT hbw hpl hn
  cases b with
  | false =>
    go_enter Tryd.func35, Tryd.ntmps35
    go_wp2_with fail
    refine HV.out.mono ?_
    rintro e w1 ⟨rfl, hI1, hb1⟩
    go_wp2
    refine bodyPost_ret (results_none rfl _ _ _) rfl ⟨rfl, ?_, hb1⟩
    rw [HVK.out, HPW.out]
    exact hI1
  | true =>
    replace HLEN := Lib.hid (HLEN.out rfl)
    go_enter Tryd.func35, Tryd.ntmps35
    go_wp2_with fail
    refine HV.out.mono ?_
    rintro e w1 ⟨rfl, hI1, hb1⟩
    have HI1 := Lib.hid hI1
    have HB1 := Lib.hid hb1
    have HRA := Lib.hid (HRG.out w1 hb1).range
    clear hI1 hb1
    go_wp2_with (refine wpList_load_mid (by rfl) _ _ (by rfl) g 3 (by rfl) (kcl K) _ HRA.out Tryd.underlying71 (by rfl) HI.out ?_)
    obtain ⟨KC, hKC⟩ : ∃ KC, kcl K = KC := ⟨_, rfl⟩
    rw [hKC] at HKE HI HRA ⊢
    clear hKC
    go_loopw [21] (fun i wr => ∃ k : Nat, k ≤ 16 ∧ i = .int .i64 k ∧ I wr (L ++ [(p, t)] ++ ((List.finRange 16).take k).flatMap fun j => (t.kid j).visits want (placeT kd (p ++ pp) j)) ∧ Below w0.heap.size w0 wr) (fun i _ => 16 - (intOf i).toNat)
    case atStart => exact ⟨0, Nat.zero_le _, rfl, by rw [List.take_zero, List.flatMap_nil, List.append_nil]; exact HI1.out, HB1.out⟩
    case round =>
      obtain ⟨k, hk, rfl, hIr, hbr⟩ := hrel
      have HIR := Lib.hid hIr
      have HBR := Lib.hid hbr
      by_cases hlt : k < 16
      · obtain ⟨i, hi⟩ : ∃ i : Fin 16, i.val = k := ⟨⟨k, hlt⟩, rfl⟩
        have h1 : (k : Int) < 16 := by omega
        have h0 : (0 : Int) ≤ (k : Int) := by omega
        have n0 := HKE.out i
        rw [hi] at n0
        have HTK : Hid ((List.finRange 16).take (k + 1) = (List.finRange 16).take k ++ [i]) := Lib.hid (by
          have hl : k < (List.finRange 16).length := by simpa using hlt
          rw [List.take_succ_eq_append_getElem hl]
          congr 2
          exact Fin.ext (by simp [hi]))
        have hki := HK.out i
        by_cases hnl : (t.kid i).isNil
        · have e : K i = .pointer none := by rw [Tri.isNil_eq hnl] at hki; exact hki
          rw [e] at n0
          have HZ : Hid ((t.kid i).visits want (placeT kd (p ++ pp) i) = []) := Lib.hid (by rw [Tri.isNil_eq hnl]; rfl)
          clear hki hnl e hIr hbr
          go_wp2
          exact ⟨⟨k + 1, by omega, by go_num, by rw [HTK.out, List.flatMap_append, List.flatMap_singleton, HZ.out, List.append_nil]; exact HIR.out, HBR.out⟩, by simp [intOf]; omega⟩
        · obtain ⟨g6, e⟩ := hki.ptr hnl
          rw [e] at n0
          have HC := Lib.hid (fun (w' : World) hb' hI' => HIH.out i w' _ (HLEN.out k i hi) hb' hI')
          rw [e] at HC
          have HPP := Lib.hid (fun w => HCM.out i w)
          rw [hi] at HPP
          have hrr := HRG.out wr hbr
          have m0 : wr.cell? ⟨g, 0, none⟩ = some (.int .i64 kd) := hrr.kind
          have HG : Hid (∀ w', Below wr.heap.size wr w' → w'.cell? ⟨g, 0, none⟩ = some (.int .i64 kd) ∧ w'.cell? ⟨g, 1, none⟩ = some (.string ⟨pp.toArray⟩)) := Lib.hid (fun w' hb' => by
            have k1 := hrr.below hb'
            exact ⟨k1.kind, k1.path⟩)
          have HGB : Hid (∀ w', Below w0.heap.size w0 w' → w'.cell? ⟨g, 0, none⟩ = some (.int .i64 kd) ∧ w'.cell? ⟨g, 1, none⟩ = some (.string ⟨pp.toArray⟩)) := Lib.hid (fun w' hb' => by
            have k1 := HRG.out w' hb'
            exact ⟨k1.kind, k1.path⟩)
          obtain ⟨PL, hPL⟩ : ∃ PL, placeT kd (p ++ pp) i = PL := ⟨_, rfl⟩
          rw [hPL] at HC HPP
          have HPLE := Lib.hid hPL
          clear hki hnl e hIr hbr hrr m0 hPL hi
          go_upto_region 5 with fail
          have BD : Below w0.heap.size w0 wr.drew := HBR.out.drew
          have hID : I wr.drew (L ++ [(p, t)] ++ ((List.finRange 16).take k).flatMap fun j => (t.kid j).visits want (placeT kd (p ++ pp) j)) := HKEEP.out _ _ _ HIR.out (Below.refl _ _).drew
          have HID := Lib.hid hID
          obtain ⟨c0, c1⟩ := HGB.out _ BD
          clear hID
          go_region_with (first | (go_at_call 55; refine (HPP.out _).mono ?_; rintro e w6 ⟨rfl, hb6⟩; have hI6 := Lib.hid (HKEEP.out _ _ _ HID.out hb6); have hb6' := BD.trans (hb6.mono BD.size)) | (go_at_call 35; refine (HC.out _ ?_ hI6.out).mono ?_; (with_reducible exact hb6'); rintro e w7 ⟨rfl, hI7, hb7⟩; have hI7' := Lib.hid hI7))
          all_goals
            go_wp2
            refine ⟨⟨k + 1, by omega, by go_num, ?_, hb7⟩, by simp [intOf]; omega⟩
            rw [HTK.out, List.flatMap_append, List.flatMap_singleton, HPLE.out, ← List.append_assoc]
            exact hI7'.out
      · have h1 : ¬ ((k : Int) < 16) := by omega
        obtain rfl : k = 16 := by omega
        clear hIr hbr
        go_wp2
        go_end0
        refine ⟨rfl, ?_, HBR.out⟩
        have h2 := HIR.out
        rw [List.take_of_length_le (by simp)] at h2
        rw [HVK.out, HPW.out, if_pos rfl]
        simpa using h2
/-- walk, of any tree. -/
theorem walk_to {w0 : World} {F : Fm} {id : Nat} {caps : Array Value} {want : T → Bool} {I : World → List (T × Tr) → Prop} (hV : Visits w0 F id caps want I) (t : Tr) : WalkTo w0 F id caps want I t := by
  induction t using Tri.kid_ind with
  | h0 => exact walk_nil
  | h t hn IH => exact walk_some hV hn IH
end Go.Proofs.YtikabacebmbacaaDoor
