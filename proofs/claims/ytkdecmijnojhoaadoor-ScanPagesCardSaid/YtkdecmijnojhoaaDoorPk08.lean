/- TriSeal, TriWalk, PowMath, PowBase, AppendArg, NibSide, TriFind, TriSide, TriTexts, TriWants, NibCommon, TriWith -/
import Derived.Test.YtkdecmijnojhoaaDoorPk07
import Derived.Test.YtkdecmijnojhoaaDoorPk05
import Derived.Test.YtkdecmijnojhoaaDoorPk06
import Derived.Test.YtkdecmijnojhoaaDoorChecked
import Derived.Test.YtkdecmijnojhoaaDoorPk01
import Derived.Deep.Slices
import Derived.DataReads
import Derived.OpenShut
import Derived.SizedLaws
import Derived.Lib.LaidU8
import Derived.Test.YtkdecmijnojhoaaDoorPk02
import Derived.Maps.AppendAt
import Derived.WalkSpells
import Derived.WalkLawsBesides
import Derived.Lib.Hide
import Derived.Lib.Strings
import Derived.Deep.QuietTactic
import Derived.BigQuiet
import Derived.Test.YtkdecmijnojhoaaDoorPk03
import Derived.Test.YtkdecmijnojhoaaDoorPk04
import Derived.Deep.RegionLaw
import Derived.WalkKit
import Derived.ShutString
import Derived.WalkSmall
namespace Go.Proofs.YtkdecmijnojhoaaDoor
open Go.RowKit
open Sto (T)
open Tri (Tr Ok upd ix hb lay splitT Trim rank)
open Go.Proofs.YtkdecmijnojhoaaDoor.Nd (N)

theorem Tab.mid {w w' : World} {B : Nat} (h : Tab w) (hb : Below B w w') (hB : 1 < B) : Tab w' := fun i hi => (hb.cell (p := ⟨1, i, none⟩) hB).trans (h i hi)
theorem from_mono (B : Nat) : ∀ s g, Fm.from B s g → Fm.from B true g := fun _ _ _ e => by cases e
/-- What sealing keeps: every tree is what it was; only sums are written. -/
def Keeps (B : Nat) (w w' : World) : Prop := (∀ s u z, PAt w (Fm.from B) s u z → PAt w' (Fm.from B) s u z) ∧ (∀ g k p x K s, RowP w g k p x K s → ∃ s', RowP w' g k p x K s') ∧ (∀ (g : Nat) (cs : Array Value) (ty : TypeId) (fl : Nat × Nat), ty ≠ 61 → w.heap[g]? = some (Obj.cells cs ty fl) → w'.heap[g]? = some (Obj.cells cs ty fl))
theorem Keeps.refl (B : Nat) (w : World) : Keeps B w w := ⟨fun _ _ _ h => h, fun _ _ _ _ _ s h => ⟨s, h⟩, fun _ _ _ _ _ h => h⟩
theorem Keeps.trans {B : Nat} {a b c : World} (h : Keeps B a b) (k : Keeps B b c) : Keeps B a c := ⟨fun s u z q => k.1 s u z (h.1 s u z q), fun g kk p x K s q => by
  obtain ⟨s', q'⟩ := h.2.1 g kk p x K s q
  exact k.2.1 g kk p x K s' q', fun g cs ty fl ht q => k.2.2 g cs ty fl ht (h.2.2 g cs ty fl ht q)⟩
theorem Keeps.below {B : Nat} {w w' : World} (h : Below w.heap.size w w') : Keeps B w w' := ⟨fun _ _ _ q => q.below h, fun _ _ _ _ _ s q => ⟨s, q.below h⟩, fun g _ _ _ _ q => (h.block g (lt_of_heap q)).trans q⟩
def SealTo (t : Tr) : Prop := ∀ (v : Value) (w : World) (B : Nat), 1 < B → B ≤ w.heap.size → Tab w → Ok t → PAt w (Fm.from B) false t v →
  Calls Tryd.prog 23 #[v] w fun e w' => e = .returned (.tuple #[]) ∧ PAt w' (Fm.from B) true t v ∧ Keeps B w w' ∧ Below B w w'
set_option maxRecDepth 100000 in
theorem seal_nil (w : World) (B : Nat) :
    Calls Tryd.prog 23 #[.pointer none] w fun e w' => e = .returned (.tuple #[]) ∧ PAt w' (Fm.from B) true .nil (.pointer none) ∧ Keeps B w w' ∧ Below B w w' := by
  go_enter Tryd.func23, Tryd.ntmps23
  go_wp2
  exact bodyPost_ret (results_none rfl _ _ _) rfl ⟨rfl, rfl, Keeps.refl _ _, Below.refl _ _⟩
set_option maxRecDepth 100000 in
theorem seal_done {t : Tr} {g : Nat} {K : Ks} (w : World) (B : Nat) (hn : ¬ t.isNil) (ho : Ok t) (hr : RowP w g t.kind t.pth t.vl K (t.sum Nd.sumS)) (hk : ∀ i, PAt w (Fm.from B) true (t.kid i) (K i)) :
    Calls Tryd.prog 23 #[ptr g] w fun e w' => e = .returned (.tuple #[]) ∧ PAt w' (Fm.from B) true t (ptr g) ∧ Keeps B w w' ∧ Below B w w' := by
  have n19 := hr.sum
  have hne : (t.sum Nd.sumS == []) = false := by rw [beq_eq_false_iff_ne]; exact ho.sum_ne hn
  have HP : Hid (PAt w (Fm.from B) true t (ptr g)) := Lib.hid ((PAt.iff hn).2 ⟨g, true, K, rfl, fun _ => rfl, (fun h => by cases h), hr, hk⟩)
  obtain ⟨S, hS⟩ : ∃ S, t.sum Nd.sumS = S := ⟨_, rfl⟩
  rw [hS] at n19 hne
  unfold ptr at HP ⊢
  clear hr hk hS
  go_enter Tryd.func23, Tryd.ntmps23
  go_wp2
  exact bodyPost_ret (results_none rfl _ _ _) rfl ⟨rfl, HP.out, Keeps.refl _ _, Below.refl _ _⟩
set_option maxRecDepth 100000 in
set_option maxHeartbeats 2000000 in
theorem seal_open {t : Tr} (IH : ∀ i, SealTo (t.kid i)) {g : Nat} {K : Ks} (w : World) (B : Nat) (hB : 1 < B) (hBw : B ≤ w.heap.size) (hT : Tab w) (hn : ¬ t.isNil) (ho : Ok t) (hr : RowP w g t.kind t.pth t.vl K []) (hg : B ≤ g) (hk : ∀ i, PAt w (Fm.from B) false (t.kid i) (K i)) :
    Calls Tryd.prog 23 #[ptr g] w fun e w' => e = .returned (.tuple #[]) ∧ PAt w' (Fm.from B) true t (ptr g) ∧ Keeps B w w' ∧ Below B w w' := by
  have n19 := hr.sum
  have HR := Lib.hid hr
  have HRG := Lib.hid hr.range
  have HI := Lib.hid (kcl_info K)
  have HKE := Lib.hid (fun (i : Fin 16) w => index_kids K i w)
  have HK := Lib.hid hk
  have HIH := Lib.hid (fun (i : Fin 16) (w' : World) (hb : Below B w w') (hp : PAt w' (Fm.from B) false (t.kid i) (K i)) => IH i (K i) w' B hB (Nat.le_trans hBw hb.size) (hT.mid hb hB) (ho.kid i) hp)
  have HTB := Lib.hid (fun (w' : World) (hb : Below B w w') => hT.mid hb hB)
  have HN := Lib.hid (fun (w' : World) (sx : T) (hr : RowP w' g t.kind t.pth t.vl K sx) (hk : ∀ i, PAt w' (Fm.from B) true (t.kid i) (K i)) => pnode_any w' hr hk hn)
  have HSL : Hid (∀ (w' : World) (sx : T), RowP w' g t.kind t.pth t.vl K sx → (∀ i, PAt w' (Fm.from B) true (t.kid i) (K i)) → PAt (w'.setCell ⟨g, 19, none⟩ (.string ⟨(t.sum Nd.sumS).toArray⟩)) (Fm.from B) true t (ptr g) ∧ Keeps B w' (w'.setCell ⟨g, 19, none⟩ (.string ⟨(t.sum Nd.sumS).toArray⟩))) := Lib.hid (fun w' sx hr hk => by
    refine ⟨PAt.seal (from_mono B) (fun e => by cases e) hn hr hk, fun s u z h => PAt.seals (from_mono B) hr hk h, fun g' kk p x K' s h => ?_, fun g' cs ty fl ht h => ?_⟩
    by_cases e : g' = g
    · subst e; exact ⟨_, h.seal _⟩
    · exact ⟨s, (Below.heap_setCell _ ⟨g, 19, none⟩ _ g' e).trans h⟩
    · have e : g' ≠ g := fun e => by
        subst e
        unfold RowP at hr
        rw [hr] at h
        injection h with h; injection h with _ h _
        exact ht h.symm
      exact (Below.heap_setCell _ ⟨g, 19, none⟩ _ g' e).trans h)
  have HDG : Hid (∀ w', Tab w' → Calls Tryd.prog 36 #[ndval (t.node Nd.sumS)] w' fun e w'' => e = .returned (.string ⟨(t.sum Nd.sumS).toArray⟩) ∧ Below w'.heap.size w' w'') := Lib.hid (fun w' h => by
    rw [Tri.sum_node _ hn]
    exact ndigest_any _ w' (Tri.node_kids _ _) h)
  obtain ⟨S, hS⟩ : ∃ S, t.sum Nd.sumS = S := ⟨_, rfl⟩
  obtain ⟨ND, hND⟩ : ∃ ND, ndval (t.node Nd.sumS) = ND := ⟨_, rfl⟩
  rw [hS] at HSL HDG
  rw [hND] at HDG HN
  unfold ptr at HSL HN ⊢
  clear hr hk hT IH hS hND hn ho
  go_enter Tryd.func23, Tryd.ntmps23
  go_wp2_with (refine wpList_load_mid (by rfl) _ _ (by rfl) g 3 (by rfl) (kcl K) _ HRG.out Tryd.underlying59 (by rfl) HI.out ?_)
  obtain ⟨KC, hKC⟩ : ∃ KC, kcl K = KC := ⟨_, rfl⟩
  rw [hKC] at HKE HI HRG ⊢
  clear hKC
  go_loopw [17] (fun i wr => ∃ k : Nat, k ≤ 16 ∧ i = .int .i64 k ∧ (∀ j : Fin 16, j.val < k → PAt wr (Fm.from B) true (t.kid j) (K j)) ∧ Keeps B w wr ∧ Below B w wr) (fun i _ => 16 - (intOf i).toNat)
  case atStart => exact ⟨0, Nat.zero_le _, rfl, fun j hj => absurd hj (Nat.not_lt_zero _), Keeps.refl _ _, Below.refl _ _⟩
  case round =>
    obtain ⟨k, hk, rfl, hks, hkp, hbw⟩ := hrel
    have HKS := Lib.hid hks
    have HKP := Lib.hid hkp
    have HBW := Lib.hid hbw
    by_cases hlt : k < 16
    · obtain ⟨i, hi⟩ : ∃ i : Fin 16, i.val = k := ⟨⟨k, hlt⟩, rfl⟩
      have h1 : (k : Int) < 16 := by omega
      have h0 : (0 : Int) ≤ (k : Int) := by omega
      have n0 := HKE.out i
      rw [hi] at n0
      have HC := Lib.hid (HIH.out i wr hbw (hkp.1 _ _ _ (HK.out i)))
      have HII := Lib.hid hi
      obtain ⟨vk, hvk⟩ : ∃ vk, K i = vk := ⟨_, rfl⟩
      rw [hvk] at n0 HC
      have HVK := Lib.hid hvk
      clear hks hkp hbw hi hvk
      go_wp2_with fail
      refine HC.out.mono ?_
      rintro e w2 ⟨rfl, hp2, hk2, hb2⟩
      have HP2 := Lib.hid hp2
      have HK2 := Lib.hid hk2
      have HB2 := Lib.hid hb2
      clear hp2 hk2 hb2
      go_wp2
      refine ⟨⟨k + 1, by omega, by go_num, fun j hj => ?_, HKP.out.trans HK2.out, HBW.out.trans HB2.out⟩, by simp [intOf]; omega⟩
      by_cases e : j.val < k
      · exact HK2.out.1 _ _ _ (HKS.out j e)
      · obtain rfl : j = i := Fin.ext (by have := HII.out; omega)
        rw [HVK.out]
        exact HP2.out
    · have h1 : ¬ ((k : Int) < 16) := by omega
      obtain rfl : k = 16 := by omega
      obtain ⟨sx, hrx⟩ := hkp.2.1 _ _ _ _ _ _ HR.out
      have hall : ∀ i, PAt wr (Fm.from B) true (t.kid i) (K i) := fun i => hks i i.isLt
      have HC := Lib.hid (HN.out wr sx hrx hall)
      have HRX := Lib.hid hrx
      have HAL := Lib.hid hall
      clear hks hkp hbw hrx hall
      go_wp2_with fail
      refine HC.out.mono ?_
      rintro e w2 ⟨rfl, hb2⟩
      have HB2 := Lib.hid hb2
      have HBB : Hid (Below B w w2) := Lib.hid (HBW.out.trans (hb2.mono (Nat.le_trans hBw HBW.out.size)))
      clear hb2
      go_wp2_with fail
      refine (HDG.out _ (HTB.out _ HBB.out)).mono ?_
      rintro e w3 ⟨rfl, hb3⟩
      have hr3 := (HRX.out.below HB2.out).below hb3
      have hk3 : ∀ i, PAt w3 (Fm.from B) true (t.kid i) (K i) := fun i => ((HAL.out i).below HB2.out).below hb3
      obtain ⟨p3, q3⟩ := HSL.out w3 sx hr3 hk3
      have HP3 := Lib.hid p3
      have HQ3 : Hid (Keeps B w (w3.setCell ⟨g, 19, none⟩ (.string ⟨S.toArray⟩))) := Lib.hid (HKP.out.trans ((Keeps.below HB2.out).trans ((Keeps.below hb3).trans q3)))
      have HB3 : Hid (Below B w (w3.setCell ⟨g, 19, none⟩ (.string ⟨S.toArray⟩))) := Lib.hid ((HBB.out.trans (hb3.mono (Nat.le_trans hBw HBB.out.size))).setCell (p := ⟨g, 19, none⟩) hg _)
      have m19 := hr3.sum
      have f19 := hr3.free 19
      clear hr3 hk3 p3 q3 hb3
      go_wp2
      go_end0
      exact ⟨rfl, HP3.out, HQ3.out, HB3.out⟩
/-- seal, of any tree. -/
theorem seal_to (t : Tr) : SealTo t := by
  induction t using Tri.kid_ind with
  | h0 =>
    intro v w B _ _ _ _ h
    have e : v = .pointer none := h
    subst e
    exact seal_nil w B
  | h t hn IH =>
    intro v w B hB hBw hT ho h
    obtain ⟨g, s', K, rfl, -, h2, hr, hk⟩ := h.row hn
    cases s' with
    | true => exact seal_done w B hn ho hr hk
    | false => exact seal_open IH w B hB hBw hT hn ho hr (h2 rfl) hk
end Go.Proofs.YtkdecmijnojhoaaDoor
namespace Go.Proofs.YtkdecmijnojhoaaDoor
open Go.RowKit
open Sto (T)
open Tri (Tr Ok upd ix hb lay splitT Trim rank)
open Go.Proofs.YtkdecmijnojhoaaDoor.Nd (N)
namespace Tri
/-- The nodes that are come to, each with its place. -/
def Tr.visits (want : T → Bool) : T → Tr → List (T × Tr)
  | _, .nil => []
  | p, .leaf q v => [(p, .leaf q v)]
  | p, .ext q t => (p, .ext q t) :: if want p then t.visits want (p ++ q) else []
  | p, .br v k => (p, .br v k) :: if want p then (List.finRange 16).flatMap fun i => (k i).visits want (p ++ [hb i]) else []
end Tri
theorem flat_one {α : Type} (f : Fin 16 → List α) (h : ∀ i, i ≠ 0 → f i = []) : (List.finRange 16).flatMap f = f 0 := by
  rw [show List.finRange 16 = 0 :: (List.finRange 16).tail from rfl, List.flatMap_cons]
  have : (List.finRange 16).tail.flatMap f = [] := by
    rw [List.flatMap_eq_nil_iff]
    intro i hi
    refine h i ?_
    rintro rfl
    revert hi
    decide
  rw [this, List.append_nil]
theorem flat_take {α : Type} (f : Fin 16 → List α) (k : Nat) (i : Fin 16) (hi : i.val = k) : (((List.finRange 16).take k).flatMap f).length + (f i).length ≤ ((List.finRange 16).flatMap f).length := by
  have h1 : (List.finRange 16).take (k + 1) = (List.finRange 16).take k ++ [i] := by
    have hl : k < (List.finRange 16).length := by have := i.isLt; simp; omega
    rw [List.take_succ_eq_append_getElem hl]
    congr 2
    exact Fin.ext (by simp [hi])
  have h2 := congrArg (fun l => (l.flatMap f).length) (List.take_append_drop (k + 1) (List.finRange 16))
  simp only [List.flatMap_append, List.length_append, h1, List.flatMap_singleton] at h2
  omega
theorem visits_kid (want : T → Bool) (p : T) {t : Tr} (h : ¬ t.isNil) : t.visits want p = (p, t) :: if want p then (List.finRange 16).flatMap fun i => (t.kid i).visits want (placeT t.kind (p ++ t.pth) i) else [] := by
  cases t with
  | nil => exact absurd trivial h
  | leaf q v =>
    rw [Tri.Tr.visits]
    have : ((List.finRange 16).flatMap fun i => ((Tr.leaf q v).kid i).visits want (placeT (Tr.leaf q v).kind (p ++ (Tr.leaf q v).pth) i)) = [] := by
      rw [List.flatMap_eq_nil_iff]; intro i _; rfl
    rw [this]
    cases want p <;> rfl
  | ext q u =>
    rw [Tri.Tr.visits, flat_one _ (fun i hi => by simp only [Tri.Tr.kid, if_neg hi]; rfl)]
    rfl
  | br v k =>
    rw [Tri.Tr.visits]
    simp [Tri.Tr.kid, placeT, Tri.Tr.kind, Tri.Tr.pth]
/-- What a closure that is handed to walk does. -/
structure Visits (w0 : World) (F : Fm) (id : Nat) (caps : Array Value) (want : T → Bool) (I : World → List (T × Tr) → Prop) : Prop where
  call : ∀ args w, (callFunc id args).run Tryd.prog w = .ok (.enter id args) w
  keep : ∀ w' w'' L, I w' L → Below w'.heap.size w' w'' → I w'' L
  step : ∀ (w' : World) (L : List (T × Tr)) (p : T) (t : Tr) (v : Value), L.length < 100000 → Below w0.heap.size w0 w' → I w' L → PAt w0 F true t v → ¬ t.isNil → Ok t → Nib.fitL p = true → (∀ x ∈ t.items, p.length + x.1.length ≤ 16) →
    Calls Tryd.prog id (#[v, .string ⟨p.toArray⟩] ++ caps) w' fun e w'' => e = .returned (.bool (want p)) ∧ I w'' (L ++ [(p, t)]) ∧ Below w0.heap.size w0 w''
def WalkTo (w0 : World) (F : Fm) (id : Nat) (caps : Array Value) (want : T → Bool) (I : World → List (T × Tr) → Prop) (t : Tr) : Prop :=
  ∀ (w' : World) (L : List (T × Tr)) (p : T) (v : Value), L.length + (t.visits want p).length ≤ 100000 → Below w0.heap.size w0 w' → I w' L → PAt w0 F true t v → Ok t → Nib.fitL p = true → (∀ x ∈ t.items, p.length + x.1.length ≤ 16) →
    Calls Tryd.prog 26 #[v, .string ⟨p.toArray⟩, .func (.func id) #[] caps] w' fun e w'' => e = .returned (.tuple #[]) ∧ I w'' (L ++ t.visits want p) ∧ Below w0.heap.size w0 w''
theorem items_kid {t : Tr} (p : T) (h : ∀ x ∈ t.items, p.length + x.1.length ≤ 16) (i : Fin 16) : ∀ x ∈ (t.kid i).items, (placeT t.kind (p ++ t.pth) i).length + x.1.length ≤ 16 := by
  intro x hx
  cases t with
  | nil => cases hx
  | leaf q v => cases hx
  | ext q u =>
    simp only [Tri.Tr.kid] at hx
    split at hx
    · have := h (q ++ x.1, x.2) (Tri.mem_behind.2 ⟨x.1, hx, rfl⟩)
      simp [placeT, Tri.Tr.kind, Tri.Tr.pth] at this ⊢
      omega
    · cases hx
  | br v k =>
    have := h (hb i :: x.1, x.2) (Tri.mem_br.2 (Or.inr ⟨i, x.1, rfl, hx⟩))
    simp [placeT, Tri.Tr.kind, Tri.Tr.pth] at this ⊢
    omega
theorem pth_len {t : Tr} {p : T} (ho : Ok t) (hn : ¬ t.isNil) (h : ∀ x ∈ t.items, p.length + x.1.length ≤ 16) : p.length + t.pth.length ≤ 16 := by
  have hne : t.items ≠ [] := fun e => hn ((Tri.items_nil ho.canon).1 e)
  obtain ⟨a, l, e⟩ := List.exists_cons_of_ne_nil hne
  have ha : a ∈ t.items := by rw [e]; exact List.mem_cons_self ..
  have h1 := h a ha
  cases t with
  | nil => exact absurd trivial hn
  | leaf q v =>
    obtain rfl := List.mem_singleton.1 ha
    exact h1
  | ext q u =>
    obtain ⟨r, _, e2⟩ := Tri.mem_behind.1 ha
    rw [e2] at h1
    simp [Tri.Tr.pth] at h1 ⊢
    omega
  | br v k =>
    simp only [Tri.Tr.pth, List.length_nil]
    omega
theorem hb_fit (i : Fin 16) : Nib.fitL [hb i] = true := Tri.fit_cons.2 ⟨by rw [Tri.hb_toNat]; have := i.isLt; omega, rfl⟩
theorem place_fit {t : Tr} {p : T} (hf : t.fits) (hp : Nib.fitL p = true) (i : Fin 16) : Nib.fitL (placeT t.kind (p ++ t.pth) i) = true := by
  have h1 : Nib.fitL t.pth = true := by
    cases t with
    | nil => rfl
    | leaf q v => exact hf
    | ext q u => exact hf.1
    | br v k => rfl
  have h2 := Tri.fit_append.2 ⟨hp, h1⟩
  unfold placeT
  split
  · exact Tri.fit_append.2 ⟨h2, hb_fit i⟩
  · exact h2
set_option maxRecDepth 100000 in
theorem walk_nil {w0 : World} {F : Fm} {id : Nat} {caps : Array Value} {want : T → Bool} {I : World → List (T × Tr) → Prop} : WalkTo w0 F id caps want I .nil := by
  intro w' L p v _ hb hI h _ _ _
  have e : v = .pointer none := h
  subst e
  have HI := Lib.hid hI
  have HB := Lib.hid hb
  clear hI hb h
  go_enter Tryd.func26, Tryd.ntmps26
  go_wp2
  refine bodyPost_ret (results_none rfl _ _ _) rfl ⟨rfl, ?_, HB.out⟩
  rw [Tri.Tr.visits, List.append_nil]
  exact HI.out
set_option maxRecDepth 100000 in
set_option maxHeartbeats 2000000 in
theorem walk_some {w0 : World} {F : Fm} {id : Nat} {caps : Array Value} {want : T → Bool} {I : World → List (T × Tr) → Prop} (hV : Visits w0 F id caps want I) {t : Tr} (hn : ¬ t.isNil) (IH : ∀ i, WalkTo w0 F id caps want I (t.kid i)) : WalkTo w0 F id caps want I t := by
  intro w L p v hlen hb hI h ho hf hl
  have HV := Lib.hid (hV.step w L p t v (by rw [visits_kid want p hn, List.length_cons] at hlen; omega) hb hI h hn ho hf hl)
  obtain ⟨g, s', K, rfl, hs, -, hr, hk⟩ := h.row hn
  obtain rfl := hs rfl
  unfold ptr at HV ⊢
  obtain ⟨b, hbw⟩ : ∃ b, want p = b := ⟨_, rfl⟩
  rw [hbw] at HV
  have hcall := hV.call
  have HKEEP := Lib.hid hV.keep
  have HVK := Lib.hid (visits_kid want p hn)
  have HPW : Hid (want p = b) := Lib.hid hbw
  have HB := Lib.hid hb
  have HR := Lib.hid hr
  have HRG : Hid (∀ w', Below w0.heap.size w0 w' → RowP w' g t.kind t.pth t.vl K (if True then t.sum Nd.sumS else [])) := Lib.hid (fun w' hb' => by
    have := hr.below hb'
    simpa using this)
  have HI := Lib.hid (kcl_info K)
  have HKE := Lib.hid (fun (i : Fin 16) w => index_kids K i w)
  have HK := Lib.hid hk
  have hpl := pth_len ho hn hl
  have HPL : Hid (∀ (k : Nat), k ≤ 3 → ∀ (i : Fin 16) w, Calls Tryd.prog 39 #[.int .i64 k, .string ⟨(p ++ t.pth).toArray⟩, .int .i64 i.val] w fun r w' => r = .returned (.string ⟨(placeT k (p ++ t.pth) i).toArray⟩) ∧ Below w.heap.size w w') := Lib.hid (fun k hk i w => place_any k _ i w (by simp; omega) hk)
  have HIH : Hid (∀ (i : Fin 16) (w' : World) (L' : List (T × Tr)), L'.length + ((t.kid i).visits want (placeT t.kind (p ++ t.pth) i)).length ≤ 100000 → Below w0.heap.size w0 w' → I w' L' → Calls Tryd.prog 26 #[K i, .string ⟨(placeT t.kind (p ++ t.pth) i).toArray⟩, .func (.func id) #[] caps] w' fun e w'' => e = .returned (.tuple #[]) ∧ I w'' (L' ++ (t.kid i).visits want (placeT t.kind (p ++ t.pth) i)) ∧ Below w0.heap.size w0 w'') := Lib.hid (fun i w' L' hle hb' hI' =>
    IH i w' L' _ _ hle hb' hI' (hk i) (ho.kid i) (place_fit ho.fits hf i) (items_kid p hl i))
  have hkd : t.kind ≤ 3 := by cases t <;> simp [Tri.Tr.kind]
  obtain ⟨kd, hkd2⟩ : ∃ kd, t.kind = kd := ⟨_, rfl⟩
  obtain ⟨pp, hpp⟩ : ∃ pp, t.pth = pp := ⟨_, rfl⟩
  rw [hkd2, hpp] at HVK HRG HIH
  rw [hpp] at HPL hpl
  rw [hkd2] at hkd
  have HCM := Lib.hid (HPL.out kd hkd)
  have HLEN : Hid (b = true → ∀ k (i : Fin 16), i.val = k → (L ++ [(p, t)] ++ ((List.finRange 16).take k).flatMap fun j => (t.kid j).visits want (placeT kd (p ++ pp) j)).length + ((t.kid i).visits want (placeT kd (p ++ pp) i)).length ≤ 100000) := Lib.hid (fun hb2 k i hi => by
    have h2 := hlen
    rw [HVK.out, hbw, if_pos hb2, List.length_cons] at h2
    have h3 := flat_take (fun j => (t.kid j).visits want (placeT kd (p ++ pp) j)) k i hi
    simp only [List.length_append, List.length_singleton]
    omega)
  obtain ⟨VT, hVT⟩ : ∃ VT, t.visits want p = VT := ⟨_, rfl⟩
  rw [hVT] at HVK ⊢
  have cL : p.length ≤ 1000 := by omega
  have cL2 : pp.length ≤ 1000 := by omega
  have hcm := cat_mk p pp
  clear hlen hV h ho hf hl hr hk hb hI IH hkd2 hpp HPL hVT hbw hpl hn
  cases b with
  | false =>
    go_enter Tryd.func26, Tryd.ntmps26
    go_wp2_with fail
    refine HV.out.mono ?_
    rintro e w1 ⟨rfl, hI1, hb1⟩
    go_wp2
    refine bodyPost_ret (results_none rfl _ _ _) rfl ⟨rfl, ?_, hb1⟩
    rw [HVK.out, HPW.out]
    exact hI1
  | true =>
    replace HLEN := Lib.hid (HLEN.out rfl)
    go_enter Tryd.func26, Tryd.ntmps26
    go_wp2_with fail
    refine HV.out.mono ?_
    rintro e w1 ⟨rfl, hI1, hb1⟩
    have HI1 := Lib.hid hI1
    have HB1 := Lib.hid hb1
    have HRA := Lib.hid (HRG.out w1 hb1).range
    clear hI1 hb1
    go_wp2_with (refine wpList_load_mid (by rfl) _ _ (by rfl) g 3 (by rfl) (kcl K) _ HRA.out Tryd.underlying59 (by rfl) HI.out ?_)
    obtain ⟨KC, hKC⟩ : ∃ KC, kcl K = KC := ⟨_, rfl⟩
    rw [hKC] at HKE HI HRA ⊢
    clear hKC
    go_loopw [21] (fun i wr => ∃ k : Nat, k ≤ 16 ∧ i = .int .i64 k ∧ I wr (L ++ [(p, t)] ++ ((List.finRange 16).take k).flatMap fun j => (t.kid j).visits want (placeT kd (p ++ pp) j)) ∧ Below w0.heap.size w0 wr) (fun i _ => 16 - (intOf i).toNat)
    case atStart => exact ⟨0, Nat.zero_le _, rfl, by rw [List.take_zero, List.flatMap_nil, List.append_nil]; exact HI1.out, HB1.out⟩
    case round =>
      obtain ⟨k, hk, rfl, hIr, hbr⟩ := hrel
      have HIR := Lib.hid hIr
      have HBR := Lib.hid hbr
      by_cases hlt : k < 16
      · obtain ⟨i, hi⟩ : ∃ i : Fin 16, i.val = k := ⟨⟨k, hlt⟩, rfl⟩
        have h1 : (k : Int) < 16 := by omega
        have h0 : (0 : Int) ≤ (k : Int) := by omega
        have n0 := HKE.out i
        rw [hi] at n0
        have HTK : Hid ((List.finRange 16).take (k + 1) = (List.finRange 16).take k ++ [i]) := Lib.hid (by
          have hl : k < (List.finRange 16).length := by simpa using hlt
          rw [List.take_succ_eq_append_getElem hl]
          congr 2
          exact Fin.ext (by simp [hi]))
        have hki := HK.out i
        by_cases hnl : (t.kid i).isNil
        · have e : K i = .pointer none := by rw [Tri.isNil_eq hnl] at hki; exact hki
          rw [e] at n0
          have HZ : Hid ((t.kid i).visits want (placeT kd (p ++ pp) i) = []) := Lib.hid (by rw [Tri.isNil_eq hnl]; rfl)
          clear hki hnl e hIr hbr
          go_wp2
          exact ⟨⟨k + 1, by omega, by go_num, by rw [HTK.out, List.flatMap_append, List.flatMap_singleton, HZ.out, List.append_nil]; exact HIR.out, HBR.out⟩, by simp [intOf]; omega⟩
        · obtain ⟨g6, e⟩ := hki.ptr hnl
          rw [e] at n0
          have HC := Lib.hid (fun (w' : World) hb' hI' => HIH.out i w' _ (HLEN.out k i hi) hb' hI')
          rw [e] at HC
          have HPP := Lib.hid (fun w => HCM.out i w)
          rw [hi] at HPP
          have hrr := HRG.out wr hbr
          have m0 : wr.cell? ⟨g, 0, none⟩ = some (.int .i64 kd) := hrr.kind
          have HG : Hid (∀ w', Below wr.heap.size wr w' → w'.cell? ⟨g, 0, none⟩ = some (.int .i64 kd) ∧ w'.cell? ⟨g, 1, none⟩ = some (.string ⟨pp.toArray⟩)) := Lib.hid (fun w' hb' => by
            have k1 := hrr.below hb'
            exact ⟨k1.kind, k1.path⟩)
          have HGB : Hid (∀ w', Below w0.heap.size w0 w' → w'.cell? ⟨g, 0, none⟩ = some (.int .i64 kd) ∧ w'.cell? ⟨g, 1, none⟩ = some (.string ⟨pp.toArray⟩)) := Lib.hid (fun w' hb' => by
            have k1 := HRG.out w' hb'
            exact ⟨k1.kind, k1.path⟩)
          obtain ⟨PL, hPL⟩ : ∃ PL, placeT kd (p ++ pp) i = PL := ⟨_, rfl⟩
          rw [hPL] at HC HPP
          have HPLE := Lib.hid hPL
          clear hki hnl e hIr hbr hrr m0 hPL hi
          go_upto_region 5 with fail
          have BD : Below w0.heap.size w0 wr.drew := HBR.out.drew
          have hID : I wr.drew (L ++ [(p, t)] ++ ((List.finRange 16).take k).flatMap fun j => (t.kid j).visits want (placeT kd (p ++ pp) j)) := HKEEP.out _ _ _ HIR.out (Below.refl _ _).drew
          have HID := Lib.hid hID
          obtain ⟨c0, c1⟩ := HGB.out _ BD
          clear hID
          go_region_with (first | (go_at_call 39; refine (HPP.out _).mono ?_; rintro e w6 ⟨rfl, hb6⟩; have hI6 := Lib.hid (HKEEP.out _ _ _ HID.out hb6); have hb6' := BD.trans (hb6.mono BD.size)) | (go_at_call 26; refine (HC.out _ ?_ hI6.out).mono ?_; (with_reducible exact hb6'); rintro e w7 ⟨rfl, hI7, hb7⟩; have hI7' := Lib.hid hI7))
          all_goals
            go_wp2
            refine ⟨⟨k + 1, by omega, by go_num, ?_, hb7⟩, by simp [intOf]; omega⟩
            rw [HTK.out, List.flatMap_append, List.flatMap_singleton, HPLE.out, ← List.append_assoc]
            exact hI7'.out
      · have h1 : ¬ ((k : Int) < 16) := by omega
        obtain rfl : k = 16 := by omega
        clear hIr hbr
        go_wp2
        go_end0
        refine ⟨rfl, ?_, HBR.out⟩
        have h2 := HIR.out
        rw [List.take_of_length_le (by simp)] at h2
        rw [HVK.out, HPW.out, if_pos rfl]
        simpa using h2
/-- walk, of any tree. -/
theorem walk_to {w0 : World} {F : Fm} {id : Nat} {caps : Array Value} {want : T → Bool} {I : World → List (T × Tr) → Prop} (hV : Visits w0 F id caps want I) (t : Tr) : WalkTo w0 F id caps want I t := by
  induction t using Tri.kid_ind with
  | h0 => exact walk_nil
  | h t hn IH => exact walk_some hV hn IH
end Go.Proofs.YtkdecmijnojhoaaDoor
namespace Go.Proofs.YtkdecmijnojhoaaDoor.Pw

abbrev S := List UInt8
structure M where
  name : S
  power : Int
instance : Inhabited M := ⟨⟨[], 0⟩⟩
theorem M.ext' {a b : M} (h : a.name = b.name) (k : a.power = b.power) : a = b := by cases a; cases b; simp_all
instance : DecidableEq M := fun a b =>
  if h : a.name = b.name ∧ a.power = b.power then isTrue (M.ext' h.1 h.2) else isFalse (fun e => h (by subst e; exact ⟨rfl, rfl⟩))

def okM (p : S) (m : M) : Bool := decide (p < m.name) && decide (m.name.length ≤ 6) && decide (1 ≤ m.power) && decide (m.power ≤ 1000)
def okFrom : S → List M → Bool
  | _, [] => true
  | p, m :: t => okM p m && okFrom m.name t
def okL (L : List M) : Bool := decide (1 ≤ L.length) && decide (L.length ≤ 7) && okFrom [] L
theorem not_lt_nil (s : S) : ¬ s < [] := by cases s <;> simp

def sumP (L : List M) : Int := L.foldr (fun m n => m.power + n) 0
def pick (L : List M) (names : List S) : List M := L.filter fun m => decide (m.name ∈ names)
def ofL (L : List M) (names : List S) : Nat := if okL L then (sumP (pick L names)).toNat else 0
end Go.Proofs.YtkdecmijnojhoaaDoor.Pw
namespace Go.Proofs.YtkdecmijnojhoaaDoor
open Go.RowKit Go.ChangeShapes Go.WideShapes
open Go.Proofs.YtkdecmijnojhoaaDoor.Pw (M)

/-- A slice that has these members. -/
def Mems (w : World) (v : Value) (L : List M) : Prop :=
  ∃ (A : Option Addr) (cap : Nat), v = .slice A L.length cap ∧ (0 < L.length → ∃ b o, A = some ⟨b, o, none⟩ ∧ b < w.heap.size ∧ ∀ i (h : i < L.length),
    w.cell? ⟨b, o + i * 2, none⟩ = some (.string ⟨L[i].name.toArray⟩) ∧ w.cell? ⟨b, o + i * 2 + 1, none⟩ = some (.int .i64 L[i].power))
theorem Mems.nil (w : World) : Mems w (.slice none 0 0) [] := ⟨none, 0, rfl, fun h => absurd h (by simp)⟩
theorem Mems.below {w w' : World} {v : Value} {L : List M} (h : Mems w v L) (hb : Below w.heap.size w w') : Mems w' v L := by
  obtain ⟨A, cap, rfl, hc⟩ := h
  refine ⟨A, cap, rfl, fun h0 => ?_⟩
  obtain ⟨b, o, rfl, hlt, hcell⟩ := hc h0
  refine ⟨b, o, rfl, Nat.lt_of_lt_of_le hlt hb.size, fun i hi => ?_⟩
  obtain ⟨h1, h2⟩ := hcell i hi
  exact ⟨(hb.cell hlt).trans h1, (hb.cell hlt).trans h2⟩
theorem Mems.drew {w : World} {v : Value} {L : List M} (h : Mems w v L) : Mems w.drew v L := h.below (Below.refl _ w).drew
/-- One member's cells. -/
theorem Mems.at {w w' : World} {A : Option Addr} {n cap : Nat} {L : List M} (h : Mems w (.slice A n cap) L) (hb : Below w.heap.size w w') (k : Nat) (hk : k < L.length) :
    ∃ b o, A = some ⟨b, o, none⟩ ∧ w'.cell? ⟨b, o + k * 2, none⟩ = some (.string ⟨L[k].name.toArray⟩) ∧ w'.cell? ⟨b, o + k * 2 + 1, none⟩ = some (.int .i64 L[k].power) := by
  obtain ⟨A', cap', hv, hc⟩ := h.below hb
  obtain ⟨rfl, rfl, rfl⟩ : A = A' ∧ n = L.length ∧ cap = cap' := by simpa using hv
  obtain ⟨b, o, rfl, _, hcell⟩ := hc (by omega)
  exact ⟨b, o, rfl, hcell k hk⟩
theorem Mems.len {w : World} {A : Option Addr} {n cap : Nat} {L : List M} (h : Mems w (.slice A n cap) L) : n = L.length := by
  obtain ⟨A', cap', hv, _⟩ := h
  simp at hv
  exact hv.2.1
theorem Mems.form {w : World} {v : Value} {L : List M} (h : Mems w v L) : ∃ A cap, v = .slice A L.length cap := by
  obtain ⟨A, cap, rfl, _⟩ := h
  exact ⟨A, cap, rfl⟩
end Go.Proofs.YtkdecmijnojhoaaDoor
namespace Go.Proofs.YtkdecmijnojhoaaDoor
open Go.RowKit
open Go.Proofs.YtkdecmijnojhoaaDoor.Pw (M)

/-- The same as a step of a region that draws its order. -/
theorem step_append_run {P : Program} {ops : Array Oper} {o : Oper} {a : Act} {w w' : World} {K : Act → World → Prop} {Q : Exit → Act → World → Prop} {E : Prop} (hg : o.guard = none) (s x : Operand) (t : TypeId) (hop : o.op = Op.call { callee := Callee.builtin Builtin.append, args := #[s, x], argTypes := #[t, t] })
    (sv xv r : Value) (hs : a.eval s = sv) (hx : a.eval x = xv) (hrun : (Builtin.append_ #[t, t] o.type #[sv, xv]).run P w = .ok r w') (hK : K (a.put o.dst r) w') : if Region.wanted o (yielded ops a.tmps) = true then Oper.wp P o a w K Q else E := by
  have hw : Region.wanted o (yielded ops a.tmps) = true := by simp [Region.wanted, hg]
  rw [if_pos hw]
  unfold Oper.wp
  simp [execOp, hop, resolve, invoke, builtin, hs, hx, hrun, Result.andThen]
  exact hK
end Go.Proofs.YtkdecmijnojhoaaDoor
namespace Go.Proofs.YtkdecmijnojhoaaDoor
open Go.RowKit

theorem short_no {p m : List UInt8} (h : ¬ p.length ≤ m.length) : ¬ m.take p.length = p := by
  intro e; have := congrArg List.length e; simp at this; omega

end Go.Proofs.YtkdecmijnojhoaaDoor
namespace Go.Proofs.YtkdecmijnojhoaaDoor
open Go.RowKit
open Sto (T)
open Tri (Tr Ok upd ix hb lay splitT Trim rank)

set_option maxHeartbeats 400000 in
theorem prefix_in (s p : T) (w : World) :
    Calls Tryd.prog 53 #[.string ⟨s.toArray⟩, .string ⟨p.toArray⟩] w fun e w' => e = .returned (.bool (decide (s.take p.length = p))) ∧ w = w' := by
  by_cases h : p.length ≤ s.length
  · have h1 : (p.length : Int) ≤ (s.length : Int) := by omega
    have h0 : (0 : Int) ≤ (p.length : Int) := by omega
    have he : (((⟨s.toArray⟩ : ByteArray).extract 0 p.length).toList == p) = decide (s.take p.length = p) := by
      rw [Lib.extract_eq, Bool.eq_iff_iff]; simp
    obtain ⟨b, hb⟩ : ∃ b, decide (s.take p.length = p) = b := ⟨_, rfl⟩
    rw [hb] at he ⊢
    clear hb
    go_enter Tryd.func53, Tryd.ntmps53
    go_wp2
    go_ret
    exact ⟨rfl, rfl⟩
  · have h1 : ¬ ((p.length : Int) ≤ (s.length : Int)) := by omega
    have he : decide (s.take p.length = p) = false := decide_eq_false (short_no h)
    rw [he]
    clear he
    go_enter Tryd.func53, Tryd.ntmps53
    go_wp2
    go_ret
    exact ⟨rfl, rfl⟩
theorem prefix_any (s p : T) (w : World) :
    Calls Tryd.prog 44 #[.string ⟨s.toArray⟩, .string ⟨p.toArray⟩] w fun e w' => e = .returned (.bool (decide (s.take p.length = p))) ∧ w = w' := by
  have HP := Lib.hid (fun w => prefix_in s p w)
  go_enter Tryd.func44, Tryd.ntmps44
  go_wp2_with fail
  refine (HP.out _).mono ?_
  rintro e w1 ⟨rfl, rfl⟩
  go_wp2
  go_ret
  exact ⟨rfl, rfl⟩
def slen : Value → Nat
  | .string b => b.size
  | _ => 0
def fmeas (p q : Value) : Nat := match p with | .pointer none => 0 | _ => slen q + 1
theorem fmeas_le (v : Value) (r : T) : fmeas v (.string ⟨r.toArray⟩) ≤ r.length + 1 := by
  unfold fmeas
  split
  · omega
  · simp [slen, ByteArray.size]
theorem fmeas_ptr (g : Nat) (q : T) : fmeas (.pointer (some ⟨g, 0, none⟩)) (.string ⟨q.toArray⟩) = q.length + 1 := by simp [fmeas, slen, ByteArray.size]
/-- What find answers: no value, if there is none. -/
def findT (t : Tr) (p : T) : T := (t.get p).getD []
theorem find_no {t : Tr} {p : T} (hn : ¬ t.isNil) (h : p.take t.pth.length ≠ t.pth) : findT t p = [] := by
  unfold findT
  cases t with
  | nil => exact absurd trivial hn
  | leaf q v =>
    rw [Tri.Tr.get, if_neg (fun e => h (by subst e; simp [Tri.Tr.pth]))]; rfl
  | ext q u =>
    have h2 : ¬ p.take q.length = q := h
    rw [Tri.Tr.get, if_neg h2]; rfl
  | br v k => simp [Tri.Tr.pth] at h
theorem find_ext {t : Tr} {p : T} (hk : t.kind = 2) (h : p.take t.pth.length = t.pth) : findT t p = findT (t.kid 0) (p.drop t.pth.length) := by
  cases t with
  | ext q u =>
    have h2 : p.take q.length = q := h
    unfold findT
    rw [Tri.Tr.get, if_pos h2]
    simp [Tri.Tr.kid, Tri.Tr.pth]
  | _ => cases hk
theorem find_here {t : Tr} {p : T} (hn : ¬ t.isNil) (hk : t.kind ≠ 2) (h : p.take t.pth.length = t.pth) (hd : p.drop t.pth.length = []) : findT t p = t.vl := by
  have e : p = t.pth := by rw [← List.take_append_drop t.pth.length p, h, hd, List.append_nil]
  unfold findT
  cases t with
  | nil => exact absurd trivial hn
  | leaf q v =>
    have e2 : p = q := e
    rw [Tri.Tr.get, if_pos e2]; rfl
  | ext q u => exact absurd rfl hk
  | br v k =>
    have e2 : p = [] := e
    rw [e2, Tri.Tr.get]
    split
    · rename_i hv; rw [hv]; rfl
    · rfl
theorem find_on {t : Tr} {p r : T} {b : UInt8} (hn : ¬ t.isNil) (hk : t.kind ≠ 2) (h : p.take t.pth.length = t.pth) (hd : p.drop t.pth.length = b :: r) (hb1 : b.toNat ≤ 15) : findT t p = findT (t.kid (ix b)) r := by
  unfold findT
  cases t with
  | nil => exact absurd trivial hn
  | leaf q v =>
    rw [Tri.Tr.get, if_neg (fun e => by subst e; simp [Tri.Tr.pth] at hd)]; rfl
  | ext q u => exact absurd rfl hk
  | br v k =>
    have e : p = b :: r := by simpa [Tri.Tr.pth] using hd
    rw [e, Tri.Tr.get, if_pos hb1]
    rfl
theorem kid_firm {t : Tr} (h : t.firm) (i : Fin 16) : (t.kid i).firm := by
  cases t with
  | nil => trivial
  | leaf p v => trivial
  | ext p t =>
    simp only [Tri.Tr.kid]; split
    · exact h.2.2
    · trivial
  | br v k => exact h i

set_option maxRecDepth 100000 in
set_option maxHeartbeats 2000000 in
theorem find_any {t : Tr} {v : Value} {F : Fm} {s : Bool} (p : T) (w : World) (h : PAt w F s t v) (hf : t.firm) (hp : Nib.fitL p = true) (hl : p.length ≤ 16) :
    Calls Tryd.prog 34 #[v, .string ⟨p.toArray⟩] w fun e w' => e = .returned (.string ⟨(findT t p).toArray⟩) ∧ Below w.heap.size w w' := by
  obtain ⟨res, hres⟩ : ∃ res, findT t p = res := ⟨_, rfl⟩
  rw [hres]
  have HP := Lib.hid (fun (s p : T) w => prefix_any s p w)
  have H0 := Lib.hid (show ∃ (u : Tr) (q : T) (s' : Bool), .string ⟨p.toArray⟩ = Value.string ⟨q.toArray⟩ ∧ PAt w F s' u v ∧ u.firm ∧ findT u q = res ∧ Nib.fitL q = true ∧ q.length ≤ 16 from ⟨t, p, s, rfl, h, hf, hres, hp, hl⟩)
  clear h hf hp hl hres
  go_enter Tryd.func34, Tryd.ntmps34
  go_wp2
  go_loopw [0, 1] (fun pz qv wr => ∃ (u : Tr) (q : T) (s' : Bool) (pv : Value), pv = pz ∧ qv = .string ⟨q.toArray⟩ ∧ PAt wr F s' u pv ∧ u.firm ∧ findT u q = res ∧ Nib.fitL q = true ∧ q.length ≤ 16 ∧ Below w.heap.size w wr) (fun pv qv _ => fmeas pv qv)
  case atStart =>
    obtain ⟨u, q, s', e, h1, h2, h3, h4, h5⟩ := H0.out
    exact ⟨u, q, s', _, rfl, e, h1, h2, h3, h4, h5, Below.refl _ _⟩
  case round =>
    obtain ⟨u, q, s', pv, rfl, rfl, h1, h2, h3, h4, h5, h6⟩ := hrel
    by_cases hn : u.isNil
    · rw [Tri.isNil_eq hn] at h1 h3
      have e : pv = .pointer none := h1
      subst e
      have HR : Hid (res = []) := Lib.hid h3.symm
      have HB := Lib.hid h6
      clear h1 h2 h3 h4 h5 h6 hn
      go_wp2
      go_ret
      exact ⟨by rw [HR.out]; rfl, HB.out⟩
    · obtain ⟨g, s2, K, rfl, -, -, hr, hk⟩ := h1.row hn
      have HB := Lib.hid h6
      have HK := Lib.hid hk
      have HR := Lib.hid hr
      have n0 := hr.kind
      have n1 := hr.path
      have HPX := Lib.hid (fun w => HP.out q u.pth w)
      by_cases hpre : q.take u.pth.length = u.pth
      · rw [decide_eq_true hpre] at HPX
        have hle : u.pth.length ≤ q.length := by have := congrArg List.length hpre; simp at this; omega
        have htail := ext_drop q u.pth.length
        have z0 : (0 : Int) ≤ (u.pth.length : Int) := by omega
        have z1 : (u.pth.length : Int) ≤ (q.length : Int) := by omega
        obtain ⟨r, hr'⟩ : ∃ r, q.drop u.pth.length = r := ⟨_, rfl⟩
        have hrf : Nib.fitL r = true := by rw [← hr']; exact Tri.fit_drop _ h4
        have hrl : r.length + u.pth.length = q.length := by rw [← hr']; simp; omega
        rw [hr'] at htail
        by_cases h2k : u.kind = 2
        · have hpl : 1 ≤ u.pth.length := by
            cases u with
            | ext a b => exact List.length_pos_iff.2 h2.1
            | _ => cases h2k
          have hfe := find_ext h2k hpre
          rw [hr', h3] at hfe
          have n3 := hr.kid 0
          have hk0 := hk 0
          have hf0 := kid_firm h2 0
          have HNX := Lib.hid (show PAt wr F s2 (u.kid 0) (K 0) ∧ (u.kid 0).firm ∧ findT (u.kid 0) r = res ∧ Nib.fitL r = true ∧ r.length ≤ 16 from ⟨hk0, hf0, hfe.symm, hrf, by omega⟩)
          have HLE : Hid (∀ v, fmeas v (.string ⟨r.toArray⟩) < fmeas (.pointer (some ⟨g, 0, none⟩)) (.string ⟨q.toArray⟩)) := Lib.hid (fun v => by have := fmeas_le v r; rw [fmeas_ptr]; omega)
          rw [h2k] at n0
          obtain ⟨pp, hpp⟩ : ∃ pp, u.pth = pp := ⟨_, rfl⟩
          rw [hpp] at HPX n1 htail z0 z1
          obtain ⟨vk, hvk⟩ : ∃ vk, K 0 = vk := ⟨_, rfl⟩
          have n3' : wr.cell? ⟨g, 3, none⟩ = some vk := by rw [← hvk]; exact n3
          rw [hvk] at HNX
          unfold ptr
          clear n3 h1 h2 h3 h4 h5 h6 hn hr hk hpre hpp hvk hk0 hf0 hfe h2k hpl hr' hrf hrl hle
          go_wp2_with fail
          refine (HPX.out _).mono ?_
          rintro e w1 ⟨rfl, rfl⟩
          go_wp2
          obtain ⟨a1, a2, a3, a4, a5⟩ := HNX.out
          exact ⟨⟨_, r, s2, _, rfl, rfl, a1, a2, a3, a4, a5, HB.out⟩, HLE.out _⟩
        · have e2 : ((u.kind : Int) == 2) = false := by rw [beq_eq_false_iff_ne]; omega
          obtain ⟨kd, hkd⟩ : ∃ kd, u.kind = kd := ⟨_, rfl⟩
          rw [hkd] at n0 e2
          cases hd : r with
          | nil =>
            subst hd
            have HRS : Hid (res = u.vl) := Lib.hid (by rw [← h3]; exact find_here hn h2k hpre hr')
            have n2 := hr.val
            obtain ⟨pp, hpp⟩ : ∃ pp, u.pth = pp := ⟨_, rfl⟩
            rw [hpp] at HPX n1 htail z0 z1
            have htail' : (⟨q.toArray⟩ : ByteArray).extract pp.length q.length = ⟨#[]⟩ := htail
            unfold ptr
            clear htail h1 h2 h3 h4 h5 h6 hn hr hk hpre hpp h2k hr' hrf hrl hle hkd
            go_wp2_with fail
            refine (HPX.out _).mono ?_
            rintro e w1 ⟨rfl, rfl⟩
            go_wp2
            go_ret
            exact ⟨by rw [HRS.out]; rfl, HB.out⟩
          | cons b r2 =>
            subst hd
            obtain ⟨hb1, hf2⟩ := Tri.fit_cons.1 hrf
            have hix := ix_val hb1
            have hfe := find_on hn h2k hpre hr' hb1
            rw [h3] at hfe
            have n3 := hr.kid (ix b)
            rw [hix] at n3
            rw [List.length_cons] at hrl
            have HNX := Lib.hid (show PAt wr F s2 (u.kid (ix b)) (K (ix b)) ∧ (u.kid (ix b)).firm ∧ findT (u.kid (ix b)) r2 = res ∧ Nib.fitL r2 = true ∧ r2.length ≤ 16 from ⟨hk _, kid_firm h2 _, hfe.symm, hf2, by omega⟩)
            have HLE : Hid (∀ v, fmeas v (.string ⟨r2.toArray⟩) < fmeas (.pointer (some ⟨g, 0, none⟩)) (.string ⟨q.toArray⟩)) := Lib.hid (fun v => by have := fmeas_le v r2; rw [fmeas_ptr]; omega)
            have hbyte : ∀ hh, (⟨(b :: r2).toArray⟩ : ByteArray)[0]'hh = b := byte_drop rfl
            have htl2 : (⟨(b :: r2).toArray⟩ : ByteArray).extract 1 (b :: r2).length = ⟨r2.toArray⟩ := tail_drop (n := 0) rfl
            have hne : ((b :: r2 : List UInt8) == []) = false := rfl
            have y0 : (0 : Int) < ((b :: r2).length : Int) := by rw [List.length_cons]; omega
            have y1 : (1 : Int) ≤ ((b :: r2).length : Int) := by rw [List.length_cons]; omega
            have y6 : (0 : Int) ≤ (b.toNat : Int) := by omega
            have y7 : (b.toNat : Int) < 16 := by omega
            obtain ⟨pp, hpp⟩ : ∃ pp, u.pth = pp := ⟨_, rfl⟩
            rw [hpp] at HPX n1 htail z0 z1
            obtain ⟨P, hP⟩ : ∃ P, b :: r2 = P := ⟨_, rfl⟩
            rw [hP] at htail hbyte htl2 hne y0 y1
            obtain ⟨vk, hvk⟩ : ∃ vk, K (ix b) = vk := ⟨_, rfl⟩
            rw [hvk] at n3 HNX
            unfold ptr
            clear h1 h2 h3 h4 h5 h6 hn hr hk hpre hpp h2k hr' hrf hrl hle hkd hvk hP hfe hix hb1 hf2
            go_wp2_with fail
            refine (HPX.out _).mono ?_
            rintro e w1 ⟨rfl, rfl⟩
            go_upto_region 3 with fail
            go_quiet (fail)
            go_wp2
            obtain ⟨a1, a2, a3, a4, a5⟩ := HNX.out
            exact ⟨⟨_, r2, s2, _, rfl, rfl, a1.below (bel_drewN (Below.refl _ _) _), a2, a3, a4, a5, bel_drewN HB.out _⟩, HLE.out _⟩
      · rw [decide_eq_false hpre] at HPX
        have HRS : Hid (res = []) := Lib.hid (by rw [← h3]; exact find_no hn hpre)
        obtain ⟨pp, hpp⟩ : ∃ pp, u.pth = pp := ⟨_, rfl⟩
        rw [hpp] at HPX n1
        unfold ptr
        clear h1 h2 h3 h4 h5 h6 hn hr hk hpre hpp
        go_wp2_with fail
        refine (HPX.out _).mono ?_
        rintro e w1 ⟨rfl, rfl⟩
        go_wp2
        go_ret
        exact ⟨by rw [HRS.out]; rfl, HB.out⟩
end Go.Proofs.YtkdecmijnojhoaaDoor
namespace Go.Proofs.YtkdecmijnojhoaaDoor.Tri
open Sto (T St Rising keys)

def begins (p m : T) : Bool := decide (m.take p.length = p)
end Go.Proofs.YtkdecmijnojhoaaDoor.Tri
namespace Go.Proofs.YtkdecmijnojhoaaDoor
open Go.RowKit
open Sto (T)
open Tri (Tr Ok upd ix hb lay splitT Trim rank)
open Go.Proofs.YtkdecmijnojhoaaDoor.Nd (N)

/-- A call of one argument as a step of a region that draws its order. -/
theorem step_call {P : Program} {ops : Array Oper} {o : Oper} {a : Act} {w : World} {K : Act → World → Prop} {Q : Exit → Act → World → Prop} {E : Prop} (hg : o.guard = none) (f : Nat) (x : Operand) (ts : Array TypeId) (hop : o.op = Op.call { callee := Callee.value (.func f), args := #[x], argTypes := ts })
    (hcf : ∀ args w, (callFunc f args).run P w = .ok (.enter f args) w) (R : Ending → World → Prop) (hc : Calls P f #[a.eval x] w R) (hK : ∀ e w', R e w' → ∃ v, e = .returned v ∧ K (a.put o.dst v) w') : if Region.wanted o (yielded ops a.tmps) = true then Oper.wp P o a w K Q else E := by
  have hw : Region.wanted o (yielded ops a.tmps) = true := by simp [Region.wanted, hg]
  rw [if_pos hw]
  obtain ⟨dst, op, type, pos, after, guard⟩ := o
  simp only at hop
  subst hop
  show Oper.upon P _ a K Q ((callFunc f (#[] ++ #[x].map a.eval ++ #[])).run P w)
  rw [hcf, Oper.upon_enter]
  refine Calls.mono (by simpa using hc) ?_
  intro e w' h
  obtain ⟨v, rfl, hk⟩ := hK e w' h
  exact hk
end Go.Proofs.YtkdecmijnojhoaaDoor
namespace Go.Proofs.YtkdecmijnojhoaaDoor
open Sto (T)
open Tri (Tr)
open Go.Proofs.YtkdecmijnojhoaaDoor.Nd (N)
end Go.Proofs.YtkdecmijnojhoaaDoor
namespace Go.Proofs.YtkdecmijnojhoaaDoor
open Go.RowKit

set_option maxHeartbeats 400000 in
theorem common_any (a b : List UInt8) (w : World) (ha : a.length ≤ 1000000) (hb : b.length ≤ 1000000) :
    Calls Tryd.prog 47 #[.string ⟨a.toArray⟩, .string ⟨b.toArray⟩] w fun e w' => e = .returned (.int .i64 (Nib.commonL a b)) ∧ Below w.heap.size w w' := by
  rcases Nat.lt_or_ge b.length a.length with hm | hm
  all_goals
    go_enter Tryd.func47, Tryd.ntmps47
    go_wp2
    go_loopw [13] (fun i wr => ∃ k : Nat, k ≤ min a.length b.length ∧ a.take k = b.take k ∧ i = .int .i64 k ∧ Below w.heap.size w wr) (fun i _ => min a.length b.length - (intOf i).toNat)
    case atStart => exact ⟨0, Nat.zero_le _, by simp, rfl, Below.refl _ _⟩
    case round =>
      obtain ⟨k, hk, hf, rfl, hbel⟩ := hrel
      have HF := Lib.hid hf; clear hf
      by_cases hlt : k < min a.length b.length
      · have h1 : (k : Int) < (a.length : Int) := by omega
        have h2 : (k : Int) < (b.length : Int) := by omega
        go_wp2
        go_quiet (fail)
        go_wp2
        · go_ret
          have ht : (((a[k]'(by omega)).toNat : Int) != ((b[k]'(by omega)).toNat : Int)) = true := by assumption
          exact ⟨by rw [Nib.commonL_of_diff a b k (by omega) (by omega) HF.out (Nib.byte_ne ht)]; rfl, bel_drewN hbel _⟩
        · go_roundw
          case rel =>
            have ht : (((a[k]'(by omega)).toNat : Int) != ((b[k]'(by omega)).toNat : Int)) = false := by assumption
            exact ⟨k + 1, by omega, Nib.take_eq_succ a b k (by omega) (by omega) HF.out (Nib.byte_eq ht), by go_num, bel_drewN hbel _⟩
          case measure => simp [intOf]; omega
      · go_wp2
        go_ret
        have := HF.out
        exact ⟨by rw [Nib.commonL_of_end a b k (by omega) this]; exact ret_i64 (by omega), hbel⟩

end Go.Proofs.YtkdecmijnojhoaaDoor
namespace Go.Proofs.YtkdecmijnojhoaaDoor
open Go.RowKit
open Sto (T)
open Tri (Tr Ok upd ix hb lay splitT Trim rank)

/-- What with is to answer, of trees of at most this rank. -/
def WithTo (m : Nat) : Prop := ∀ (t : Tr) (v : Value) (p x : T) (w : World) (F : Fm), rank t p ≤ m → F.fresh w → PAt w F false t v → Trim t → Nib.fitL p = true → p.length ≤ 16 →
  Calls Tryd.prog 35 #[v, .string ⟨p.toArray⟩, .string ⟨x.toArray⟩] w (MadeT w F (t.put p x))

set_option maxRecDepth 100000 in
theorem with_nil (p x : T) (w : World) (F : Fm) (hF : F.fresh w) :
    Calls Tryd.prog 35 #[.pointer none, .string ⟨p.toArray⟩, .string ⟨x.toArray⟩] w (MadeT w F (.leaf p x)) := by
  have HLF := Lib.hid (leaf_any p x w F hF)
  unfold MadeT at HLF ⊢
  go_enter Tryd.func35, Tryd.ntmps35
  go_wp2_with fail
  refine HLF.out.mono ?_
  rintro e w1 ⟨v, rfl, hp, hb⟩
  go_wp2
  go_ret
  exact ⟨v, rfl, hp, hb⟩
set_option maxRecDepth 100000 in
set_option maxHeartbeats 1000000 in
theorem with_here {y : T} {k : Fin 16 → Tr} {v : Value} (x : T) (w : World) (F : Fm) (hF : F.fresh w) (h : PAt w F false (.br y k) v) :
    Calls Tryd.prog 35 #[v, .string ⟨#[]⟩, .string ⟨x.toArray⟩] w (MadeT w F (.br x k)) := by
  obtain ⟨g, s', K, rfl, -, -, hr, hk⟩ := h.row id
  have HO := Lib.hid (open_any w hr (fun i => (hk i).oneCell))
  have n0 : w.cell? ⟨g, 0, none⟩ = some (.int .i64 3) := hr.kind
  have HK := Lib.hid hk
  unfold MadeT
  unfold ptr at HO ⊢
  clear h hr hk
  go_enter Tryd.func35, Tryd.ntmps35
  go_wp2_with fail
  refine HO.out.mono ?_
  rintro e w1 ⟨rfl, hr1, hb1⟩
  have m2 := hr1.val
  have f2 := hr1.free 2
  have HR1 := Lib.hid hr1
  have HB := Lib.hid hb1
  clear hr1 hb1
  go_wp2
  go_ret
  have hb2 := HB.out.setCell (p := ⟨w.heap.size, 2, none⟩) (Nat.le_refl _) (.string ⟨x.toArray⟩)
  exact ⟨_, rfl, PAt.new (K := K) id (hF _ (Nat.le_refl _)) (HR1.out.setVal x) (fun i => ((HK.out i).weak).below hb2), hb2⟩
set_option maxRecDepth 100000 in
set_option maxHeartbeats 2000000 in
theorem with_below {m : Nat} (IH : WithTo m) {y : T} {k : Fin 16 → Tr} {v : Value} (b : UInt8) (p x : T) (w : World) (F : Fm) (hm : 2 * p.length + 1 ≤ m) (hF : F.fresh w) (h : PAt w F false (.br y k) v) (hg : Trim (.br y k)) (hf : Nib.fitL (b :: p) = true) (hl : (b :: p).length ≤ 16) :
    Calls Tryd.prog 35 #[v, .string ⟨(b :: p).toArray⟩, .string ⟨x.toArray⟩] w (MadeT w F (.br y (upd k (ix b) ((k (ix b)).put p x)))) := by
  obtain ⟨g, s', K, rfl, -, -, hr, hk⟩ := h.row id
  have HO := Lib.hid (open_any w hr (fun i => (hk i).oneCell))
  have n0 : w.cell? ⟨g, 0, none⟩ = some (.int .i64 3) := hr.kind
  have HK := Lib.hid hk
  have HR := Lib.hid hr
  obtain ⟨hb1, hfp⟩ := Tri.fit_cons.1 hf
  have hix := ix_val hb1
  have hpl : p.length ≤ 16 := by simp at hl; omega
  have HI : Hid (∀ w', Below w.heap.size w w' → w.heap.size < w'.heap.size → Calls Tryd.prog 35 #[K (ix b), .string ⟨p.toArray⟩, .string ⟨x.toArray⟩] w' fun e w'' => ∃ g6, e = .returned (.pointer (some ⟨g6, 0, none⟩)) ∧ PAt w'' (F.off w.heap.size) false ((k (ix b)).put p x) (ptr g6) ∧ Below w'.heap.size w' w'') := Lib.hid (fun w' hb hs =>
    (IH (k (ix b)) (K (ix b)) p x w' _ (Nat.le_trans (Tri.rank_le _ _) hm) ((hF.size hb.size).off hs) (((hk (ix b)).weak.new_off (Nat.le_refl _)).below hb) (hg.br _) hfp hpl).mono fun e w'' ⟨v6, e6, hp6, hb6⟩ => by
      obtain ⟨g6, _, _, rfl, _⟩ := hp6.row (Tri.put_nn _ _ _)
      exact ⟨g6, e6, hp6, hb6⟩)
  have hbyte : ∀ hh, (⟨(b :: p).toArray⟩ : ByteArray)[0]'hh = b := byte_drop rfl
  have htail : (⟨(b :: p).toArray⟩ : ByteArray).extract 1 (b :: p).length = ⟨p.toArray⟩ := tail_drop (n := 0) rfl
  have hne : ((b :: p : List UInt8) == []) = false := rfl
  have z0 : (0 : Int) < ((b :: p).length : Int) := by rw [List.length_cons]; omega
  have z1 : (1 : Int) ≤ ((b :: p).length : Int) := by rw [List.length_cons]; omega
  have z6 : (0 : Int) ≤ (b.toNat : Int) := by omega
  have z7 : (b.toNat : Int) < 16 := by omega
  have HIX := Lib.hid hix
  obtain ⟨vk, hvk⟩ : ∃ vk, K (ix b) = vk := ⟨_, rfl⟩
  rw [hvk] at HI
  have HVK := Lib.hid hvk
  obtain ⟨P, hP⟩ : ∃ P, b :: p = P := ⟨_, rfl⟩
  rw [hP] at hbyte htail hne z0 z1 ⊢
  unfold MadeT
  unfold ptr at HO ⊢
  clear h hr hk hg hf hl hm hb1 hfp hix hpl IH hvk hP
  go_enter Tryd.func35, Tryd.ntmps35
  go_wp2_with fail
  refine HO.out.mono ?_
  rintro e w1 ⟨rfl, hr1, hb1⟩
  obtain ⟨q, hq⟩ : ∃ q, w.heap.size = q := ⟨_, rfl⟩
  have HSZ : Hid (q < w1.heap.size) := Lib.hid (by rw [← hq]; exact lt_of_heap hr1)
  have HGQ : Hid (g < q) := Lib.hid (by rw [← hq]; exact lt_of_heap HR.out)
  have HR1 := Lib.hid hr1
  have HB1 := Lib.hid hb1
  rw [hq] at HR1 HB1 HI ⊢
  have HQ := Lib.hid hq
  have HN1 : Hid (∀ w', Below w1.heap.size w1 w' → w'.cell? ⟨g, 3 + b.toNat, none⟩ = some vk ∧ w'.cell? ⟨q, 3 + b.toNat, none⟩ = some vk ∧ w'.frozen? ⟨q, 3 + b.toNat, none⟩ = false) := Lib.hid (fun w' hb => by
    have k1 := (HR.out.below (by rw [HQ.out]; exact HB1.out)).below hb
    have k2 := HR1.out.below hb
    have e1 := k1.kid (ix b)
    have e2 := k2.kid (ix b)
    rw [HIX.out, HVK.out] at e1 e2
    exact ⟨e1, e2, k2.free _⟩)
  have HK1 : Hid (∀ w' v, Below w1.heap.size w1 w' → (w'.setCell ⟨q, 3 + b.toNat, none⟩ v).cell? ⟨g, 3 + b.toNat, none⟩ = some vk) := Lib.hid (fun w' v hb => keep_cell (HN1.out w' hb).1 (Nat.ne_of_lt HGQ.out))
  have HI2 : Hid (∀ w', Below w1.heap.size w1 w' → Calls Tryd.prog 35 #[vk, .string ⟨p.toArray⟩, .string ⟨x.toArray⟩] w' fun e w'' => ∃ g6, e = .returned (.pointer (some ⟨g6, 0, none⟩)) ∧ PAt w'' (F.off q) false ((k (ix b)).put p x) (ptr g6) ∧ Below w1.heap.size w1 w'') := Lib.hid (fun w' hb => (HI.out w' (HB1.out.trans (hb.mono (Nat.le_of_lt HSZ.out))) (Nat.lt_of_lt_of_le HSZ.out hb.size)).mono fun e w'' ⟨g6, e6, hp6, hb6⟩ => ⟨g6, e6, hp6, hb.trans (hb6.mono hb.size)⟩)
  clear hr1 hb1 hq HI
  go_upto_region 7 with fail
  have BD : Below w1.heap.size w1 w1.drew := (Below.refl _ _).drew
  obtain ⟨c1, c2, c3⟩ := HN1.out _ BD
  go_region_held3 (fun w' => w'.cell? ⟨g, 3 + b.toNat, none⟩ = some vk)
    ((first | (with_reducible exact c1) | (with_reducible exact d1) | (refine HK1.out _ _ ?_; with_reducible assumption)))
    ((go_at_call 35; refine (HI2.out _ ?_).mono ?_; (with_reducible assumption); rintro e w6 ⟨g6, rfl, hp6, hb6⟩; obtain ⟨d1, d2, d3⟩ := HN1.out _ hb6))
  all_goals
    go_wp2
    go_ret
    have hbq : Below w.heap.size w w6 := by rw [HQ.out]; exact HB1.out.trans (hb6.mono (Nat.le_of_lt HSZ.out))
    refine ⟨_, rfl, PAt.new (K := updK K (ix b) (ptr g6)) id (hF _ (Nat.le_of_eq HQ.out)) ?_ (fun i => ?_), by rw [← HQ.out]; exact hbq.setCell (p := ⟨w.heap.size, _, none⟩) (Nat.le_refl _) _⟩
    · have := (HR1.out.below hb6).setKid (ix b) (ptr g6)
      rw [HIX.out] at this
      exact this
    · simp only [Tri.Tr.kid, updK, Tri.upd]
      split
      · exact hp6.off _ _
      · exact (((HK.out i).weak.new_off (Nat.le_of_eq HQ.out)).below hbq).off _ _
end Go.Proofs.YtkdecmijnojhoaaDoor
