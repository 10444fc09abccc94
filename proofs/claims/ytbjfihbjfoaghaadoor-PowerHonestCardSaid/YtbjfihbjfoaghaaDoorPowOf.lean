/- power.Of. -/
import Derived.Test.YtbjfihbjfoaghaaDoorPowTotal
import Derived.Test.YtbjfihbjfoaghaaDoorMapFn
namespace Go.Proofs.YtbjfihbjfoaghaaDoor
open Go.RowKit
open Go.Proofs.YtbjfihbjfoaghaaDoor.Pw (M)

def strInt : MapLaw Tryd.prog 9 (List UInt8) Int := ⟨fun s => .string ⟨s.toArray⟩, fun n => .int .i64 n, fun s => s.length ≤ 140737488351232, lawS, keyS, fun _ _ h => str_inj h⟩
def strUnit : MapLaw Tryd.prog 9 (List UInt8) Unit := ⟨fun s => .string ⟨s.toArray⟩, fun _ => .agg #[], fun s => s.length ≤ 140737488351232, lawS, keyS, fun _ _ h => str_inj h⟩
theorem zeroI (w : World) : (zeroValue 3).run Tryd.prog w = .ok (.int .i64 0) w := by kernel_rfl
theorem zeroU (w : World) : (zeroValue 45).run Tryd.prog w = .ok (.agg #[]) w := by kernel_rfl

/-- The powers by name. -/
def Pw.powF (L : List M) (s : List UInt8) : Option Int := (L.find? (fun m => decide (m.name = s))).map (·.power)
theorem Pw.powF_step {L : List M} (h : Pw.okL L = true) (k : Nat) (hk : k < L.length) (s : List UInt8) : Pw.powF (L.take (k + 1)) s = updF (Pw.powF (L.take k)) L[k].name (some L[k].power) s := by
  unfold Pw.powF updF
  rw [List.take_succ_eq_append_getElem hk, List.find?_append]
  by_cases e : s = L[k].name
  · subst e
    rw [if_pos rfl]
    have hn : (L.take k).find? (fun m => decide (m.name = L[k].name)) = none := by
      rw [List.find?_eq_none]
      intro m hm
      obtain ⟨i, hi, rfl⟩ := List.mem_iff_getElem.1 hm
      have hik : i < k := by simp at hi; omega
      have hp := List.pairwise_iff_getElem.1 (Pw.okL_pair h) i k (by omega) hk hik
      rw [List.getElem_take]
      simp only [decide_eq_true_eq]
      intro e
      rw [e] at hp
      exact List.lt_irrefl _ hp
    rw [hn]
    simp
  · rw [if_neg e]
    have hn : [L[k]].find? (fun m => decide (m.name = s)) = none := by
      rw [List.find?_eq_none]
      intro m hm
      simp at hm
      subst hm
      simp only [decide_eq_true_eq]
      exact fun e' => e e'.symm
    rw [hn]
    simp
/-- What is left of them. -/
def Pw.leftF (L : List M) (names : List (List UInt8)) (s : List UInt8) : Option Int := if s ∈ names then none else Pw.powF L s
theorem Pw.leftF_step (L : List M) (N : List (List UInt8)) (k : Nat) (hk : k < N.length) (s : List UInt8) : updF (Pw.leftF L (N.take k)) N[k] none s = Pw.leftF L (N.take (k + 1)) s := by
  have hm : s ∈ N.take (k + 1) ↔ s ∈ N.take k ∨ s = N[k] := by rw [List.take_succ_eq_append_getElem hk, List.mem_append, List.mem_singleton]
  unfold Pw.leftF updF
  show (if s = N[k] then none else if s ∈ N.take k then none else Pw.powF L s) = if s ∈ N.take (k + 1) then none else Pw.powF L s
  by_cases e : s = N[k]
  · rw [if_pos e, if_pos (hm.2 (Or.inr e))]
  · rw [if_neg e]
    by_cases e2 : s ∈ N.take k
    · rw [if_pos e2, if_pos (hm.2 (Or.inl e2))]
    · rw [if_neg e2, if_neg (fun h => (hm.1 h).elim e2 e)]
theorem Pw.pick_nil (L : List M) (N : List (List UInt8)) : Pw.sumP (Pw.pick L (N.take 0)) = 0 := by
  have h : Pw.pick L (N.take 0) = [] := by
    unfold Pw.pick
    rw [List.filter_eq_nil_iff]
    intro m _
    simp
  rw [h]; rfl
theorem Pw.pick_step {L : List M} (h : Pw.okL L = true) (N : List (List UInt8)) (k : Nat) (hk : k < N.length) :
    Pw.sumP (Pw.pick L (N.take (k + 1))) = Pw.sumP (Pw.pick L (N.take k)) + (Pw.leftF L (N.take k) N[k]).getD 0 := by
  rw [List.take_succ_eq_append_getElem hk]
  unfold Pw.leftF Pw.powF
  by_cases e : N[k] ∈ N.take k
  · rw [if_pos e, Pw.pick_no L _ _ (fun _ _ _ => e)]
    simp
  · rw [if_neg e]
    cases hf : L.find? (fun m => decide (m.name = N[k])) with
    | none =>
      rw [Pw.pick_no L _ _ (fun m hm e' => absurd e' (by simpa using List.find?_eq_none.1 hf m hm))]
      simp
    | some m =>
      have h1 : m.name = N[k] := by simpa using List.find?_some hf
      have h2 := List.mem_of_find?_eq_some hf
      rw [← h1] at e ⊢
      rw [Pw.pick_one h _ h2 e]
      simp

set_option maxRecDepth 8000 in
set_option maxHeartbeats 1000000 in
theorem of_any (L : List M) (v : Value) (N : List (List UInt8)) (u : Value) (w : World) (hv : Mems w v L) (hu : Strs w u N) (hN : ∀ s ∈ N, s.length ≤ 140737488351232) (hlen : N.length ≤ 1000000) :
    Calls Tryd.prog 19 #[v, u] w fun e w' => e = .returned (.int .i64 (Pw.ofL L N : Nat)) ∧ Below w.heap.size w w' := by
  have HV := Lib.hid hv
  have HU := Lib.hid hu
  obtain ⟨A, cap, rfl⟩ := hv.form
  obtain ⟨A2, cap2, rfl, -⟩ := hu
  have HCK := Lib.hid (check_any L _ w HV.out)
  cases hok : Pw.okL L with
  | false =>
    rw [Pw.checkC_bad hok] at HCK
    rw [show Pw.ofL L N = 0 by simp [Pw.ofL, hok]]
    clear hok hv
    go_enter Tryd.func19, Tryd.ntmps19
    go_wp2_with fail
    refine HCK.out.mono ?_
    rintro e w1 ⟨rfl, hb⟩
    go_wp2
    go_ret
    exact ⟨rfl, hb⟩
  | true =>
    rw [Pw.checkC_ok hok] at HCK
    have HOK := Lib.hid hok
    have HT : Hid ((Pw.ofL L N : Nat) = Pw.sumP (Pw.pick L N)) := Lib.hid (by
      have := (Pw.pick_range hok N).1
      simp only [Pw.ofL, hok, if_true]; omega)
    obtain ⟨T, hT⟩ : ∃ T, Pw.ofL L N = T := ⟨_, rfl⟩
    rw [hT] at HT ⊢
    have hl7 := (Pw.okL_len hok).2
    have hmm := @run_makeMap Tryd.prog
    clear hT hok hv
    go_enter Tryd.func19, Tryd.ntmps19
    go_wp2_with fail
    refine HCK.out.mono ?_
    rintro e w1 ⟨rfl, hb⟩
    have HB1 := Lib.hid hb
    clear hb
    go_wp2
    obtain ⟨B, hB⟩ : ∃ B, w1.heap.size = B := ⟨_, rfl⟩
    have HF0 := Lib.hid (FnAt.made strInt w1 B hB.symm)
    have HBB : Hid (w.heap.size ≤ B) := Lib.hid (by rw [← hB]; exact HB1.out.size)
    have HB2 := Lib.hid (HB1.out.alloc HB1.out.size (.map #[] 0))
    rw [hB]
    clear hmm
    go_loopw [17] (fun i wr => ∃ k : Nat, k ≤ L.length ∧ i = .int .i64 k ∧ FnAt strInt wr B (Pw.powF (L.take k)) ∧ Below w.heap.size w wr) (fun i _ => L.length - (intOf i).toNat)
    case atStart => exact ⟨0, Nat.zero_le _, rfl, HF0.out, HB2.out⟩
    case round =>
      obtain ⟨k, hk, rfl, hf, hb⟩ := hrel
      have HB := Lib.hid hb
      have HF := Lib.hid hf
      clear hf hb HF0 HB2
      by_cases hlt : k < L.length
      · have h1 : (k : Int) < (L.length : Int) := by omega
        have h0 : (0 : Int) ≤ (k : Int) := by omega
        obtain ⟨b, o, rfl, n0, n1⟩ := HV.out.at HB.out k hlt
        have HST := Lib.hid (Pw.powF_step HOK.out k hlt)
        have HOKM := Lib.hid (Pw.okL_mem HOK.out L[k] (List.getElem_mem hlt))
        obtain ⟨⟨x, q⟩, hm⟩ : ∃ m, L[k] = m := ⟨_, rfl⟩
        rw [hm] at n0 n1 HST HOKM
        dsimp only at n0 n1 HST HOKM
        clear hm
        have hb' := (Below.refl wr.heap.size wr).alloc (Nat.le_refl _) (.cells #[.string ⟨x.toArray⟩, .int .i64 q] 43)
        obtain ⟨w3, hrun, hf3, ho3, hs3⟩ := FnAt.put (HF.out.below hb') Tryd.underlying48 (s := x) (show x.length ≤ 140737488351232 by have := HOKM.out.2.1; omega) q
        dsimp only [strInt] at hrun
        have hbel3 : Below w.heap.size w w3 := (HB.out.alloc HB.out.size (.cells #[.string ⟨x.toArray⟩, .int .i64 q] 43)).trans (ho3.below (fun k hk => hk ▸ HBB.out) (by have := HB.out.size; simp; omega))
        have HF3 := Lib.hid (hf3.congr (fun s => (HST.out s).symm))
        have HB3 := Lib.hid hbel3
        clear hf3 hbel3 ho3 hs3 hb'
        go_wp2
        exact ⟨⟨k + 1, by omega, by go_num, HF3.out, HB3.out⟩, by simp [intOf]; omega⟩
      · have h1 : ¬ ((k : Int) < (L.length : Int)) := by omega
        obtain rfl : k = L.length := by omega
        have hf2 : FnAt strInt wr B (Pw.leftF L (N.take 0)) := HF.out.congr (fun s => by simp [Pw.leftF])
        have HF2 := Lib.hid hf2
        clear hf2 hk hlt
        go_wp2
        go_loopw [8, 29] (fun t i wx => ∃ j : Nat, j ≤ N.length ∧ i = .int .i64 j ∧ t = .int .i64 (Pw.sumP (Pw.pick L (N.take j))) ∧ FnAt strInt wx B (Pw.leftF L (N.take j)) ∧ Below w.heap.size w wx) (fun _ i _ => N.length - (intOf i).toNat)
        case atStart => exact ⟨0, Nat.zero_le _, rfl, by rw [Pw.pick_nil L N], HF2.out, HB.out⟩
        case round =>
          obtain ⟨j, hj, rfl, rfl, hf, hb⟩ := hrel
          have HBx := Lib.hid hb
          have HFx := Lib.hid hf
          clear hf hb h1
          by_cases hlt : j < N.length
          · have h1 : (j : Int) < (N.length : Int) := by omega
            have h0 : (0 : Int) ≤ (j : Int) := by omega
            obtain ⟨A3, cap3, hv3, hc3⟩ := HU.out.below HBx.out
            obtain ⟨rfl, rfl⟩ : A2 = A3 ∧ cap2 = cap3 := by simpa using hv3
            obtain ⟨p, rfl, n0⟩ := hc3 j hlt
            have HS := Lib.hid (Pw.pick_step HOK.out N j hlt)
            have HL := Lib.hid (Pw.leftF_step L N j hlt)
            have r1 := Pw.pick_range HOK.out (N.take j)
            have r2 := Pw.pick_range HOK.out (N.take (j + 1))
            have HX := Lib.hid (hN N[j] (List.getElem_mem hlt))
            obtain ⟨x, hx⟩ : ∃ x, N[j] = x := ⟨_, rfl⟩
            rw [hx] at n0 HS HL HX
            clear hx hv3 hc3
            have hlook := FnAt.look HFx.out Tryd.underlying48 (s := x) HX.out false (zeroI wr)
            obtain ⟨w3, hrun, hf3, ho3, hs3⟩ := FnAt.drop HFx.out Tryd.underlying48 (s := x) HX.out
            have hlook2 : (Instr.lookup 48 (.map (some B)) (.string ⟨x.toArray⟩) false).run Tryd.prog wr = .ok (.int .i64 ((Pw.leftF L (N.take j) x).getD 0)) wr := by
              refine hlook.trans ?_
              cases Pw.leftF L (N.take j) x <;> rfl
            dsimp only [strInt] at hrun
            have HF3 := Lib.hid (hf3.congr HL.out)
            have HB3 := Lib.hid (HBx.out.trans (ho3.below (fun k hk => hk ▸ HBB.out) HBx.out.size))
            obtain ⟨D, hD⟩ : ∃ D, (Pw.leftF L (N.take j) x).getD 0 = D := ⟨_, rfl⟩
            obtain ⟨S, hS⟩ : ∃ S, Pw.sumP (Pw.pick L (N.take j)) = S := ⟨_, rfl⟩
            rw [hD] at hlook2 HS
            rw [hS] at HS r1 ⊢
            rw [HS.out] at r2
            have r1a : 0 ≤ S ∧ S ≤ 7000 := by omega
            have r2a : 0 ≤ S + D ∧ S + D ≤ 7000 := by omega
            have HR := Lib.hid hrun
            clear hlook hf3 ho3 hs3 hD hS r1 r2 hrun
            go_wp2_with (at_delete; refine wpList_delete_run rfl _ _ _ _ rfl (.map (some B)) (.string ⟨x.toArray⟩) (by rfl) (by rfl) HR.out ?_)
            exact ⟨⟨j + 1, by omega, by go_num, by rw [HS.out], HF3.out, HB3.out⟩, by simp [intOf]; omega⟩
          · have h1 : ¬ ((j : Int) < (N.length : Int)) := by omega
            obtain rfl : j = N.length := by omega
            go_wp2
            go_ret
            refine ⟨ret_i64 ?_, HBx.out⟩
            rw [HT.out]
end Go.Proofs.YtbjfihbjfoaghaaDoor
