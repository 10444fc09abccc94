/- TriWithMore, TriWithout, TriTexts2, TriCover, RegionInv, TriCover2 -/
import Derived.Test.YtikabacebmbacaaDoorPk08
import Derived.Test.YtikabacebmbacaaDoorPk07
import Derived.Deep.RegionHeld3
import Derived.RegionTactic
namespace Go.Proofs.YtikabacebmbacaaDoor
open Go.RowKit
open Sto (T)
open Tri (Tr Ok upd ix hb lay splitT Trim rank)

/-- Behind the split, if there is one. -/
theorem with_plan {t : Tr} {p : T} (hg : Trim t) (hk : t.kind = 1 ∨ t.kind = 2) (hp : Nib.fitL p = true) (hl : p.length ≤ 16) (x : T) :
    ∃ tb, tb = (if Tri.splits t p then splitT (Nib.commonL t.pth p) t else t.kid 0) ∧ t.put p x = lay (p.take (Nib.commonL t.pth p)) (tb.put (p.drop (Nib.commonL t.pth p)) x) ∧
      Trim tb ∧ rank tb (p.drop (Nib.commonL t.pth p)) ≤ 2 * p.length ∧ (tb.put (p.drop (Nib.commonL t.pth p)) x).pth.length ≤ 16 := by
  have hbr : ∀ u : Tr, u.isBr → rank u (p.drop (Nib.commonL t.pth p)) ≤ 2 * p.length ∧ (u.put (p.drop (Nib.commonL t.pth p)) x).pth.length ≤ 16 := fun u hu => by
    refine ⟨by rw [Tri.rank_br hu]; simp; omega, ?_⟩
    have := Tri.put_br hu (p.drop (Nib.commonL t.pth p)) x
    generalize u.put (p.drop (Nib.commonL t.pth p)) x = y at this ⊢
    cases y <;> simp_all [Tri.Tr.isBr, Tri.Tr.pth]
  refine ⟨_, rfl, ?_⟩
  cases t with
  | nil => rcases hk with h | h <;> cases h
  | br y k => rcases hk with h | h <;> cases h
  | leaf q y =>
    refine ⟨Tri.put_leaf_plan hg.fits hp, ?_⟩
    by_cases h : Tri.splits (.leaf q y) p = true
    · rw [if_pos h]
      exact ⟨hg.split, hbr _ (Tri.split_br _ _)⟩
    · rw [if_neg h]
      refine ⟨Tri.Trim.nil, by simp [Tri.Tr.kid, rank]; omega, ?_⟩
      simp only [Tri.Tr.kid, Tri.Tr.put, Tri.Tr.pth, List.length_drop]
      omega
  | ext q u =>
    refine ⟨Tri.put_ext_plan hg.firm.2.1 hg.firm.1 hg.fits.1 hp, ?_⟩
    by_cases h : Tri.splits (.ext q u) p = true
    · rw [if_pos h]
      exact ⟨hg.split, hbr _ (Tri.split_br _ _)⟩
    · rw [if_neg h]
      have e : (Tr.ext q u).kid 0 = u := by simp [Tri.Tr.kid]
      rw [e]
      exact ⟨hg.ext, hbr _ hg.firm.2.1⟩

theorem cut_drop (p : T) (c : Nat) : (⟨p.toArray⟩ : ByteArray).extract c p.length = ⟨(p.drop c).toArray⟩ := ext_drop p c
theorem cut_take (p : T) (c : Nat) : (⟨p.toArray⟩ : ByteArray).extract 0 c = ⟨(p.take c).toArray⟩ := by rw [Lib.extract_eq]; simp
set_option maxRecDepth 100000 in
set_option maxHeartbeats 2000000 in
theorem with_else {m : Nat} (IH : WithTo m) {t : Tr} {v : Value} (p x : T) (w : World) (F : Fm) (hk : t.kind = 1 ∨ t.kind = 2) (hm : 2 * p.length ≤ m) (hF : F.fresh w) (h : PAt w F false t v) (hg : Trim t) (hf : Nib.fitL p = true) (hl : p.length ≤ 16) :
    Calls Tryd.prog 48 #[v, .string ⟨p.toArray⟩, .string ⟨x.toArray⟩] w (MadeT w F (t.put p x)) := by
  have hnn : ¬ t.isNil := fun e => by rw [← Tri.kind_nil] at e; omega
  obtain ⟨tb, htb, hput, htr, hrk, hpb⟩ := with_plan hg hk hf hl x
  obtain ⟨g, s', K, rfl, -, -, hr, hkk⟩ := h.row hnn
  have hcl := Nib.commonL_le t.pth p
  have hqs : t.pth.length ≤ 16 := by
    have := hg.low
    cases t <;> simp_all [Tri.Tr.low, Tri.Tr.pth]
  have HCM := Lib.hid (fun w => common_any t.pth p w (by omega) (by omega))
  have n0 := hr.kind
  have n1 := hr.path
  have n3 := hr.kid 0
  have HR := Lib.hid hr
  have HH := Lib.hid h
  have HSP : Hid (Tri.splits t p = true → ∀ w', Below w.heap.size w w' → Calls Tryd.prog 64 #[ptr g, .int .i64 (Nib.commonL t.pth p)] w' (MadeT w' F (splitT (Nib.commonL t.pth p) t))) := Lib.hid (fun hs w' hb =>
    split_any _ w' F (hF.size hb.size) (h.below hb) hk hg.firm hg.fits (by omega) hcl.1 (fun h2 => by
      cases t with
      | ext q u => simpa [Tri.splits, Tri.Tr.pth] using hs
      | _ => cases h2))
  obtain ⟨c, hc⟩ : ∃ c, Nib.commonL t.pth p = c := ⟨_, rfl⟩
  rw [hc] at htb hput hrk hpb hcl HCM HSP
  obtain ⟨q, hq⟩ : ∃ q, t.pth = q := ⟨_, rfl⟩
  rw [hq] at hcl hqs HCM n1
  have HRB : Hid (∀ w' vb, Below w.heap.size w w' → PAt w' F false tb vb → Calls Tryd.prog 48 #[vb, .string ⟨(p.drop c).toArray⟩, .string ⟨x.toArray⟩] w' (MadeT w' F (tb.put (p.drop c) x))) := Lib.hid (fun w' vb hb hp =>
    IH tb vb (p.drop c) x w' F (Nat.le_trans hrk hm) (hF.size hb.size) hp htr (Tri.fit_drop _ hf) (by simp; omega))
  have HBH : Hid (∀ w' v6, Below w.heap.size w w' → PAt w' F false (tb.put (p.drop c) x) v6 → Calls Tryd.prog 51 #[v6, .string ⟨(p.take c).toArray⟩] w' (MadeT w' F (t.put p x))) := Lib.hid (fun w' v6 hb hp => by
    rw [hput]
    exact behind_any (p.take c) w' F (hF.size hb.size) hp (Or.inr (Tri.put_nn _ _ _)) (by simp; omega) (by omega))
  have htail := cut_drop p c
  have htake := cut_take p c
  have z0 : (0 : Int) ≤ (c : Int) := by omega
  have z1 : (c : Int) ≤ (p.length : Int) := by omega
  obtain ⟨P1, hP1⟩ : ∃ P1, p.drop c = P1 := ⟨_, rfl⟩
  obtain ⟨P2, hP2⟩ : ∃ P2, p.take c = P2 := ⟨_, rfl⟩
  rw [hP1] at htail HRB HBH
  rw [hP2] at htake HBH
  have hkd : (t.kind : Int) ≠ 3 := by omega
  have e3 : ((t.kind : Int) == 3) = false := by rw [beq_eq_false_iff_ne]; exact hkd
  obtain ⟨b1, hb1⟩ : ∃ b, decide ((c : Int) < (q.length : Int)) = b := ⟨_, rfl⟩
  obtain ⟨b2, hb2⟩ : ∃ b, ((t.kind : Int) == 1) = b := ⟨_, rfl⟩
  obtain ⟨b3, hb3⟩ : ∃ b, decide ((c : Int) < (p.length : Int)) = b := ⟨_, rfl⟩
  have hsp : Tri.splits t p = (b1 || (b2 && b3)) := by
    subst hb1 hb2 hb3
    cases t with
    | nil => exact absurd trivial hnn
    | br y k => rcases hk with h | h <;> cases h
    | leaf q' y =>
      obtain rfl : q' = q := hq
      have hc2 : Nib.commonL q' p = c := hc
      simp only [Tri.splits, hc2, Tri.Tr.kind]
      rw [Bool.eq_iff_iff]; simp
    | ext q' y =>
      obtain rfl : q' = q := hq
      have hc2 : Nib.commonL q' p = c := hc
      simp only [Tri.splits, hc2, Tri.Tr.kind]
      rw [Bool.eq_iff_iff]; simp
  obtain ⟨kd, hkd2⟩ : ∃ kd, t.kind = kd := ⟨_, rfl⟩
  rw [hkd2] at n0 e3 hb2
  have hvk : PAt w F false (t.kid 0) (K 0) := (hkk 0).weak
  obtain ⟨vk, hvk2⟩ : ∃ vk, K 0 = vk := ⟨_, rfl⟩
  rw [hvk2] at n3 hvk
  have HVK := Lib.hid hvk
  have HTB := Lib.hid htb
  have HG : Hid (∀ w', Below w.heap.size w w' → w'.cell? ⟨g, 0, none⟩ = some (.int .i64 kd) ∧ w'.cell? ⟨g, 1, none⟩ = some (.string ⟨q.toArray⟩) ∧ w'.cell? ⟨g, 3, none⟩ = some vk) := Lib.hid (fun w' hb => by
    have k1 := hr.below hb
    have k3 := k1.kid 0
    rw [hvk2] at k3
    exact ⟨by rw [k1.kind, hkd2], by rw [k1.path, hq], k3⟩)
  have HSB : Hid (Tri.splits t p = (b1 || (b2 && b3))) := Lib.hid hsp
  unfold MadeT at HRB HBH HSP ⊢
  unfold ptr at HSP ⊢
  obtain ⟨TP, hTP⟩ : ∃ TP, t.put p x = TP := ⟨_, rfl⟩
  rw [hTP] at HBH ⊢
  clear h hg hf hl hm hcl hqs hput htr hrk hpb hr hkk IH hP1 hP2 hkd hsp hkd2 hvk hvk2 htb hc hq hTP hnn
  have hb1n : decide (c < q.length) = b1 := by rw [← hb1, decide_eq_decide]; omega
  have hb3n : decide (c < p.length) = b3 := by rw [← hb3, decide_eq_decide]; omega
  have hb2n : (kd == 1) = b2 := by rw [← hb2, Bool.eq_iff_iff]; simp; omega
  have HEND : Hid (∀ w', Below w.heap.size w w' → Below w.heap.size w w'.drew ∧ ∀ vb, PAt w' F false tb vb → PAt w'.drew F false tb vb) := Lib.hid (fun w' hb => ⟨hb.drew, fun vb hp => hp.below (Below.refl _ _).drew⟩)
  have HSPW : Hid (∀ b, Tri.splits t p = b → (b = true → (if Tri.splits t p then splitT c t else t.kid 0) = splitT c t) ∧ (b = false → (if Tri.splits t p then splitT c t else t.kid 0) = t.kid 0)) := Lib.hid (fun b hb => by rw [hb]; exact ⟨fun e => by rw [e]; rfl, fun e => by rw [e]; rfl⟩)
  clear hk
  cases b1 with
  | true =>
    replace HSP := Lib.hid (HSP.out HSB.out)
    replace HTB : Hid (tb = splitT c t) := Lib.hid (HTB.out.trans ((HSPW.out _ HSB.out).1 rfl))
    clear HSB HSPW
    go_enter Tryd.func48, Tryd.ntmps48
    go_wp2_with fail
    refine (HCM.out _).mono ?_
    rintro e w1 ⟨rfl, hbw1⟩
    obtain ⟨m0, m1, m3⟩ := HG.out _ hbw1
    have HB1 := Lib.hid hbw1
    clear hbw1
    go_wp2_with fail
    refine (HSP.out _ HB1.out).mono ?_
    rintro e w2 ⟨vb, rfl, hpb, hbs⟩
    have HB2 := Lib.hid (bchain HB1.out hbs)
    have HPB : Hid (PAt w2 F false tb vb) := Lib.hid (by rw [HTB.out]; exact hpb)
    clear hpb hbs m0 m1 m3
    go_upto_region 13 with fail
    obtain ⟨BD, PD0⟩ := HEND.out _ HB2.out
    have PD := PD0 _ HPB.out
    clear PD0
    go_region_held3 (fun _ => True) (trivial)
      (first | (go_at_call 48; refine (HRB.out _ vb ?_ ?_).mono ?_; (with_reducible exact BD); (with_reducible exact PD); rintro e w6 ⟨v6, rfl, hp6, hb6⟩; have hb6' := bchain BD hb6) | (go_at_call 51; refine (HBH.out _ v6 ?_ ?_).mono ?_; (with_reducible exact hb6'); (with_reducible exact hp6); rintro e w7 ⟨v7, rfl, hp7, hb7⟩; have hb7' := bchain hb6' hb7))
    all_goals
      go_wp2
      go_ret
      exact ⟨v7, rfl, hp7, hb7'⟩
  | false =>
    cases b2 with
    | false =>
      replace HTB : Hid (tb = t.kid 0) := Lib.hid (HTB.out.trans ((HSPW.out _ HSB.out).2 rfl))
      clear HSB HSPW HSP
      go_enter Tryd.func48, Tryd.ntmps48
      go_wp2_with fail
      refine (HCM.out _).mono ?_
      rintro e w1 ⟨rfl, hbw1⟩
      obtain ⟨m0, m1, m3⟩ := HG.out _ hbw1
      have HB1 := Lib.hid hbw1
      clear hbw1
      obtain ⟨vb, hvb⟩ : ∃ vb, vk = vb := ⟨_, rfl⟩
      rw [hvb] at m3
      have HPB : Hid (PAt w1 F false tb vb) := Lib.hid (by rw [HTB.out, ← hvb]; exact HVK.out.below HB1.out)
      clear hvb
      go_upto_region 13 with fail
      obtain ⟨BD, PD0⟩ := HEND.out _ HB1.out
      have PD := PD0 _ HPB.out
      clear PD0 m0 m1 m3
      go_region_held3 (fun _ => True) (trivial)
        (first | (go_at_call 48; refine (HRB.out _ vb ?_ ?_).mono ?_; (with_reducible exact BD); (with_reducible exact PD); rintro e w6 ⟨v6, rfl, hp6, hb6⟩; have hb6' := bchain BD hb6) | (go_at_call 51; refine (HBH.out _ v6 ?_ ?_).mono ?_; (with_reducible exact hb6'); (with_reducible exact hp6); rintro e w7 ⟨v7, rfl, hp7, hb7⟩; have hb7' := bchain hb6' hb7))
      all_goals
        go_wp2
        go_ret
        exact ⟨v7, rfl, hp7, hb7'⟩
    | true =>
      cases b3 with
      | false =>
        replace HTB : Hid (tb = t.kid 0) := Lib.hid (HTB.out.trans ((HSPW.out _ HSB.out).2 rfl))
        clear HSB HSPW HSP
        go_enter Tryd.func48, Tryd.ntmps48
        go_wp2_with fail
        refine (HCM.out _).mono ?_
        rintro e w1 ⟨rfl, hbw1⟩
        obtain ⟨m0, m1, m3⟩ := HG.out _ hbw1
        have HB1 := Lib.hid hbw1
        clear hbw1
        obtain ⟨vb, hvb⟩ : ∃ vb, vk = vb := ⟨_, rfl⟩
        rw [hvb] at m3
        have HPB : Hid (PAt w1 F false tb vb) := Lib.hid (by rw [HTB.out, ← hvb]; exact HVK.out.below HB1.out)
        clear hvb
        go_upto_region 13 with fail
        obtain ⟨BD, PD0⟩ := HEND.out _ HB1.out
        have PD := PD0 _ HPB.out
        clear PD0 m0 m1 m3
        go_region_held3 (fun _ => True) (trivial)
          (first | (go_at_call 48; refine (HRB.out _ vb ?_ ?_).mono ?_; (with_reducible exact BD); (with_reducible exact PD); rintro e w6 ⟨v6, rfl, hp6, hb6⟩; have hb6' := bchain BD hb6) | (go_at_call 51; refine (HBH.out _ v6 ?_ ?_).mono ?_; (with_reducible exact hb6'); (with_reducible exact hp6); rintro e w7 ⟨v7, rfl, hp7, hb7⟩; have hb7' := bchain hb6' hb7))
        all_goals
          go_wp2
          go_ret
          exact ⟨v7, rfl, hp7, hb7'⟩
      | true =>
        replace HSP := Lib.hid (HSP.out HSB.out)
        replace HTB : Hid (tb = splitT c t) := Lib.hid (HTB.out.trans ((HSPW.out _ HSB.out).1 rfl))
        clear HSB HSPW
        go_enter Tryd.func48, Tryd.ntmps48
        go_wp2_with fail
        refine (HCM.out _).mono ?_
        rintro e w1 ⟨rfl, hbw1⟩
        obtain ⟨m0, m1, m3⟩ := HG.out _ hbw1
        have HB1 := Lib.hid hbw1
        clear hbw1
        go_wp2_with fail
        refine (HSP.out _ HB1.out).mono ?_
        rintro e w2 ⟨vb, rfl, hpb, hbs⟩
        have HB2 := Lib.hid (bchain HB1.out hbs)
        have HPB : Hid (PAt w2 F false tb vb) := Lib.hid (by rw [HTB.out]; exact hpb)
        clear hpb hbs m0 m1 m3
        go_upto_region 13 with fail
        obtain ⟨BD, PD0⟩ := HEND.out _ HB2.out
        have PD := PD0 _ HPB.out
        clear PD0
        go_region_held3 (fun _ => True) (trivial)
          (first | (go_at_call 48; refine (HRB.out _ vb ?_ ?_).mono ?_; (with_reducible exact BD); (with_reducible exact PD); rintro e w6 ⟨v6, rfl, hp6, hb6⟩; have hb6' := bchain BD hb6) | (go_at_call 51; refine (HBH.out _ v6 ?_ ?_).mono ?_; (with_reducible exact hb6'); (with_reducible exact hp6); rintro e w7 ⟨v7, rfl, hp7, hb7⟩; have hb7' := bchain hb6' hb7))
        all_goals
          go_wp2
          go_ret
          exact ⟨v7, rfl, hp7, hb7'⟩
/-- with, of any tree. -/
theorem with_to (m : Nat) : WithTo m := by
  induction m using Nat.strongRecOn with
  | ind m IH =>
    intro t v p x w F hr hF h hg hf hl
    cases t with
    | nil =>
      have e : v = .pointer none := h
      subst e
      exact with_nil p x w F hF
    | leaf q y =>
      have hm : 2 * p.length + 1 ≤ m := hr
      exact with_else (IH (m - 1) (by omega)) p x w F (Or.inl rfl) (by omega) hF h hg hf hl
    | ext q u =>
      have hm : 2 * p.length + 1 ≤ m := hr
      exact with_else (IH (m - 1) (by omega)) p x w F (Or.inr rfl) (by omega) hF h hg hf hl
    | br y k =>
      cases p with
      | nil => exact with_here x w F hF h
      | cons b p =>
        have hm : 2 * (b :: p).length ≤ m := hr
        rw [List.length_cons] at hm
        exact with_below (IH (m - 1) (by omega)) b p x w F (by omega) hF h hg hf hl
theorem with_any {t : Tr} {v : Value} (p x : T) (w : World) (F : Fm) (hF : F.fresh w) (h : PAt w F false t v) (hg : Trim t) (hf : Nib.fitL p = true) (hl : p.length ≤ 16) :
    Calls Tryd.prog 48 #[v, .string ⟨p.toArray⟩, .string ⟨x.toArray⟩] w (MadeT w F (t.put p x)) := with_to _ t v p x w F (Nat.le_refl _) hF h hg hf hl
end Go.Proofs.YtikabacebmbacaaDoor
namespace Go.Proofs.YtikabacebmbacaaDoor
open Go.RowKit
open Sto (T)
open Tri (Tr Ok upd ix hb lay splitT Trim rank)

def within (t : Tr) : Prop := ∀ x ∈ t.items, x.1.length ≤ 16
theorem within_ext {q : T} {u : Tr} (h : within (.ext q u)) : within u := fun x hx => by
  have := h (q ++ x.1, x.2) (Tri.mem_behind.2 ⟨x.1, hx, rfl⟩)
  simp at this; omega
theorem within_br {y : T} {k : Fin 16 → Tr} (h : within (.br y k)) (i : Fin 16) : within (k i) := fun x hx => by
  have := h (hb i :: x.1, x.2) (Tri.mem_br.2 (Or.inr ⟨i, x.1, rfl, hx⟩))
  simp at this; omega
theorem low_of {t : Tr} (h : t.canon) (hs : within t) : t.low := by
  induction t with
  | nil => trivial
  | leaf p v => exact hs (p, v) (List.mem_singleton.2 rfl)
  | ext p t ih =>
    have ht : ¬ t.isNil := by have := h.2.1; cases t <;> simp_all [Tri.Tr.isBr, Tri.Tr.isNil]
    have hne : t.items ≠ [] := fun e => ht ((Tri.items_nil h.2.2).1 e)
    obtain ⟨a, l, e⟩ := List.exists_cons_of_ne_nil hne
    refine ⟨?_, ih h.2.2 (within_ext hs)⟩
    have := hs (p ++ a.1, a.2) (Tri.mem_behind.2 ⟨a.1, by rw [e]; exact List.mem_cons_self .., rfl⟩)
    simp at this; omega
  | br v k ih => exact fun i => ih i (h.1 i) (within_br hs i)
theorem del_within {t : Tr} {p : T} (hc : t.canon) (hf : t.fits) (hp : Nib.fitL p = true) (hg : t.get p ≠ none) (h : within t) : within (t.del p) := fun x hx => by
  rw [Tri.del_items hc hf hp hg] at hx
  exact h x (Tri.del_mem hx)
def WithoutTo (t : Tr) : Prop := ∀ (v : Value) (p : T) (w : World) (F : Fm), F.fresh w → PAt w F false t v → t.canon → t.fits → within t → Nib.fitL p = true → p.length ≤ 16 → t.get p ≠ none →
  Calls Tryd.prog 32 #[v, .string ⟨p.toArray⟩] w (MadeT w F (t.del p))

set_option maxRecDepth 100000 in
theorem without_leaf (q x p : T) {v : Value} (w : World) (F : Fm) (h : PAt w F false (.leaf q x) v) :
    Calls Tryd.prog 32 #[v, .string ⟨p.toArray⟩] w (MadeT w F .nil) := by
  obtain ⟨g, s', K, rfl, -, -, hr, hk⟩ := h.row id
  have n0 : w.cell? ⟨g, 0, none⟩ = some (.int .i64 1) := hr.kind
  unfold MadeT ptr
  clear h hr hk
  go_enter Tryd.func32, Tryd.ntmps32
  go_wp2
  go_ret
  exact ⟨_, rfl, rfl, Below.refl _ _⟩
set_option maxRecDepth 100000 in
set_option maxHeartbeats 2000000 in
theorem without_ext {u : Tr} (IH : WithoutTo u) {q : T} {v : Value} (p : T) (w : World) (F : Fm) (hF : F.fresh w) (h : PAt w F false (.ext q u) v) (hc : (Tr.ext q u).canon) (hf : (Tr.ext q u).fits) (hlo : within (.ext q u)) (hp : Nib.fitL p = true) (hl : p.length ≤ 16) (hg : (Tr.ext q u).get p ≠ none) :
    Calls Tryd.prog 32 #[v, .string ⟨p.toArray⟩] w (MadeT w F (lay q (u.del (p.drop q.length)))) := by
  obtain ⟨g, s', K, rfl, -, -, hr, hk⟩ := h.row id
  have hk0 : PAt w F s' u (K 0) := by have := hk 0; simpa [Tri.Tr.kid] using this
  have hq : p.take q.length = q ∧ u.get (p.drop q.length) ≠ none := by
    simp only [Tri.Tr.get] at hg
    split at hg
    · rename_i e; exact ⟨e, hg⟩
    · exact absurd rfl hg
  have hql : q.length ≤ p.length := by have := congrArg List.length hq.1; simp at this; omega
  obtain ⟨g1, g2, g3, g4⟩ := Tri.del_good hc.2.2 hf.2 (Tri.fit_drop q.length hp) hq.2
  have hdl : (u.del (p.drop q.length)).low := low_of g1 (del_within hc.2.2 hf.2 (Tri.fit_drop q.length hp) hq.2 (within_ext hlo))
  have HI : Hid (∀ w', Below w.heap.size w w' → Calls Tryd.prog 32 #[K 0, .string ⟨(p.drop q.length).toArray⟩] w' (MadeT w' F (u.del (p.drop q.length)))) := Lib.hid (fun w' hb =>
    IH (K 0) _ w' F (hF.size hb.size) (hk0.weak.below hb) hc.2.2 hf.2 (within_ext hlo) (Tri.fit_drop _ hp) (by simp; omega) hq.2)
  have HBH : Hid (∀ w' v6, Below w.heap.size w w' → PAt w' F false (u.del (p.drop q.length)) v6 → Calls Tryd.prog 51 #[v6, .string ⟨q.toArray⟩] w' (MadeT w' F (lay q (u.del (p.drop q.length))))) := Lib.hid (fun w' v6 hb hp6 =>
    behind_any q w' F (hF.size hb.size) hp6 (Or.inr (g3 hc.2.1)) (by omega) (by
      cases hd : u.del (p.drop q.length) <;> simp_all [Tri.Tr.low, Tri.Tr.pth] <;> omega))
  have HG : Hid (∀ w', Below w.heap.size w w' → w'.cell? ⟨g, 0, none⟩ = some (.int .i64 2) ∧ w'.cell? ⟨g, 1, none⟩ = some (.string ⟨q.toArray⟩) ∧ w'.cell? ⟨g, 3, none⟩ = some (K 0)) := Lib.hid (fun w' hb => by
    have k1 := hr.below hb
    exact ⟨k1.kind, k1.path, k1.kid 0⟩)
  have htail := cut_drop p q.length
  have z0 : (0 : Int) ≤ (q.length : Int) := by omega
  have z1 : (q.length : Int) ≤ (p.length : Int) := by omega
  obtain ⟨vk, hvk⟩ : ∃ vk, K 0 = vk := ⟨_, rfl⟩
  obtain ⟨P1, hP1⟩ : ∃ P1, p.drop q.length = P1 := ⟨_, rfl⟩
  obtain ⟨ud, hud⟩ : ∃ ud, u.del (p.drop q.length) = ud := ⟨_, rfl⟩
  rw [hvk] at HI HG
  rw [hud] at HI HBH ⊢
  rw [hP1] at HI htail
  obtain ⟨c0, c1, c2⟩ := HG.out _ (Below.refl _ _)
  unfold MadeT at HI HBH ⊢
  unfold ptr
  clear h hr hk hk0 hq hql g1 g2 g3 g4 hdl hc hf hlo hp hl hg IH hvk hP1 hud c1 c2
  go_enter Tryd.func32, Tryd.ntmps32
  go_upto_region 5 with fail
  have BD : Below w.heap.size w w.drew := (Below.refl _ _).drew
  obtain ⟨-, d1, d2⟩ := HG.out _ BD
  go_region_held3 (fun w' => w'.cell? ⟨g, 1, none⟩ = some (.string ⟨q.toArray⟩) ∧ w'.cell? ⟨g, 3, none⟩ = some vk)
    ((first | (with_reducible exact ⟨d1, d2⟩) | (refine (HG.out _ ?_).2; with_reducible assumption)))
    (first | (go_at_call 32; refine (HI.out _ ?_).mono ?_; (with_reducible exact BD); rintro e w6 ⟨v6, rfl, hp6, hb6⟩; have hb6' := bchain BD hb6) | (go_at_call 51; refine (HBH.out _ v6 ?_ ?_).mono ?_; (with_reducible exact hb6'); (with_reducible exact hp6); rintro e w7 ⟨v7, rfl, hp7, hb7⟩; have hb7' := bchain hb6' hb7))
  all_goals
    go_wp2
    go_ret
    exact ⟨v7, rfl, hp7, hb7'⟩
set_option maxRecDepth 100000 in
set_option maxHeartbeats 2000000 in
theorem without_here {y : T} {k : Fin 16 → Tr} {v : Value} (w : World) (F : Fm) (hF : F.fresh w) (h : PAt w F false (.br y k) v) (hlo : ∀ i, (k i).low) :
    Calls Tryd.prog 32 #[v, .string ⟨#[]⟩] w (MadeT w F (Tri.narrowT [] k)) := by
  obtain ⟨g, s', K, rfl, -, -, hr, hk⟩ := h.row id
  have HO := Lib.hid (open_any w hr (fun i => (hk i).oneCell))
  have n0 : w.cell? ⟨g, 0, none⟩ = some (.int .i64 3) := hr.kind
  have HK := Lib.hid hk
  have HLO := Lib.hid hlo
  unfold MadeT
  unfold ptr at HO ⊢
  clear h hr hk
  go_enter Tryd.func32, Tryd.ntmps32
  go_wp2_with fail
  refine HO.out.mono ?_
  rintro e w1 ⟨rfl, hr1, hb1⟩
  have m2 := hr1.val
  have f2 := hr1.free 2
  have HR1 := Lib.hid hr1
  have HB := Lib.hid hb1
  clear hr1 hb1
  go_wp2_with fail
  have hb2 := HB.out.setCell (p := ⟨w.heap.size, 2, none⟩) (Nat.le_refl _) (.string ⟨#[]⟩)
  have hq2 : PAt (w1.setCell ⟨w.heap.size, 2, none⟩ (.string ⟨#[]⟩)) F false (.br [] k) (ptr w.heap.size) := PAt.new (K := K) id (hF _ (Nat.le_refl _)) (HR1.out.setVal []) (fun i => ((HK.out i).weak).below hb2)
  have HN := Lib.hid (narrow_any _ F (hF.size hb2.size) hq2 HLO.out)
  unfold MadeT ptr at HN
  refine HN.out.mono ?_
  rintro e w3 ⟨v3, rfl, hp3, hb3⟩
  go_wp2
  go_ret
  exact ⟨v3, rfl, hp3, bchain hb2 hb3⟩
set_option maxRecDepth 100000 in
set_option maxHeartbeats 2000000 in
theorem without_below1 {y : T} {k : Fin 16 → Tr} {v : Value} (b : UInt8) (IH : WithoutTo (k (ix b))) (p : T) (w : World) (F : Fm) (hF : F.fresh w) (h : PAt w F false (.br y k) v) (hc : (Tr.br y k).canon) (hft : (Tr.br y k).fits) (hlo : within (.br y k)) (hf : Nib.fitL (b :: p) = true) (hl : (b :: p).length ≤ 16) (hg : (Tr.br y k).get (b :: p) ≠ none) (hnl : ¬ ((k (ix b)).del p).isNil) :
    Calls Tryd.prog 32 #[v, .string ⟨(b :: p).toArray⟩] w (MadeT w F (Tri.narrowT y (upd k (ix b) ((k (ix b)).del p)))) := by
  obtain ⟨g, s', K, rfl, -, -, hr, hk⟩ := h.row id
  have HO := Lib.hid (open_any w hr (fun i => (hk i).oneCell))
  have n0 : w.cell? ⟨g, 0, none⟩ = some (.int .i64 3) := hr.kind
  have HK : Hid (∀ i, PAt w F s' (k i) (K i)) := Lib.hid hk
  have HR := Lib.hid hr
  obtain ⟨hb1, hfp⟩ := Tri.fit_cons.1 hf
  have hix := ix_val hb1
  have hpl : p.length ≤ 16 := by simp at hl; omega
  have hgk : (k (ix b)).get p ≠ none := by simpa only [Tri.Tr.get, if_pos hb1] using hg
  obtain ⟨ud, hud⟩ : ∃ ud, (k (ix b)).del p = ud := ⟨_, rfl⟩
  have hlu : ∀ i, (upd k (ix b) ud i).low := fun i => by
    unfold upd
    split
    · rw [← hud]
      exact low_of (Tri.del_good (hc.1 _) (hft _) hfp hgk).1 (del_within (hc.1 _) (hft _) hfp hgk (within_br hlo _))
    · exact low_of (hc.1 i) (within_br hlo i)
  have HLU := Lib.hid hlu
  have HI : Hid (∀ w', Below w.heap.size w w' → w.heap.size < w'.heap.size → Calls Tryd.prog 32 #[K (ix b), .string ⟨p.toArray⟩] w' fun e w'' => ∃ g6, e = .returned (.pointer (some ⟨g6, 0, none⟩)) ∧ PAt w'' (F.off w.heap.size) false ud (.pointer (some ⟨g6, 0, none⟩)) ∧ Below w'.heap.size w' w'') := Lib.hid (fun w' hb hs =>
    (IH (K (ix b)) p w' _ ((hF.size hb.size).off hs) (((hk (ix b)).weak.new_off (Nat.le_refl _)).below hb) (hc.1 _) (hft _) (within_br hlo _) hfp hpl hgk).mono fun e w'' ⟨v6, e6, hp6, hb6⟩ => by
      rw [hud] at hp6
      obtain ⟨g6, rfl⟩ := hp6.ptr (by rw [← hud]; exact hnl)
      exact ⟨g6, e6, hp6, hb6⟩)
  have hbyte : ∀ hh, (⟨(b :: p).toArray⟩ : ByteArray)[0]'hh = b := byte_drop rfl
  have htail : (⟨(b :: p).toArray⟩ : ByteArray).extract 1 (b :: p).length = ⟨p.toArray⟩ := tail_drop (n := 0) rfl
  have hne : ((b :: p : List UInt8) == []) = false := rfl
  have z0 : (0 : Int) < ((b :: p).length : Int) := by rw [List.length_cons]; omega
  have z1 : (1 : Int) ≤ ((b :: p).length : Int) := by rw [List.length_cons]; omega
  have z6 : (0 : Int) ≤ (b.toNat : Int) := by omega
  have z7 : (b.toNat : Int) < 16 := by omega
  have HIX := Lib.hid hix
  obtain ⟨vk, hvk⟩ : ∃ vk, K (ix b) = vk := ⟨_, rfl⟩
  rw [hvk] at HI
  have HVK := Lib.hid hvk
  obtain ⟨P, hP⟩ : ∃ P, b :: p = P := ⟨_, rfl⟩
  rw [hP] at hbyte htail hne z0 z1 ⊢
  rw [hud]
  unfold MadeT
  unfold ptr at HO ⊢
  clear h hr hk hc hft hlo hg hf hl hb1 hfp hix hpl IH hvk hP hgk hlu hud hnl
  go_enter Tryd.func32, Tryd.ntmps32
  go_wp2_with fail
  refine HO.out.mono ?_
  rintro e w1 ⟨rfl, hr1, hb1⟩
  obtain ⟨q, hq⟩ : ∃ q, w.heap.size = q := ⟨_, rfl⟩
  have HSZ : Hid (q < w1.heap.size) := Lib.hid (by rw [← hq]; exact lt_of_heap hr1)
  have HGQ : Hid (g < q) := Lib.hid (by rw [← hq]; exact lt_of_heap HR.out)
  have HR1 := Lib.hid hr1
  have HB1 := Lib.hid hb1
  rw [hq] at HR1 HB1 HI ⊢
  have HQ := Lib.hid hq
  have HN1 : Hid (∀ w', Below w1.heap.size w1 w' → w'.cell? ⟨g, 3 + b.toNat, none⟩ = some vk ∧ w'.cell? ⟨q, 3 + b.toNat, none⟩ = some vk ∧ w'.frozen? ⟨q, 3 + b.toNat, none⟩ = false) := Lib.hid (fun w' hb => by
    have k1 := (HR.out.below (by rw [HQ.out]; exact HB1.out)).below hb
    have k2 := HR1.out.below hb
    have e1 := k1.kid (ix b)
    have e2 := k2.kid (ix b)
    rw [HIX.out, HVK.out] at e1 e2
    exact ⟨e1, e2, k2.free _⟩)
  have HK1 : Hid (∀ w' v, Below w1.heap.size w1 w' → (w'.setCell ⟨q, 3 + b.toNat, none⟩ v).cell? ⟨g, 3 + b.toNat, none⟩ = some vk) := Lib.hid (fun w' v hb => keep_cell (HN1.out w' hb).1 (Nat.ne_of_lt HGQ.out))
  have HI2 : Hid (∀ w', Below w1.heap.size w1 w' → Calls Tryd.prog 32 #[vk, .string ⟨p.toArray⟩] w' fun e w'' => ∃ g6, e = .returned (.pointer (some ⟨g6, 0, none⟩)) ∧ PAt w'' (F.off q) false ud (.pointer (some ⟨g6, 0, none⟩)) ∧ Below w1.heap.size w1 w'') := Lib.hid (fun w' hb => (HI.out w' (HB1.out.trans (hb.mono (Nat.le_of_lt HSZ.out))) (Nat.lt_of_lt_of_le HSZ.out hb.size)).mono fun e w'' ⟨g6, e6, hp6, hb6⟩ => ⟨g6, e6, hp6, hb.trans (hb6.mono hb.size)⟩)
  have HEND : Hid (∀ w6 v6, Below w1.heap.size w1 w6 → PAt w6 (F.off q) false ud v6 → Below w.heap.size w (w6.setCell ⟨q, 3 + b.toNat, none⟩ v6) ∧ PAt (w6.setCell ⟨q, 3 + b.toNat, none⟩ v6) F false (.br y (upd k (ix b) ud)) (ptr q)) := Lib.hid (fun w6 v6 hb6 hp6 => by
    have hbq : Below w.heap.size w w6 := by rw [HQ.out]; exact HB1.out.trans (hb6.mono (Nat.le_of_lt HSZ.out))
    refine ⟨by rw [← HQ.out]; exact hbq.setCell (p := ⟨w.heap.size, _, none⟩) (Nat.le_refl _) _, PAt.new (K := updK K (ix b) v6) id (hF _ (Nat.le_of_eq HQ.out)) ?_ (fun i => ?_)⟩
    · have := (HR1.out.below hb6).setKid (ix b) v6
      rw [HIX.out] at this
      exact this
    · simp only [Tri.Tr.kid, updK, Tri.upd]
      split
      · exact hp6.off _ _
      · exact (((HK.out i).weak.new_off (Nat.le_of_eq HQ.out)).below hbq).off _ _)
  clear hr1 hb1 hq HI
  go_upto_region 9 with fail
  have BD : Below w1.heap.size w1 w1.drew := (Below.refl _ _).drew
  obtain ⟨c1, c2, c3⟩ := HN1.out _ BD
  go_region_held3 (fun w' => w'.cell? ⟨g, 3 + b.toNat, none⟩ = some vk)
    ((first | (with_reducible exact c1) | (with_reducible exact d1) | (refine HK1.out _ _ ?_; with_reducible assumption)))
    ((go_at_call 32; refine (HI2.out _ ?_).mono ?_; (with_reducible assumption); rintro e w6 ⟨g6, rfl, hp6, hb6⟩; obtain ⟨d1, d2, d3⟩ := HN1.out _ hb6))
  all_goals
    obtain ⟨hbe, hpe⟩ := HEND.out _ _ hb6 hp6
    have HN := Lib.hid (narrow_any _ F (hF.size hbe.size) hpe HLU.out)
    unfold MadeT ptr at HN
    go_wp2_with fail
    refine HN.out.mono ?_
    rintro e w8 ⟨v8, rfl, hp8, hb8⟩
    go_wp2
    go_ret
    exact ⟨v8, rfl, hp8, bchain hbe hb8⟩
set_option maxRecDepth 100000 in
set_option maxHeartbeats 2000000 in
theorem without_below0 {y : T} {k : Fin 16 → Tr} {v : Value} (b : UInt8) (IH : WithoutTo (k (ix b))) (p : T) (w : World) (F : Fm) (hF : F.fresh w) (h : PAt w F false (.br y k) v) (hc : (Tr.br y k).canon) (hft : (Tr.br y k).fits) (hlo : within (.br y k)) (hf : Nib.fitL (b :: p) = true) (hl : (b :: p).length ≤ 16) (hg : (Tr.br y k).get (b :: p) ≠ none) (hnl : ((k (ix b)).del p).isNil) :
    Calls Tryd.prog 32 #[v, .string ⟨(b :: p).toArray⟩] w (MadeT w F (Tri.narrowT y (upd k (ix b) ((k (ix b)).del p)))) := by
  obtain ⟨g, s', K, rfl, -, -, hr, hk⟩ := h.row id
  have HO := Lib.hid (open_any w hr (fun i => (hk i).oneCell))
  have n0 : w.cell? ⟨g, 0, none⟩ = some (.int .i64 3) := hr.kind
  have HK : Hid (∀ i, PAt w F s' (k i) (K i)) := Lib.hid hk
  have HR := Lib.hid hr
  obtain ⟨hb1, hfp⟩ := Tri.fit_cons.1 hf
  have hix := ix_val hb1
  have hpl : p.length ≤ 16 := by simp at hl; omega
  have hgk : (k (ix b)).get p ≠ none := by simpa only [Tri.Tr.get, if_pos hb1] using hg
  obtain ⟨ud, hud⟩ : ∃ ud, (k (ix b)).del p = ud := ⟨_, rfl⟩
  have hlu : ∀ i, (upd k (ix b) ud i).low := fun i => by
    unfold upd
    split
    · rw [← hud]
      exact low_of (Tri.del_good (hc.1 _) (hft _) hfp hgk).1 (del_within (hc.1 _) (hft _) hfp hgk (within_br hlo _))
    · exact low_of (hc.1 i) (within_br hlo i)
  have HLU := Lib.hid hlu
  have HI : Hid (∀ w', Below w.heap.size w w' → w.heap.size < w'.heap.size → Calls Tryd.prog 32 #[K (ix b), .string ⟨p.toArray⟩] w' fun e w'' => e = .returned (.pointer none) ∧ PAt w'' (F.off w.heap.size) false ud (.pointer none) ∧ Below w'.heap.size w' w'') := Lib.hid (fun w' hb hs =>
    (IH (K (ix b)) p w' _ ((hF.size hb.size).off hs) (((hk (ix b)).weak.new_off (Nat.le_refl _)).below hb) (hc.1 _) (hft _) (within_br hlo _) hfp hpl hgk).mono fun e w'' ⟨v6, e6, hp6, hb6⟩ => by
      rw [hud] at hp6
      have hv6 : v6 = .pointer none := by rw [hud] at hnl; rw [Tri.isNil_eq hnl] at hp6; exact hp6
      subst hv6
      exact ⟨e6, hp6, hb6⟩)
  have hbyte : ∀ hh, (⟨(b :: p).toArray⟩ : ByteArray)[0]'hh = b := byte_drop rfl
  have htail : (⟨(b :: p).toArray⟩ : ByteArray).extract 1 (b :: p).length = ⟨p.toArray⟩ := tail_drop (n := 0) rfl
  have hne : ((b :: p : List UInt8) == []) = false := rfl
  have z0 : (0 : Int) < ((b :: p).length : Int) := by rw [List.length_cons]; omega
  have z1 : (1 : Int) ≤ ((b :: p).length : Int) := by rw [List.length_cons]; omega
  have z6 : (0 : Int) ≤ (b.toNat : Int) := by omega
  have z7 : (b.toNat : Int) < 16 := by omega
  have HIX := Lib.hid hix
  obtain ⟨vk, hvk⟩ : ∃ vk, K (ix b) = vk := ⟨_, rfl⟩
  rw [hvk] at HI
  have HVK := Lib.hid hvk
  obtain ⟨P, hP⟩ : ∃ P, b :: p = P := ⟨_, rfl⟩
  rw [hP] at hbyte htail hne z0 z1 ⊢
  rw [hud]
  unfold MadeT
  unfold ptr at HO ⊢
  clear h hr hk hc hft hlo hg hf hl hb1 hfp hix hpl IH hvk hP hgk hlu hud hnl
  go_enter Tryd.func32, Tryd.ntmps32
  go_wp2_with fail
  refine HO.out.mono ?_
  rintro e w1 ⟨rfl, hr1, hb1⟩
  obtain ⟨q, hq⟩ : ∃ q, w.heap.size = q := ⟨_, rfl⟩
  have HSZ : Hid (q < w1.heap.size) := Lib.hid (by rw [← hq]; exact lt_of_heap hr1)
  have HGQ : Hid (g < q) := Lib.hid (by rw [← hq]; exact lt_of_heap HR.out)
  have HR1 := Lib.hid hr1
  have HB1 := Lib.hid hb1
  rw [hq] at HR1 HB1 HI ⊢
  have HQ := Lib.hid hq
  have HN1 : Hid (∀ w', Below w1.heap.size w1 w' → w'.cell? ⟨g, 3 + b.toNat, none⟩ = some vk ∧ w'.cell? ⟨q, 3 + b.toNat, none⟩ = some vk ∧ w'.frozen? ⟨q, 3 + b.toNat, none⟩ = false) := Lib.hid (fun w' hb => by
    have k1 := (HR.out.below (by rw [HQ.out]; exact HB1.out)).below hb
    have k2 := HR1.out.below hb
    have e1 := k1.kid (ix b)
    have e2 := k2.kid (ix b)
    rw [HIX.out, HVK.out] at e1 e2
    exact ⟨e1, e2, k2.free _⟩)
  have HK1 : Hid (∀ w' v, Below w1.heap.size w1 w' → (w'.setCell ⟨q, 3 + b.toNat, none⟩ v).cell? ⟨g, 3 + b.toNat, none⟩ = some vk) := Lib.hid (fun w' v hb => keep_cell (HN1.out w' hb).1 (Nat.ne_of_lt HGQ.out))
  have HI2 : Hid (∀ w', Below w1.heap.size w1 w' → Calls Tryd.prog 32 #[vk, .string ⟨p.toArray⟩] w' fun e w'' => e = .returned (.pointer none) ∧ PAt w'' (F.off q) false ud (.pointer none) ∧ Below w1.heap.size w1 w'') := Lib.hid (fun w' hb => (HI.out w' (HB1.out.trans (hb.mono (Nat.le_of_lt HSZ.out))) (Nat.lt_of_lt_of_le HSZ.out hb.size)).mono fun e w'' ⟨e6, hp6, hb6⟩ => ⟨e6, hp6, hb.trans (hb6.mono hb.size)⟩)
  have HEND : Hid (∀ w6 v6, Below w1.heap.size w1 w6 → PAt w6 (F.off q) false ud v6 → Below w.heap.size w (w6.setCell ⟨q, 3 + b.toNat, none⟩ v6) ∧ PAt (w6.setCell ⟨q, 3 + b.toNat, none⟩ v6) F false (.br y (upd k (ix b) ud)) (ptr q)) := Lib.hid (fun w6 v6 hb6 hp6 => by
    have hbq : Below w.heap.size w w6 := by rw [HQ.out]; exact HB1.out.trans (hb6.mono (Nat.le_of_lt HSZ.out))
    refine ⟨by rw [← HQ.out]; exact hbq.setCell (p := ⟨w.heap.size, _, none⟩) (Nat.le_refl _) _, PAt.new (K := updK K (ix b) v6) id (hF _ (Nat.le_of_eq HQ.out)) ?_ (fun i => ?_)⟩
    · have := (HR1.out.below hb6).setKid (ix b) v6
      rw [HIX.out] at this
      exact this
    · simp only [Tri.Tr.kid, updK, Tri.upd]
      split
      · exact hp6.off _ _
      · exact (((HK.out i).weak.new_off (Nat.le_of_eq HQ.out)).below hbq).off _ _)
  clear hr1 hb1 hq HI
  go_upto_region 9 with fail
  have BD : Below w1.heap.size w1 w1.drew := (Below.refl _ _).drew
  obtain ⟨c1, c2, c3⟩ := HN1.out _ BD
  go_region_held3 (fun w' => w'.cell? ⟨g, 3 + b.toNat, none⟩ = some vk)
    ((first | (with_reducible exact c1) | (with_reducible exact d1) | (refine HK1.out _ _ ?_; with_reducible assumption)))
    ((go_at_call 32; refine (HI2.out _ ?_).mono ?_; (with_reducible assumption); rintro e w6 ⟨rfl, hp6, hb6⟩; obtain ⟨d1, d2, d3⟩ := HN1.out _ hb6))
  all_goals
    obtain ⟨hbe, hpe⟩ := HEND.out _ _ hb6 hp6
    have HN := Lib.hid (narrow_any _ F (hF.size hbe.size) hpe HLU.out)
    unfold MadeT ptr at HN
    go_wp2_with fail
    refine HN.out.mono ?_
    rintro e w8 ⟨v8, rfl, hp8, hb8⟩
    go_wp2
    go_ret
    exact ⟨v8, rfl, hp8, bchain hbe hb8⟩
/-- without, of any tree. -/
theorem without_to (t : Tr) : WithoutTo t := by
  induction t with
  | nil => exact fun v p w F _ _ _ _ _ _ _ hg => absurd rfl hg
  | leaf q x => exact fun v p w F _ h _ _ _ _ _ _ => without_leaf q x p w F h
  | ext q u ih => exact fun v p w F hF h hc hf hlo hp hl hg => without_ext ih p w F hF h hc hf hlo hp hl hg
  | br y k ih =>
    intro v p w F hF h hc hf hlo hp hl hg
    cases p with
    | nil => exact without_here w F hF h (fun i => low_of (hc.1 i) (within_br hlo i))
    | cons b p =>
      by_cases hnl : ((k (ix b)).del p).isNil
      · exact without_below0 b (ih _) p w F hF h hc hf hlo hp hl hg hnl
      · exact without_below1 b (ih _) p w F hF h hc hf hlo hp hl hg hnl
end Go.Proofs.YtikabacebmbacaaDoor
namespace Go.Proofs.YtikabacebmbacaaDoor
open Go.RowKit
open Sto (T)
open Tri (Tr Ok upd ix hb lay splitT Trim rank)
open Go.Proofs.YtikabacebmbacaaDoor.Nd (N)

/-- A tree as a trie may have it, sealed. -/
structure Sealed (w : World) (t : Tr) (v : Value) : Prop where
  at_ : PAt w (Fm.from 0) true t v
  ok : Ok t
  within : within t
  few : ∀ p, (t.spots Nd.sumS p).length ≤ 100000
theorem Sealed.below {w w' : World} {t : Tr} {v : Value} (h : Sealed w t v) (hb : Below w.heap.size w w') : Sealed w' t v := ⟨h.at_.below hb, h.ok, h.within, h.few⟩
theorem visits_le (want : T → Bool) (t : Tr) (p : T) : (t.visits want p).length ≤ (t.spots Nd.sumS p).length := by
  induction t generalizing p with
  | nil => exact Nat.le_refl _
  | leaf q v => exact Nat.le_refl _
  | ext q t ih =>
    rw [Tri.Tr.visits, Tri.Tr.spots, List.length_cons, List.length_cons]
    split
    · exact Nat.succ_le_succ (ih _)
    · simp
  | br v k ih =>
    rw [Tri.Tr.visits, Tri.Tr.spots, List.length_cons, List.length_cons]
    split
    · refine Nat.succ_le_succ ?_
      have : ∀ l : List (Fin 16), (l.flatMap fun i => (k i).visits want (p ++ [hb i])).length ≤ (l.flatMap fun i => (k i).spots Nd.sumS (p ++ [hb i])).length := fun l => by
        induction l with
        | nil => exact Nat.le_refl _
        | cons i l ihl =>
          rw [List.flatMap_cons, List.flatMap_cons, List.length_append, List.length_append]
          exact Nat.add_le_add (ih i _) ihl
      exact this _
    · simp
set_option maxRecDepth 100000 in
theorem texts_visits {w : World} {id : Nat} {wc : Array Value} {want : T → Bool} (hW : Wants w id wc want) :
    Visits w (Fm.from 0) 59 #[.pointer (some ⟨w.heap.size, 0, none⟩), .pointer (some ⟨w.heap.size + 1, 0, none⟩)] want (fun w' L => TextsI (w.heap.size + 2) (w.heap.size + 1) w.heap.size (.func (.func id) #[] wc) want w' L ∧ w.heap.size + 2 ≤ w'.heap.size) where
  call := fun _ _ => rfl
  keep := fun w' w'' L ⟨⟨z, h1, h2, h3⟩, h4⟩ hb => ⟨⟨z, (hb.block _ (lt_of_heap h1)).trans h1, (hb.block _ (lt_of_heap h2)).trans h2, h3.below hb⟩, Nat.le_trans h4 hb.size⟩
  step := fun w' L p t v hlen hb hI h hn ho hf hl => by
    have := texts_step hW (F := Fm.from 0) (w.heap.size + 2) (w.heap.size + 1) w.heap.size ⟨by omega, by omega, by omega⟩ (by omega) w' L p t v hlen hb hI.2 hI.1 h hn ho hf (by
      have := pth_len ho hn hl; omega)
    refine this.mono fun e w'' ⟨h1, h2, h3⟩ => ⟨h1, ⟨h2, ?_⟩, h3⟩
    obtain ⟨z, q1, _⟩ := h2
    have := lt_of_heap q1
    omega
def TextsPost (w : World) (L : List T) (e : Ending) (w' : World) : Prop := ∃ z, e = .returned z ∧ Own w' w.heap.size z L ∧ Below w.heap.size w w'
set_option maxRecDepth 100000 in
set_option maxHeartbeats 2000000 in
theorem texts_any {g : Nat} {t : Tr} {top n : Value} {id : Nat} {wc : Array Value} {want : T → Bool} (w : World) (hg : w.heap[g]? = some (.cells #[top, n] 63 (0, 0))) (hs : Sealed w t top) (hW : Wants w id wc want) (hd : Down want) :
    Calls Tryd.prog 42 #[ptr g, .func (.func id) #[] wc] w (TextsPost w (wantedT want t)) := by
  unfold TextsPost
  have hmf : ∀ (fn : Fn) (first cap : Array Value) (w : World), (Instr.makeFunc fn first cap).run Tryd.prog w = .ok (.func fn first cap) w := fun _ _ _ _ => rfl
  have hb1 : Below w.heap.size w ((w.alloc (.cells #[.func (.func id) #[] wc] 64)).alloc (.cells #[.slice none 0 0] 53)) := ((Below.refl _ w).alloc (Nat.le_refl _) _).alloc (by simp) _
  have c0 : ((w.alloc (.cells #[.func (.func id) #[] wc] 64)).alloc (.cells #[.slice none 0 0] 53)).cell? ⟨g, 0, none⟩ = some top := by
    rw [cell_of_row _ g 0 _ _ _ ((hb1.block g (lt_of_heap hg)).trans hg)]; rfl
  have hI0 : TextsI (w.heap.size + 2) (w.heap.size + 1) w.heap.size (.func (.func id) #[] wc) want ((w.alloc (.cells #[.func (.func id) #[] wc] 64)).alloc (.cells #[.slice none 0 0] 53)) [] :=
    ⟨_, heap_new_at _ _ _ (by simp), heap_old_at _ (heap_alloc_new w _), Own.nil _ _⟩
  have HWK := Lib.hid (walk_to (texts_visits hW) t _ [] [] top (by
    have := visits_le want t []
    have := hs.few []
    simp; omega) hb1 ⟨hI0, by simp⟩ hs.at_ hs.ok rfl (fun x hx => by
      have := hs.within x hx
      simpa using this))
  have HWT := Lib.hid (wanted_texts hd t)
  rw [List.nil_append] at HWK
  unfold ptr
  clear hg hs hW hd hb1 hI0
  go_enter Tryd.func42, Tryd.ntmps42
  go_wp2_with fail
  refine HWK.out.mono ?_
  rintro e w2 ⟨rfl, ⟨⟨z, h1, h2, h3⟩, h4⟩, hb2⟩
  have m1 := cell_of_one h1
  have HO : Hid (Own w2 w.heap.size z (wantedT want t)) := Lib.hid (by rw [← HWT.out]; exact own_lowS h3 (by omega))
  have HB := Lib.hid hb2
  clear h1 h2 h3 h4 hb2
  go_wp2
  go_ret
  exact ⟨z, rfl, HO.out, HB.out⟩
end Go.Proofs.YtikabacebmbacaaDoor
namespace Go.Proofs.YtikabacebmbacaaDoor
open Go.RowKit
open Sto (T)
open Tri (Tr Ok upd ix hb lay splitT Trim rank)
open Go.Proofs.YtikabacebmbacaaDoor.Nd (N)

set_option maxRecDepth 100000 in
theorem nodes_wants (w : World) : Wants w 43 #[] (fun _ => true) where
  call := fun _ _ => rfl
  step := fun w' p _ _ _ => by
    show Calls Tryd.prog 43 #[.string ⟨p.toArray⟩] w' _
    go_enter Tryd.func43, Tryd.ntmps43
    go_wp2
    go_ret
    exact ⟨rfl, Below.refl _ _⟩
set_option maxRecDepth 100000 in
theorem nodes_any {g : Nat} {t : Tr} {top n : Value} (w : World) (hg : w.heap[g]? = some (.cells #[top, n] 63 (0, 0))) (hs : Sealed w t top) :
    Calls Tryd.prog 24 #[ptr g] w (TextsPost w (wantedT (fun _ => true) t)) := by
  have HT := Lib.hid (texts_any w hg hs (nodes_wants w) down_all)
  unfold TextsPost ptr at HT
  unfold TextsPost ptr
  clear hg hs
  go_enter Tryd.func24, Tryd.ntmps24
  go_wp2_with fail
  refine HT.out.mono ?_
  rintro e w1 ⟨z, rfl, ho, hb⟩
  go_wp2
  go_ret
  exact ⟨z, rfl, ho, hb⟩
set_option maxRecDepth 100000 in
theorem trail_wants {c : Nat} {path : T} (w : World) (hc : w.heap[c]? = some (.cells #[.string ⟨path.toArray⟩] 9 (0, 0))) : Wants w 46 #[.pointer (some ⟨c, 0, none⟩)] (fun p => Tri.begins p path) where
  call := fun _ _ => rfl
  step := fun w' p hb _ _ => by
    show Calls Tryd.prog 46 #[.string ⟨p.toArray⟩, .pointer (some ⟨c, 0, none⟩)] w' _
    have c0 := cell_of_one ((hb.block c (lt_of_heap hc)).trans hc)
    have HP := Lib.hid (fun w => prefix_any path p w)
    unfold Tri.begins
    go_enter Tryd.func46, Tryd.ntmps46
    go_wp2_with fail
    refine (HP.out _).mono ?_
    rintro e w1 ⟨rfl, rfl⟩
    go_wp2
    go_ret
    exact ⟨rfl, Below.refl _ _⟩
set_option maxRecDepth 100000 in
set_option maxHeartbeats 1000000 in
theorem trail_any {g : Nat} {t : Tr} {top n : Value} (key : T) (w : World) (hl : key.length ≤ 1000) (hg : w.heap[g]? = some (.cells #[top, n] 63 (0, 0))) (hs : Sealed w t top) :
    Calls Tryd.prog 27 #[ptr g, .string ⟨key.toArray⟩] w (TextsPost w (wantedT (fun p => Tri.begins p (Nib.ofL key)) t)) := by
  have hmf : ∀ (fn : Fn) (first cap : Array Value) (w : World), (Instr.makeFunc fn first cap).run Tryd.prog w = .ok (.func fn first cap) w := fun _ _ _ _ => rfl
  have HOF := Lib.hid (fun w => of_any key w (by omega))
  have HT : Hid (∀ w1 path, Below w.heap.size w w1 → Calls Tryd.prog 42 #[ptr g, .func (.func 46) #[] #[.pointer (some ⟨w1.heap.size, 0, none⟩)]] (w1.alloc (.cells #[.string ⟨path.toArray⟩] 9)) (TextsPost (w1.alloc (.cells #[.string ⟨path.toArray⟩] 9)) (wantedT (fun p => Tri.begins p path) t))) := Lib.hid (fun w1 path hb => by
    have hb2 := hb.alloc hb.size (.cells #[.string ⟨path.toArray⟩] 9)
    exact texts_any _ ((hb2.block g (lt_of_heap hg)).trans hg) (hs.below hb2) (trail_wants _ (heap_alloc_new w1 _)) (down_begins path))
  unfold TextsPost ptr at HT
  unfold TextsPost ptr
  obtain ⟨P, hP⟩ : ∃ P, Nib.ofL key = P := ⟨_, rfl⟩
  rw [hP] at HOF ⊢
  clear hg hs hP
  go_enter Tryd.func27, Tryd.ntmps27
  go_wp2_with fail
  refine (HOF.out _).mono ?_
  rintro e w1 ⟨rfl, hb1⟩
  have HB1 := Lib.hid hb1
  clear hb1
  go_wp2_with fail
  refine (HT.out w1 P HB1.out).mono ?_
  rintro e w2 ⟨z, rfl, ho, hb⟩
  have HB2 : Hid (Below w.heap.size w w2) := Lib.hid (bchain (HB1.out.alloc HB1.out.size _) hb)
  have HO : Hid (Own w2 w.heap.size z (wantedT (fun p => Tri.begins p P) t)) := Lib.hid (own_lowS ho (by have := HB1.out.size; simp; omega))
  clear ho hb
  go_wp2
  go_ret
  exact ⟨z, rfl, HO.out, HB2.out⟩
set_option maxRecDepth 100000 in
set_option maxHeartbeats 1000000 in
theorem cover_wants {cf ce cl : Nat} {f e : T} (w : World) (hf : w.heap[cf]? = some (.cells #[.string ⟨(Nib.ofL f).toArray⟩] 9 (0, 0))) (he : w.heap[ce]? = some (.cells #[.string ⟨e.toArray⟩] 9 (0, 0))) (hl : w.heap[cl]? = some (.cells #[.string ⟨(Nib.ofL e).toArray⟩] 9 (0, 0))) :
    Wants w 44 #[.pointer (some ⟨cf, 0, none⟩), .pointer (some ⟨ce, 0, none⟩), .pointer (some ⟨cl, 0, none⟩)] (fun p => Tri.inL p f e) where
  call := fun _ _ => rfl
  step := fun w' p hb _ _ => by
    show Calls Tryd.prog 44 #[.string ⟨p.toArray⟩, .pointer (some ⟨cf, 0, none⟩), .pointer (some ⟨ce, 0, none⟩), .pointer (some ⟨cl, 0, none⟩)] w' _
    have c0 := cell_of_one ((hb.block cf (lt_of_heap hf)).trans hf)
    have c1 := cell_of_one ((hb.block ce (lt_of_heap he)).trans he)
    have c2 := cell_of_one ((hb.block cl (lt_of_heap hl)).trans hl)
    have H1 := Lib.hid (fun w => side_any p (Nib.ofL f) w)
    have H2 := Lib.hid (fun w => side_any p (Nib.ofL e) w)
    rw [in_sides]
    obtain ⟨a, ha⟩ : ∃ a, Nib.sideL p (Nib.ofL f) = a := ⟨_, rfl⟩
    obtain ⟨b, hb2⟩ : ∃ b, Nib.sideL p (Nib.ofL e) = b := ⟨_, rfl⟩
    rw [ha] at H1 ⊢
    rw [hb2] at H2 ⊢
    obtain ⟨x, hx⟩ : ∃ x, (a != -1) = x := ⟨_, rfl⟩
    obtain ⟨y, hy⟩ : ∃ y, (e == []) = y := ⟨_, rfl⟩
    obtain ⟨z, hz⟩ : ∃ z, (b != 1) = z := ⟨_, rfl⟩
    rw [hx, hy, hz]
    have hx2 : (!(a == -1)) = x := hx
    have hz2 : (!(b == 1)) = z := hz
    clear hb hf he hl ha hb2
    cases x with
    | false =>
      go_enter Tryd.func44, Tryd.ntmps44
      go_wp2_with fail
      refine (H1.out _).mono ?_
      rintro e w1 ⟨rfl, rfl⟩
      go_wp2
      go_ret
      exact ⟨rfl, Below.refl _ _⟩
    | true =>
      cases y with
      | true =>
        go_enter Tryd.func44, Tryd.ntmps44
        go_wp2_with fail
        refine (H1.out _).mono ?_
        rintro e w1 ⟨rfl, rfl⟩
        go_wp2
        go_ret
        exact ⟨rfl, Below.refl _ _⟩
      | false =>
        go_enter Tryd.func44, Tryd.ntmps44
        go_wp2_with fail
        refine (H1.out _).mono ?_
        rintro e w1 ⟨rfl, rfl⟩
        go_wp2_with fail
        refine (H2.out _).mono ?_
        rintro e w1 ⟨rfl, rfl⟩
        go_wp2
        go_ret
        exact ⟨rfl, Below.refl _ _⟩
end Go.Proofs.YtikabacebmbacaaDoor
namespace Go.Proofs.YtikabacebmbacaaDoor
open Go

theorem cnt_set : ∀ (L : List Bool) (i : Nat), L[i]? = some false → (L.set i true).count false + 1 = L.count false
  | [], i, h => by simp at h
  | b :: L, 0, h => by
    simp at h
    subst h
    simp
  | b :: L, i + 1, h => by
    have := cnt_set L i (by simpa using h)
    simp only [List.set_cons_succ, List.count_cons]
    omega
theorem ready_false {md : Region.Mode} {ops : Array Oper} {L : List Bool} {i : Nat} (h : i ∈ Region.ready md ops L.toArray) : L[i]? = some false := by
  have h2 := (List.mem_filter.1 h).2
  rw [Bool.and_eq_true] at h2
  have h3 := h2.1
  have e : L.toArray.getD i true = L[i]?.getD true := by simp [Array.getD_eq_getD_getElem?]
  rw [e] at h3
  cases hx : L[i]? with
  | none => rw [hx] at h3; simp at h3
  | some b => rw [hx] at h3; cases b <;> simp_all
theorem ready_lt {md : Region.Mode} {ops : Array Oper} {L : List Bool} {i : Nat} (h : i ∈ Region.ready md ops L.toArray) : i < ops.size := by
  have h2 := (List.mem_filter.1 h).1
  simpa using h2
theorem any_inv {P : Program} {md : Region.Mode} {l : List Oper} {Q : Exit → Act → World → Prop} {I : List Bool → Act → World → Prop}
    (hstep : ∀ L a w, L.length = l.length → I L a w → ∀ i o, l[i]? = some o → i ∈ Region.ready md l.toArray L.toArray → ∀ K : Act → World → Prop, (∀ a w, I (L.set i true) a w → K a w) → if Region.wanted o (yielded l.toArray a.tmps) = true then Oper.wp P o a w K Q else K (a.put o.dst undef) w)
    (hend : ∀ L a w, L.length = l.length → Region.ready md l.toArray L.toArray = [] → I L a w → Q .normal a w) :
    ∀ (fuel : Nat) (L : List Bool) (a : Act) (w : World), L.length = l.length → L.count false ≤ fuel → I L a w → wpAny P md l.toArray Q fuel L.toArray a w
  | 0, L, a, w, hl, hc, hI => by
    have hr : Region.ready md l.toArray L.toArray = [] := by
      cases hr : Region.ready md l.toArray L.toArray with
      | nil => rfl
      | cons i is =>
        have := ready_false (md := md) (ops := l.toArray) (L := L) (i := i) (by rw [hr]; simp)
        have := cnt_set L i this
        omega
    exact ⟨hr, hend L a w hl hr hI⟩
  | fuel + 1, L, a, w, hl, hc, hI => by
    refine ⟨fun hr => hend L a w hl hr hI, fun i hi => ?_⟩
    have hf := ready_false hi
    have hlt : i < l.length := by simpa using ready_lt hi
    have hs := cnt_set L i hf
    refine wpOp_step (o := l[i]) (by simp [hlt]) (fun K hK => ?_)
    refine hstep L a w hl hI i l[i] (by simp [hlt]) hi K (fun a' w' h => hK a' w' ?_)
    have e : L.toArray.setIfInBounds i true = (L.set i true).toArray := by simp
    rw [e]
    exact any_inv hstep hend fuel (L.set i true) a' w' (by simpa using hl) (by omega) h
theorem region_inv {P : Program} {id : Nat} {l : List Oper} {Q : Exit → Act → World → Prop} {a : Act} {w : World} (I : List Bool → Act → World → Prop) (hm : P.follows .mixedOrders = true)
    (h0 : I (List.replicate l.length false) a w.drew)
    (hstep : ∀ L a w, L.length = l.length → I L a w → ∀ i o, l[i]? = some o → i ∈ Region.ready .any l.toArray L.toArray → ∀ K : Act → World → Prop, (∀ a w, I (L.set i true) a w → K a w) → if Region.wanted o (yielded l.toArray a.tmps) = true then Oper.wp P o a w K Q else K (a.put o.dst undef) w)
    (hend : ∀ L a w, L.length = l.length → Region.ready .any l.toArray L.toArray = [] → I L a w → Q .normal a w) :
    (Code.region id l.toArray true).wp P Q a w := by
  refine wp_region_any hm ?_
  have e : Array.replicate l.toArray.size false = (List.replicate l.length false).toArray := by simp
  rw [e]
  exact any_inv hstep hend _ _ _ _ (by simp) (by simp) h0
end Go.Proofs.YtikabacebmbacaaDoor
namespace Go.Proofs.YtikabacebmbacaaDoor
open Go.RowKit
open Sto (T)
open Tri (Tr Ok upd ix hb lay splitT Trim rank)
open Go.Proofs.YtikabacebmbacaaDoor.Nd (N)

/-- A variable of the region's own: made once b, and holding P once d. -/
def CovR (w0 w : World) (b d : Option Bool) (P : T) (v : Value) : Prop :=
  b = some true → ∃ c, v = .pointer (some ⟨c, 0, none⟩) ∧ w0.heap.size ≤ c ∧ w.heap[c]? = some (.cells #[.string ⟨(if d = some true then P else []).toArray⟩] 9 (0, 0))
theorem CovR.below {w0 w w' : World} {b d : Option Bool} {P : T} {v : Value} (h : CovR w0 w b d P v) (hb : Below w.heap.size w w') : CovR w0 w' b d P v := fun hx => by
  obtain ⟨c, e, h1, h2⟩ := h hx
  exact ⟨c, e, h1, (hb.block c (lt_of_heap h2)).trans h2⟩
/-- What holds in the region: L tells which of its operations have come up. -/
def CovI (g q : Nat) (f e P Q : T) (w0 : World) (L : List Bool) (a : Act) (w : World) : Prop :=
  ∃ v7 v8 v9 v10 v11 v12 : Value, a = ⟨#[ptr g, .string ⟨f.toArray⟩, .string ⟨e.toArray⟩, undef, undef, .pointer (some ⟨q, 0, none⟩), .slice none 0 0, v7, v8, v9, v10, v11, v12, undef, undef, undef], []⟩ ∧
    Below w0.heap.size w0 w ∧
    (L[0]? = some true → v9 = .string ⟨f.toArray⟩) ∧ (L[1]? = some true → v10 = .string ⟨P.toArray⟩) ∧ (L[2]? = some true → v11 = .string ⟨e.toArray⟩) ∧ (L[3]? = some true → v12 = .string ⟨Q.toArray⟩) ∧
    CovR w0 w L[4]? L[6]? P v7 ∧ CovR w0 w L[5]? L[7]? Q v8 ∧ (L[4]? = some true → L[5]? = some true → v7 ≠ v8) ∧ (L[6]? = some true → L[4]? = some true) ∧ (L[7]? = some true → L[5]? = some true)
theorem ptr_ne {a b : Nat} (h : a ≠ b) : Value.pointer (some ⟨a, 0, none⟩) ≠ Value.pointer (some ⟨b, 0, none⟩) := fun hx => h (by injection hx with hx; injection hx with hx; injection hx)

set_option maxRecDepth 100000 in
set_option maxHeartbeats 1000000 in
theorem cover_any {g : Nat} {t : Tr} {top n : Value} (f e : T) (w : World) (hl : f.length ≤ 1000) (hl2 : e.length ≤ 1000) (hg : w.heap[g]? = some (.cells #[top, n] 63 (0, 0))) (hs : Sealed w t top) :
    Calls Tryd.prog 25 #[ptr g, .string ⟨f.toArray⟩, .string ⟨e.toArray⟩] w (TextsPost w (wantedT (fun p => Tri.inL p f e) t)) := by
  have hmf : ∀ (fn : Fn) (first cap : Array Value) (w : World), (Instr.makeFunc fn first cap).run Tryd.prog w = .ok (.func fn first cap) w := fun _ _ _ _ => rfl
  have HT : Hid (∀ w1 cf ce cl, Below w.heap.size w w1 → w1.heap[cf]? = some (.cells #[.string ⟨(Nib.ofL f).toArray⟩] 9 (0, 0)) → w1.heap[ce]? = some (.cells #[.string ⟨e.toArray⟩] 9 (0, 0)) → w1.heap[cl]? = some (.cells #[.string ⟨(Nib.ofL e).toArray⟩] 9 (0, 0)) →
      Calls Tryd.prog 42 #[ptr g, .func (.func 44) #[] #[.pointer (some ⟨cf, 0, none⟩), .pointer (some ⟨ce, 0, none⟩), .pointer (some ⟨cl, 0, none⟩)]] w1 (TextsPost w1 (wantedT (fun p => Tri.inL p f e) t))) := Lib.hid (fun w1 cf ce cl hb h1 h2 h3 =>
    texts_any _ ((hb.block g (lt_of_heap hg)).trans hg) (hs.below hb) (cover_wants _ h1 h2 h3) (down_in f e))
  unfold TextsPost ptr at HT
  unfold TextsPost ptr
  obtain ⟨P, hP⟩ : ∃ P, Nib.ofL f = P := ⟨_, rfl⟩
  obtain ⟨Q, hQ⟩ : ∃ Q, Nib.ofL e = Q := ⟨_, rfl⟩
  have HOF : Hid (∀ w', Calls Tryd.prog 33 #[.string ⟨f.toArray⟩] w' fun r w'' => r = .returned (.string ⟨P.toArray⟩) ∧ Below w'.heap.size w' w'') := Lib.hid (fun w' => by rw [← hP]; exact of_any f w' (by omega))
  have HOE : Hid (∀ w', Calls Tryd.prog 33 #[.string ⟨e.toArray⟩] w' fun r w'' => r = .returned (.string ⟨Q.toArray⟩) ∧ Below w'.heap.size w' w'') := Lib.hid (fun w' => by rw [← hQ]; exact of_any e w' (by omega))
  rw [hP, hQ] at HT
  obtain ⟨WT, hWT⟩ : ∃ WT, wantedT (fun p => Tri.inL p f e) t = WT := ⟨_, rfl⟩
  rw [hWT] at HT ⊢
  clear hg hs hP hQ hWT
  go_enter Tryd.func25, Tryd.ntmps25
  go_upto_region 1 with fail
  obtain ⟨w0, hw0⟩ : ∃ w0, w.alloc (.cells #[.string ⟨e.toArray⟩] 9) = w0 := ⟨_, rfl⟩
  have HE : Hid (w0.heap[w.heap.size]? = some (.cells #[.string ⟨e.toArray⟩] 9 (0, 0))) := Lib.hid (by rw [← hw0]; exact heap_alloc_new w _)
  have HB0 : Hid (Below w.heap.size w w0) := Lib.hid (by rw [← hw0]; exact (Below.refl _ w).alloc (Nat.le_refl _) _)
  obtain ⟨q, hq⟩ : ∃ q, w.heap.size = q := ⟨_, rfl⟩
  have HQ := Lib.hid hq
  rw [hw0, hq]
  rw [hq] at HE
  clear hw0 hq
  refine region_inv (CovI g q f e P Q w0) (by rfl) ?_ ?_ ?_
  · refine ⟨_, _, _, _, _, _, rfl, (Below.refl _ _).drew, ?_, ?_, ?_, ?_, ?_, ?_, ?_, ?_, ?_⟩ <;> (intro h; simp at h)
  · intro L a w1 hL hI i o ho hi K hK
    obtain ⟨v7, v8, v9, v10, v11, v12, rfl, hB, h0, h1, h2, h3, h4, h5, h6, h7, h8⟩ := hI
    obtain ⟨b0, b1, b2, b3, b4, b5, b6, b7, rfl⟩ : ∃ b0 b1 b2 b3 b4 b5 b6 b7, L = [b0, b1, b2, b3, b4, b5, b6, b7] := by
      match L, hL with
      | [b0, b1, b2, b3, b4, b5, b6, b7], _ => exact ⟨b0, b1, b2, b3, b4, b5, b6, b7, rfl⟩
    have hi2 := (List.mem_filter.1 hi).2
    clear hi hL
    rcases i with _ | _ | _ | _ | _ | _ | _ | _ | i
    · obtain rfl := Option.some.inj ho
      clear ho hi2
      rw [if_pos (by rfl)]
      go_simp
      exact hK _ _ ⟨v7, v8, _, v10, v11, v12, rfl, hB, fun _ => rfl, h1, h2, h3, h4, h5, h6, h7, h8⟩
    · obtain rfl := Option.some.inj ho
      simp [Region.binds] at hi2
      obtain rfl := h0 (by simp [hi2])
      clear ho hi2
      rw [if_pos (by rfl)]
      go_simp
      refine (HOF.out _).mono ?_
      rintro r w2 ⟨rfl, hb2⟩
      exact hK _ _ ⟨v7, v8, _, _, v11, v12, rfl, bchain hB hb2, h0, fun _ => rfl, h2, h3, h4.below hb2, h5.below hb2, h6, h7, h8⟩
    · obtain rfl := Option.some.inj ho
      clear ho hi2
      have c0 := cell_of_one ((hB.block q (lt_of_heap HE.out)).trans HE.out)
      rw [if_pos (by rfl)]
      go_simp
      exact hK _ _ ⟨v7, v8, v9, v10, _, v12, rfl, hB, h0, h1, fun _ => rfl, h3, h4, h5, h6, h7, h8⟩
    · obtain rfl := Option.some.inj ho
      simp [Region.binds] at hi2
      obtain rfl := h2 (by simp [hi2])
      clear ho hi2
      rw [if_pos (by rfl)]
      go_simp
      refine (HOE.out _).mono ?_
      rintro r w2 ⟨rfl, hb2⟩
      exact hK _ _ ⟨v7, v8, v9, v10, _, _, rfl, bchain hB hb2, h0, h1, h2, fun _ => rfl, h4.below hb2, h5.below hb2, h6, h7, h8⟩
    · obtain rfl := Option.some.inj ho
      simp [Region.binds] at hi2
      clear ho
      have hb6 : b6 = false := by
        cases b6 with
        | false => rfl
        | true => have := h7 rfl; simp [hi2] at this
      subst hb6
      rw [if_pos (by rfl)]
      go_simp
      have hA : Below w1.heap.size w1 (w1.alloc (.cells #[.string ⟨#[]⟩] 9)) := (Below.refl _ w1).alloc (Nat.le_refl _) _
      refine hK _ _ ⟨_, v8, v9, v10, v11, v12, rfl, bchain hB hA, h0, h1, h2, h3, fun _ => ⟨_, rfl, hB.size, heap_alloc_new _ _⟩, h5.below hA, fun _ hx => ?_, fun hx => by simp at hx, h8⟩
      obtain ⟨c, rfl, _, hc⟩ := h5 hx
      exact ptr_ne (Nat.ne_of_gt (lt_of_heap hc))
    · obtain rfl := Option.some.inj ho
      simp [Region.binds] at hi2
      clear ho
      have hb7 : b7 = false := by
        cases b7 with
        | false => rfl
        | true => have := h8 rfl; simp [hi2] at this
      subst hb7
      rw [if_pos (by rfl)]
      go_simp
      have hA : Below w1.heap.size w1 (w1.alloc (.cells #[.string ⟨#[]⟩] 9)) := (Below.refl _ w1).alloc (Nat.le_refl _) _
      refine hK _ _ ⟨v7, _, v9, v10, v11, v12, rfl, bchain hB hA, h0, h1, h2, h3, h4.below hA, fun _ => ⟨_, rfl, hB.size, heap_alloc_new _ _⟩, fun hx _ => ?_, h7, fun hx => by simp at hx⟩
      obtain ⟨c, rfl, _, hc⟩ := h4 hx
      exact ptr_ne (Nat.ne_of_lt (lt_of_heap hc))
    · obtain rfl := Option.some.inj ho
      simp [Region.binds] at hi2
      clear ho
      obtain ⟨c, rfl, hc0, hc⟩ := h4 (by simp [hi2])
      obtain rfl := h0 (by simp [hi2])
      obtain rfl := h1 (by simp [hi2])
      obtain rfl := h3 (by simp [hi2])
      have c0 := cell_of_one hc
      have f0 := free_of_one hc
      rw [if_pos (by rfl)]
      go_simp
      refine hK _ _ ⟨_, _, _, _, _, _, rfl, hB.setCell (p := ⟨c, 0, none⟩) hc0 _, fun _ => rfl, fun _ => rfl, h2, fun _ => rfl, fun _ => ⟨c, rfl, hc0, one_setCell hc⟩, fun hx => ?_, h6, fun _ => by simp [hi2], h8⟩
      obtain ⟨d, rfl, hd0, hd⟩ := h5 hx
      refine ⟨d, rfl, hd0, ?_⟩
      rw [Below.heap_setCell _ ⟨c, 0, none⟩ _ _ (fun hcd => h6 (by simp [hi2]) hx (by cases hcd; rfl))]
      exact hd
    · obtain rfl := Option.some.inj ho
      simp [Region.binds] at hi2
      clear ho
      obtain ⟨c, rfl, hc0, hc⟩ := h5 (by simp [hi2])
      obtain rfl := h0 (by simp [hi2])
      obtain rfl := h1 (by simp [hi2])
      obtain rfl := h2 (by simp [hi2])
      obtain rfl := h3 (by simp [hi2])
      have c0 := cell_of_one hc
      have f0 := free_of_one hc
      rw [if_pos (by rfl)]
      go_simp
      refine hK _ _ ⟨_, _, _, _, _, _, rfl, hB.setCell (p := ⟨c, 0, none⟩) hc0 _, fun _ => rfl, fun _ => rfl, fun _ => rfl, fun _ => rfl, fun hx => ?_, fun _ => ⟨c, rfl, hc0, one_setCell hc⟩, h6, h7, fun _ => by simp [hi2]⟩
      obtain ⟨d, rfl, hd0, hd⟩ := h4 hx
      refine ⟨d, rfl, hd0, ?_⟩
      rw [Below.heap_setCell _ ⟨c, 0, none⟩ _ _ (fun hcd => h6 hx (by simp [hi2]) (by cases hcd; rfl))]
      exact hd
    · simp at ho
  · intro L a w1 hL hr hI
    obtain ⟨v7, v8, v9, v10, v11, v12, rfl, hB, h0, h1, h2, h3, h4, h5, h6, h7, h8⟩ := hI
    obtain ⟨b0, b1, b2, b3, b4, b5, b6, b7, rfl⟩ : ∃ b0 b1 b2 b3 b4 b5 b6 b7, L = [b0, b1, b2, b3, b4, b5, b6, b7] := by
      match L, hL with
      | [b0, b1, b2, b3, b4, b5, b6, b7], _ => exact ⟨b0, b1, b2, b3, b4, b5, b6, b7, rfl⟩
    have hr2 := List.filter_eq_nil_iff.1 hr
    clear hr hL
    have k0 := hr2 0 (by simp)
    have k1 := hr2 1 (by simp)
    have k2 := hr2 2 (by simp)
    have k3 := hr2 3 (by simp)
    have k4 := hr2 4 (by simp)
    have k5 := hr2 5 (by simp)
    have k6 := hr2 6 (by simp)
    have k7 := hr2 7 (by simp)
    clear hr2
    simp [Region.binds] at k0 k2 k4 k5
    subst k0 k2 k4 k5
    simp [Region.binds] at k1
    subst k1
    simp [Region.binds] at k3
    subst k3
    simp [Region.binds] at k6
    subst k6
    simp [Region.binds] at k7
    subst k7
    obtain rfl := h0 rfl
    obtain rfl := h1 rfl
    obtain rfl := h2 rfl
    obtain rfl := h3 rfl
    obtain ⟨c, rfl, hc0, hc⟩ := h4 rfl
    obtain ⟨d, rfl, hd0, hd⟩ := h5 rfl
    have HX := Lib.hid (HT.out w1 c q d (bchain HB0.out hB) hc ((hB.block q (lt_of_heap HE.out)).trans HE.out) hd)
    have HBW := Lib.hid (bchain HB0.out hB)
    clear h0 h1 h2 h3 h4 h5 h6 h7 h8 hB hc hd hc0 hd0
    go_wp2_with fail
    refine HX.out.mono ?_
    rintro e w2 ⟨z, rfl, ho, hb⟩
    have HB2 : Hid (Below w.heap.size w w2) := Lib.hid (bchain HBW.out hb)
    have HO : Hid (Own w2 w.heap.size z WT) := Lib.hid (own_lowS ho HBW.out.size)
    clear ho hb
    go_wp2
    go_ret
    exact ⟨z, rfl, HO.out, HB2.out⟩
end Go.Proofs.YtikabacebmbacaaDoor
