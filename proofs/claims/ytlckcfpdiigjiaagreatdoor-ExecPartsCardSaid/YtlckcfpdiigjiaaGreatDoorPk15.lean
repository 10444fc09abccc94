/- TriWithout, TriTexts2, TriItems, TriCount, TriTrie -/
import Derived.Test.YtlckcfpdiigjiaaGreatDoorPk13
import Derived.Test.YtlckcfpdiigjiaaGreatDoorPk14
import Derived.Test.YtlckcfpdiigjiaaGreatDoorPk05
import Derived.Test.YtlckcfpdiigjiaaGreatDoorPk02
import Derived.Test.YtlckcfpdiigjiaaGreatDoorPk10
import Derived.Deep.RegionHeld3
namespace Go.Proofs.YtlckcfpdiigjiaaGreatDoor
open Go.RowKit
open Sto (T)
open Tri (Tr Ok upd ix hb lay splitT Trim rank)

def within (t : Tr) : Prop := ∀ x ∈ t.items, x.1.length ≤ 16
theorem within_ext {q : T} {u : Tr} (h : within (.ext q u)) : within u := fun x hx => by
  have := h (q ++ x.1, x.2) (Tri.mem_behind.2 ⟨x.1, hx, rfl⟩)
  simp at this; omega
theorem within_br {y : T} {k : Fin 16 → Tr} (h : within (.br y k)) (i : Fin 16) : within (k i) := fun x hx => by
  have := h (hb i :: x.1, x.2) (Tri.mem_br.2 (Or.inr ⟨i, x.1, rfl, hx⟩))
  simp at this; omega
theorem low_of {t : Tr} (h : t.canon) (hs : within t) : t.low := by
  induction t with
  | nil => trivial
  | leaf p v => exact hs (p, v) (List.mem_singleton.2 rfl)
  | ext p t ih =>
    have ht : ¬ t.isNil := by have := h.2.1; cases t <;> simp_all [Tri.Tr.isBr, Tri.Tr.isNil]
    have hne : t.items ≠ [] := fun e => ht ((Tri.items_nil h.2.2).1 e)
    obtain ⟨a, l, e⟩ := List.exists_cons_of_ne_nil hne
    refine ⟨?_, ih h.2.2 (within_ext hs)⟩
    have := hs (p ++ a.1, a.2) (Tri.mem_behind.2 ⟨a.1, by rw [e]; exact List.mem_cons_self .., rfl⟩)
    simp at this; omega
  | br v k ih => exact fun i => ih i (h.1 i) (within_br hs i)
theorem del_within {t : Tr} {p : T} (hc : t.canon) (hf : t.fits) (hp : Nib.fitL p = true) (hg : t.get p ≠ none) (h : within t) : within (t.del p) := fun x hx => by
  rw [Tri.del_items hc hf hp hg] at hx
  exact h x (Tri.del_mem hx)
def WithoutTo (t : Tr) : Prop := ∀ (v : Value) (p : T) (w : World) (F : Fm), F.fresh w → PAt w F false t v → t.canon → t.fits → within t → Nib.fitL p = true → p.length ≤ 16 → t.get p ≠ none →
  Calls Tryz.prog 84 #[v, .string ⟨p.toArray⟩] w (MadeT w F (t.del p))

set_option maxRecDepth 100000 in
theorem without_leaf (q x p : T) {v : Value} (w : World) (F : Fm) (h : PAt w F false (.leaf q x) v) :
    Calls Tryz.prog 84 #[v, .string ⟨p.toArray⟩] w (MadeT w F .nil) := by
  obtain ⟨g, s', K, rfl, -, -, hr, hk⟩ := h.row id
  have n0 : w.cell? ⟨g, 0, none⟩ = some (.int .i64 1) := hr.kind
  unfold MadeT ptr
  clear h hr hk
  go_enter Tryz.func84, Tryz.ntmps84
  go_wp2
  go_ret
  exact ⟨_, rfl, rfl, Below.refl _ _⟩
set_option maxRecDepth 100000 in
set_option maxHeartbeats 2000000 in
theorem without_ext {u : Tr} (IH : WithoutTo u) {q : T} {v : Value} (p : T) (w : World) (F : Fm) (hF : F.fresh w) (h : PAt w F false (.ext q u) v) (hc : (Tr.ext q u).canon) (hf : (Tr.ext q u).fits) (hlo : within (.ext q u)) (hp : Nib.fitL p = true) (hl : p.length ≤ 16) (hg : (Tr.ext q u).get p ≠ none) :
    Calls Tryz.prog 84 #[v, .string ⟨p.toArray⟩] w (MadeT w F (lay q (u.del (p.drop q.length)))) := by
  obtain ⟨g, s', K, rfl, -, -, hr, hk⟩ := h.row id
  have hk0 : PAt w F s' u (K 0) := by have := hk 0; simpa [Tri.Tr.kid] using this
  have hq : p.take q.length = q ∧ u.get (p.drop q.length) ≠ none := by
    simp only [Tri.Tr.get] at hg
    split at hg
    · rename_i e; exact ⟨e, hg⟩
    · exact absurd rfl hg
  have hql : q.length ≤ p.length := by have := congrArg List.length hq.1; simp at this; omega
  obtain ⟨g1, g2, g3, g4⟩ := Tri.del_good hc.2.2 hf.2 (Tri.fit_drop q.length hp) hq.2
  have hdl : (u.del (p.drop q.length)).low := low_of g1 (del_within hc.2.2 hf.2 (Tri.fit_drop q.length hp) hq.2 (within_ext hlo))
  have HI : Hid (∀ w', Below w.heap.size w w' → Calls Tryz.prog 84 #[K 0, .string ⟨(p.drop q.length).toArray⟩] w' (MadeT w' F (u.del (p.drop q.length)))) := Lib.hid (fun w' hb =>
    IH (K 0) _ w' F (hF.size hb.size) (hk0.weak.below hb) hc.2.2 hf.2 (within_ext hlo) (Tri.fit_drop _ hp) (by simp; omega) hq.2)
  have HBH : Hid (∀ w' v6, Below w.heap.size w w' → PAt w' F false (u.del (p.drop q.length)) v6 → Calls Tryz.prog 99 #[v6, .string ⟨q.toArray⟩] w' (MadeT w' F (lay q (u.del (p.drop q.length))))) := Lib.hid (fun w' v6 hb hp6 =>
    behind_any q w' F (hF.size hb.size) hp6 (Or.inr (g3 hc.2.1)) (by omega) (by
      cases hd : u.del (p.drop q.length) <;> simp_all [Tri.Tr.low, Tri.Tr.pth] <;> omega))
  have HG : Hid (∀ w', Below w.heap.size w w' → w'.cell? ⟨g, 0, none⟩ = some (.int .i64 2) ∧ w'.cell? ⟨g, 1, none⟩ = some (.string ⟨q.toArray⟩) ∧ w'.cell? ⟨g, 3, none⟩ = some (K 0)) := Lib.hid (fun w' hb => by
    have k1 := hr.below hb
    exact ⟨k1.kind, k1.path, k1.kid 0⟩)
  have htail := cut_drop p q.length
  have z0 : (0 : Int) ≤ (q.length : Int) := by omega
  have z1 : (q.length : Int) ≤ (p.length : Int) := by omega
  obtain ⟨vk, hvk⟩ : ∃ vk, K 0 = vk := ⟨_, rfl⟩
  obtain ⟨P1, hP1⟩ : ∃ P1, p.drop q.length = P1 := ⟨_, rfl⟩
  obtain ⟨ud, hud⟩ : ∃ ud, u.del (p.drop q.length) = ud := ⟨_, rfl⟩
  rw [hvk] at HI HG
  rw [hud] at HI HBH ⊢
  rw [hP1] at HI htail
  obtain ⟨c0, c1, c2⟩ := HG.out _ (Below.refl _ _)
  unfold MadeT at HI HBH ⊢
  unfold ptr
  clear h hr hk hk0 hq hql g1 g2 g3 g4 hdl hc hf hlo hp hl hg IH hvk hP1 hud c1 c2
  go_enter Tryz.func84, Tryz.ntmps84
  go_upto_region 5 with fail
  have BD : Below w.heap.size w w.drew := (Below.refl _ _).drew
  obtain ⟨-, d1, d2⟩ := HG.out _ BD
  go_region_held3 (fun w' => w'.cell? ⟨g, 1, none⟩ = some (.string ⟨q.toArray⟩) ∧ w'.cell? ⟨g, 3, none⟩ = some vk)
    ((first | (with_reducible exact ⟨d1, d2⟩) | (refine (HG.out _ ?_).2; with_reducible assumption)))
    (first | (go_at_call 84; refine (HI.out _ ?_).mono ?_; (with_reducible exact BD); rintro e w6 ⟨v6, rfl, hp6, hb6⟩; have hb6' := bchain BD hb6) | (go_at_call 99; refine (HBH.out _ v6 ?_ ?_).mono ?_; (with_reducible exact hb6'); (with_reducible exact hp6); rintro e w7 ⟨v7, rfl, hp7, hb7⟩; have hb7' := bchain hb6' hb7))
  all_goals
    go_wp2
    go_ret
    exact ⟨v7, rfl, hp7, hb7'⟩
set_option maxRecDepth 100000 in
set_option maxHeartbeats 2000000 in
theorem without_here {y : T} {k : Fin 16 → Tr} {v : Value} (w : World) (F : Fm) (hF : F.fresh w) (h : PAt w F false (.br y k) v) (hlo : ∀ i, (k i).low) :
    Calls Tryz.prog 84 #[v, .string ⟨#[]⟩] w (MadeT w F (Tri.narrowT [] k)) := by
  obtain ⟨g, s', K, rfl, -, -, hr, hk⟩ := h.row id
  have HO := Lib.hid (open_any w hr (fun i => (hk i).oneCell))
  have n0 : w.cell? ⟨g, 0, none⟩ = some (.int .i64 3) := hr.kind
  have HK := Lib.hid hk
  have HLO := Lib.hid hlo
  unfold MadeT
  unfold ptr at HO ⊢
  clear h hr hk
  go_enter Tryz.func84, Tryz.ntmps84
  go_wp2_with fail
  refine HO.out.mono ?_
  rintro e w1 ⟨rfl, hr1, hb1⟩
  have m2 := hr1.val
  have f2 := hr1.free 2
  have HR1 := Lib.hid hr1
  have HB := Lib.hid hb1
  clear hr1 hb1
  go_wp2_with fail
  have hb2 := HB.out.setCell (p := ⟨w.heap.size, 2, none⟩) (Nat.le_refl _) (.string ⟨#[]⟩)
  have hq2 : PAt (w1.setCell ⟨w.heap.size, 2, none⟩ (.string ⟨#[]⟩)) F false (.br [] k) (ptr w.heap.size) := PAt.new (K := K) id (hF _ (Nat.le_refl _)) (HR1.out.setVal []) (fun i => ((HK.out i).weak).below hb2)
  have HN := Lib.hid (narrow_any _ F (hF.size hb2.size) hq2 HLO.out)
  unfold MadeT ptr at HN
  refine HN.out.mono ?_
  rintro e w3 ⟨v3, rfl, hp3, hb3⟩
  go_wp2
  go_ret
  exact ⟨v3, rfl, hp3, bchain hb2 hb3⟩
set_option maxRecDepth 100000 in
set_option maxHeartbeats 2000000 in
theorem without_below1 {y : T} {k : Fin 16 → Tr} {v : Value} (b : UInt8) (IH : WithoutTo (k (ix b))) (p : T) (w : World) (F : Fm) (hF : F.fresh w) (h : PAt w F false (.br y k) v) (hc : (Tr.br y k).canon) (hft : (Tr.br y k).fits) (hlo : within (.br y k)) (hf : Nib.fitL (b :: p) = true) (hl : (b :: p).length ≤ 16) (hg : (Tr.br y k).get (b :: p) ≠ none) (hnl : ¬ ((k (ix b)).del p).isNil) :
    Calls Tryz.prog 84 #[v, .string ⟨(b :: p).toArray⟩] w (MadeT w F (Tri.narrowT y (upd k (ix b) ((k (ix b)).del p)))) := by
  obtain ⟨g, s', K, rfl, -, -, hr, hk⟩ := h.row id
  have HO := Lib.hid (open_any w hr (fun i => (hk i).oneCell))
  have n0 : w.cell? ⟨g, 0, none⟩ = some (.int .i64 3) := hr.kind
  have HK : Hid (∀ i, PAt w F s' (k i) (K i)) := Lib.hid hk
  have HR := Lib.hid hr
  obtain ⟨hb1, hfp⟩ := Tri.fit_cons.1 hf
  have hix := ix_val hb1
  have hpl : p.length ≤ 16 := by simp at hl; omega
  have hgk : (k (ix b)).get p ≠ none := by simpa only [Tri.Tr.get, if_pos hb1] using hg
  obtain ⟨ud, hud⟩ : ∃ ud, (k (ix b)).del p = ud := ⟨_, rfl⟩
  have hlu : ∀ i, (upd k (ix b) ud i).low := fun i => by
    unfold upd
    split
    · rw [← hud]
      exact low_of (Tri.del_good (hc.1 _) (hft _) hfp hgk).1 (del_within (hc.1 _) (hft _) hfp hgk (within_br hlo _))
    · exact low_of (hc.1 i) (within_br hlo i)
  have HLU := Lib.hid hlu
  have HI : Hid (∀ w', Below w.heap.size w w' → w.heap.size < w'.heap.size → Calls Tryz.prog 84 #[K (ix b), .string ⟨p.toArray⟩] w' fun e w'' => ∃ g6, e = .returned (.pointer (some ⟨g6, 0, none⟩)) ∧ PAt w'' (F.off w.heap.size) false ud (.pointer (some ⟨g6, 0, none⟩)) ∧ Below w'.heap.size w' w'') := Lib.hid (fun w' hb hs =>
    (IH (K (ix b)) p w' _ ((hF.size hb.size).off hs) (((hk (ix b)).weak.new_off (Nat.le_refl _)).below hb) (hc.1 _) (hft _) (within_br hlo _) hfp hpl hgk).mono fun e w'' ⟨v6, e6, hp6, hb6⟩ => by
      rw [hud] at hp6
      obtain ⟨g6, rfl⟩ := hp6.ptr (by rw [← hud]; exact hnl)
      exact ⟨g6, e6, hp6, hb6⟩)
  have hbyte : ∀ hh, (⟨(b :: p).toArray⟩ : ByteArray)[0]'hh = b := byte_drop rfl
  have htail : (⟨(b :: p).toArray⟩ : ByteArray).extract 1 (b :: p).length = ⟨p.toArray⟩ := tail_drop (n := 0) rfl
  have hne : ((b :: p : List UInt8) == []) = false := rfl
  have z0 : (0 : Int) < ((b :: p).length : Int) := by rw [List.length_cons]; omega
  have z1 : (1 : Int) ≤ ((b :: p).length : Int) := by rw [List.length_cons]; omega
  have z6 : (0 : Int) ≤ (b.toNat : Int) := by omega
  have z7 : (b.toNat : Int) < 16 := by omega
  have HIX := Lib.hid hix
  obtain ⟨vk, hvk⟩ : ∃ vk, K (ix b) = vk := ⟨_, rfl⟩
  rw [hvk] at HI
  have HVK := Lib.hid hvk
  obtain ⟨P, hP⟩ : ∃ P, b :: p = P := ⟨_, rfl⟩
  rw [hP] at hbyte htail hne z0 z1 ⊢
  rw [hud]
  unfold MadeT
  unfold ptr at HO ⊢
  clear h hr hk hc hft hlo hg hf hl hb1 hfp hix hpl IH hvk hP hgk hlu hud hnl
  go_enter Tryz.func84, Tryz.ntmps84
  go_wp2_with fail
  refine HO.out.mono ?_
  rintro e w1 ⟨rfl, hr1, hb1⟩
  obtain ⟨q, hq⟩ : ∃ q, w.heap.size = q := ⟨_, rfl⟩
  have HSZ : Hid (q < w1.heap.size) := Lib.hid (by rw [← hq]; exact lt_of_heap hr1)
  have HGQ : Hid (g < q) := Lib.hid (by rw [← hq]; exact lt_of_heap HR.out)
  have HR1 := Lib.hid hr1
  have HB1 := Lib.hid hb1
  rw [hq] at HR1 HB1 HI ⊢
  have HQ := Lib.hid hq
  have HN1 : Hid (∀ w', Below w1.heap.size w1 w' → w'.cell? ⟨g, 3 + b.toNat, none⟩ = some vk ∧ w'.cell? ⟨q, 3 + b.toNat, none⟩ = some vk ∧ w'.frozen? ⟨q, 3 + b.toNat, none⟩ = false) := Lib.hid (fun w' hb => by
    have k1 := (HR.out.below (by rw [HQ.out]; exact HB1.out)).below hb
    have k2 := HR1.out.below hb
    have e1 := k1.kid (ix b)
    have e2 := k2.kid (ix b)
    rw [HIX.out, HVK.out] at e1 e2
    exact ⟨e1, e2, k2.free _⟩)
  have HK1 : Hid (∀ w' v, Below w1.heap.size w1 w' → (w'.setCell ⟨q, 3 + b.toNat, none⟩ v).cell? ⟨g, 3 + b.toNat, none⟩ = some vk) := Lib.hid (fun w' v hb => keep_cell (HN1.out w' hb).1 (Nat.ne_of_lt HGQ.out))
  have HI2 : Hid (∀ w', Below w1.heap.size w1 w' → Calls Tryz.prog 84 #[vk, .string ⟨p.toArray⟩] w' fun e w'' => ∃ g6, e = .returned (.pointer (some ⟨g6, 0, none⟩)) ∧ PAt w'' (F.off q) false ud (.pointer (some ⟨g6, 0, none⟩)) ∧ Below w1.heap.size w1 w'') := Lib.hid (fun w' hb => (HI.out w' (HB1.out.trans (hb.mono (Nat.le_of_lt HSZ.out))) (Nat.lt_of_lt_of_le HSZ.out hb.size)).mono fun e w'' ⟨g6, e6, hp6, hb6⟩ => ⟨g6, e6, hp6, hb.trans (hb6.mono hb.size)⟩)
  have HEND : Hid (∀ w6 v6, Below w1.heap.size w1 w6 → PAt w6 (F.off q) false ud v6 → Below w.heap.size w (w6.setCell ⟨q, 3 + b.toNat, none⟩ v6) ∧ PAt (w6.setCell ⟨q, 3 + b.toNat, none⟩ v6) F false (.br y (upd k (ix b) ud)) (ptr q)) := Lib.hid (fun w6 v6 hb6 hp6 => by
    have hbq : Below w.heap.size w w6 := by rw [HQ.out]; exact HB1.out.trans (hb6.mono (Nat.le_of_lt HSZ.out))
    refine ⟨by rw [← HQ.out]; exact hbq.setCell (p := ⟨w.heap.size, _, none⟩) (Nat.le_refl _) _, PAt.new (K := updK K (ix b) v6) id (hF _ (Nat.le_of_eq HQ.out)) ?_ (fun i => ?_)⟩
    · have := (HR1.out.below hb6).setKid (ix b) v6
      rw [HIX.out] at this
      exact this
    · simp only [Tri.Tr.kid, updK, Tri.upd]
      split
      · exact hp6.off _ _
      · exact (((HK.out i).weak.new_off (Nat.le_of_eq HQ.out)).below hbq).off _ _)
  clear hr1 hb1 hq HI
  go_upto_region 9 with fail
  have BD : Below w1.heap.size w1 w1.drew := (Below.refl _ _).drew
  obtain ⟨c1, c2, c3⟩ := HN1.out _ BD
  go_region_held3 (fun w' => w'.cell? ⟨g, 3 + b.toNat, none⟩ = some vk)
    ((first | (with_reducible exact c1) | (with_reducible exact d1) | (refine HK1.out _ _ ?_; with_reducible assumption)))
    ((go_at_call 84; refine (HI2.out _ ?_).mono ?_; (with_reducible assumption); rintro e w6 ⟨g6, rfl, hp6, hb6⟩; obtain ⟨d1, d2, d3⟩ := HN1.out _ hb6))
  all_goals
    obtain ⟨hbe, hpe⟩ := HEND.out _ _ hb6 hp6
    have HN := Lib.hid (narrow_any _ F (hF.size hbe.size) hpe HLU.out)
    unfold MadeT ptr at HN
    go_wp2_with fail
    refine HN.out.mono ?_
    rintro e w8 ⟨v8, rfl, hp8, hb8⟩
    go_wp2
    go_ret
    exact ⟨v8, rfl, hp8, bchain hbe hb8⟩
set_option maxRecDepth 100000 in
set_option maxHeartbeats 2000000 in
theorem without_below0 {y : T} {k : Fin 16 → Tr} {v : Value} (b : UInt8) (IH : WithoutTo (k (ix b))) (p : T) (w : World) (F : Fm) (hF : F.fresh w) (h : PAt w F false (.br y k) v) (hc : (Tr.br y k).canon) (hft : (Tr.br y k).fits) (hlo : within (.br y k)) (hf : Nib.fitL (b :: p) = true) (hl : (b :: p).length ≤ 16) (hg : (Tr.br y k).get (b :: p) ≠ none) (hnl : ((k (ix b)).del p).isNil) :
    Calls Tryz.prog 84 #[v, .string ⟨(b :: p).toArray⟩] w (MadeT w F (Tri.narrowT y (upd k (ix b) ((k (ix b)).del p)))) := by
  obtain ⟨g, s', K, rfl, -, -, hr, hk⟩ := h.row id
  have HO := Lib.hid (open_any w hr (fun i => (hk i).oneCell))
  have n0 : w.cell? ⟨g, 0, none⟩ = some (.int .i64 3) := hr.kind
  have HK : Hid (∀ i, PAt w F s' (k i) (K i)) := Lib.hid hk
  have HR := Lib.hid hr
  obtain ⟨hb1, hfp⟩ := Tri.fit_cons.1 hf
  have hix := ix_val hb1
  have hpl : p.length ≤ 16 := by simp at hl; omega
  have hgk : (k (ix b)).get p ≠ none := by simpa only [Tri.Tr.get, if_pos hb1] using hg
  obtain ⟨ud, hud⟩ : ∃ ud, (k (ix b)).del p = ud := ⟨_, rfl⟩
  have hlu : ∀ i, (upd k (ix b) ud i).low := fun i => by
    unfold upd
    split
    · rw [← hud]
      exact low_of (Tri.del_good (hc.1 _) (hft _) hfp hgk).1 (del_within (hc.1 _) (hft _) hfp hgk (within_br hlo _))
    · exact low_of (hc.1 i) (within_br hlo i)
  have HLU := Lib.hid hlu
  have HI : Hid (∀ w', Below w.heap.size w w' → w.heap.size < w'.heap.size → Calls Tryz.prog 84 #[K (ix b), .string ⟨p.toArray⟩] w' fun e w'' => e = .returned (.pointer none) ∧ PAt w'' (F.off w.heap.size) false ud (.pointer none) ∧ Below w'.heap.size w' w'') := Lib.hid (fun w' hb hs =>
    (IH (K (ix b)) p w' _ ((hF.size hb.size).off hs) (((hk (ix b)).weak.new_off (Nat.le_refl _)).below hb) (hc.1 _) (hft _) (within_br hlo _) hfp hpl hgk).mono fun e w'' ⟨v6, e6, hp6, hb6⟩ => by
      rw [hud] at hp6
      have hv6 : v6 = .pointer none := by rw [hud] at hnl; rw [Tri.isNil_eq hnl] at hp6; exact hp6
      subst hv6
      exact ⟨e6, hp6, hb6⟩)
  have hbyte : ∀ hh, (⟨(b :: p).toArray⟩ : ByteArray)[0]'hh = b := byte_drop rfl
  have htail : (⟨(b :: p).toArray⟩ : ByteArray).extract 1 (b :: p).length = ⟨p.toArray⟩ := tail_drop (n := 0) rfl
  have hne : ((b :: p : List UInt8) == []) = false := rfl
  have z0 : (0 : Int) < ((b :: p).length : Int) := by rw [List.length_cons]; omega
  have z1 : (1 : Int) ≤ ((b :: p).length : Int) := by rw [List.length_cons]; omega
  have z6 : (0 : Int) ≤ (b.toNat : Int) := by omega
  have z7 : (b.toNat : Int) < 16 := by omega
  have HIX := Lib.hid hix
  obtain ⟨vk, hvk⟩ : ∃ vk, K (ix b) = vk := ⟨_, rfl⟩
  rw [hvk] at HI
  have HVK := Lib.hid hvk
  obtain ⟨P, hP⟩ : ∃ P, b :: p = P := ⟨_, rfl⟩
  rw [hP] at hbyte htail hne z0 z1 ⊢
  rw [hud]
  unfold MadeT
  unfold ptr at HO ⊢
  clear h hr hk hc hft hlo hg hf hl hb1 hfp hix hpl IH hvk hP hgk hlu hud hnl
  go_enter Tryz.func84, Tryz.ntmps84
  go_wp2_with fail
  refine HO.out.mono ?_
  rintro e w1 ⟨rfl, hr1, hb1⟩
  obtain ⟨q, hq⟩ : ∃ q, w.heap.size = q := ⟨_, rfl⟩
  have HSZ : Hid (q < w1.heap.size) := Lib.hid (by rw [← hq]; exact lt_of_heap hr1)
  have HGQ : Hid (g < q) := Lib.hid (by rw [← hq]; exact lt_of_heap HR.out)
  have HR1 := Lib.hid hr1
  have HB1 := Lib.hid hb1
  rw [hq] at HR1 HB1 HI ⊢
  have HQ := Lib.hid hq
  have HN1 : Hid (∀ w', Below w1.heap.size w1 w' → w'.cell? ⟨g, 3 + b.toNat, none⟩ = some vk ∧ w'.cell? ⟨q, 3 + b.toNat, none⟩ = some vk ∧ w'.frozen? ⟨q, 3 + b.toNat, none⟩ = false) := Lib.hid (fun w' hb => by
    have k1 := (HR.out.below (by rw [HQ.out]; exact HB1.out)).below hb
    have k2 := HR1.out.below hb
    have e1 := k1.kid (ix b)
    have e2 := k2.kid (ix b)
    rw [HIX.out, HVK.out] at e1 e2
    exact ⟨e1, e2, k2.free _⟩)
  have HK1 : Hid (∀ w' v, Below w1.heap.size w1 w' → (w'.setCell ⟨q, 3 + b.toNat, none⟩ v).cell? ⟨g, 3 + b.toNat, none⟩ = some vk) := Lib.hid (fun w' v hb => keep_cell (HN1.out w' hb).1 (Nat.ne_of_lt HGQ.out))
  have HI2 : Hid (∀ w', Below w1.heap.size w1 w' → Calls Tryz.prog 84 #[vk, .string ⟨p.toArray⟩] w' fun e w'' => e = .returned (.pointer none) ∧ PAt w'' (F.off q) false ud (.pointer none) ∧ Below w1.heap.size w1 w'') := Lib.hid (fun w' hb => (HI.out w' (HB1.out.trans (hb.mono (Nat.le_of_lt HSZ.out))) (Nat.lt_of_lt_of_le HSZ.out hb.size)).mono fun e w'' ⟨e6, hp6, hb6⟩ => ⟨e6, hp6, hb.trans (hb6.mono hb.size)⟩)
  have HEND : Hid (∀ w6 v6, Below w1.heap.size w1 w6 → PAt w6 (F.off q) false ud v6 → Below w.heap.size w (w6.setCell ⟨q, 3 + b.toNat, none⟩ v6) ∧ PAt (w6.setCell ⟨q, 3 + b.toNat, none⟩ v6) F false (.br y (upd k (ix b) ud)) (ptr q)) := Lib.hid (fun w6 v6 hb6 hp6 => by
    have hbq : Below w.heap.size w w6 := by rw [HQ.out]; exact HB1.out.trans (hb6.mono (Nat.le_of_lt HSZ.out))
    refine ⟨by rw [← HQ.out]; exact hbq.setCell (p := ⟨w.heap.size, _, none⟩) (Nat.le_refl _) _, PAt.new (K := updK K (ix b) v6) id (hF _ (Nat.le_of_eq HQ.out)) ?_ (fun i => ?_)⟩
    · have := (HR1.out.below hb6).setKid (ix b) v6
      rw [HIX.out] at this
      exact this
    · simp only [Tri.Tr.kid, updK, Tri.upd]
      split
      · exact hp6.off _ _
      · exact (((HK.out i).weak.new_off (Nat.le_of_eq HQ.out)).below hbq).off _ _)
  clear hr1 hb1 hq HI
  go_upto_region 9 with fail
  have BD : Below w1.heap.size w1 w1.drew := (Below.refl _ _).drew
  obtain ⟨c1, c2, c3⟩ := HN1.out _ BD
  go_region_held3 (fun w' => w'.cell? ⟨g, 3 + b.toNat, none⟩ = some vk)
    ((first | (with_reducible exact c1) | (with_reducible exact d1) | (refine HK1.out _ _ ?_; with_reducible assumption)))
    ((go_at_call 84; refine (HI2.out _ ?_).mono ?_; (with_reducible assumption); rintro e w6 ⟨rfl, hp6, hb6⟩; obtain ⟨d1, d2, d3⟩ := HN1.out _ hb6))
  all_goals
    obtain ⟨hbe, hpe⟩ := HEND.out _ _ hb6 hp6
    have HN := Lib.hid (narrow_any _ F (hF.size hbe.size) hpe HLU.out)
    unfold MadeT ptr at HN
    go_wp2_with fail
    refine HN.out.mono ?_
    rintro e w8 ⟨v8, rfl, hp8, hb8⟩
    go_wp2
    go_ret
    exact ⟨v8, rfl, hp8, bchain hbe hb8⟩
/-- without, of any tree. -/
theorem without_to (t : Tr) : WithoutTo t := by
  induction t with
  | nil => exact fun v p w F _ _ _ _ _ _ _ hg => absurd rfl hg
  | leaf q x => exact fun v p w F _ h _ _ _ _ _ _ => without_leaf q x p w F h
  | ext q u ih => exact fun v p w F hF h hc hf hlo hp hl hg => without_ext ih p w F hF h hc hf hlo hp hl hg
  | br y k ih =>
    intro v p w F hF h hc hf hlo hp hl hg
    cases p with
    | nil => exact without_here w F hF h (fun i => low_of (hc.1 i) (within_br hlo i))
    | cons b p =>
      by_cases hnl : ((k (ix b)).del p).isNil
      · exact without_below0 b (ih _) p w F hF h hc hf hlo hp hl hg hnl
      · exact without_below1 b (ih _) p w F hF h hc hf hlo hp hl hg hnl
end Go.Proofs.YtlckcfpdiigjiaaGreatDoor
namespace Go.Proofs.YtlckcfpdiigjiaaGreatDoor
open Go.RowKit
open Sto (T)
open Tri (Tr Ok upd ix hb lay splitT Trim rank)
open Go.Proofs.YtlckcfpdiigjiaaGreatDoor.Nd (N)

/-- A tree as a trie may have it, sealed. -/
structure Sealed (w : World) (t : Tr) (v : Value) : Prop where
  at_ : PAt w (Fm.from 0) true t v
  ok : Ok t
  within : within t
  few : ∀ p, (t.spots Nd.sumS p).length ≤ 100000
theorem Sealed.below {w w' : World} {t : Tr} {v : Value} (h : Sealed w t v) (hb : Below w.heap.size w w') : Sealed w' t v := ⟨h.at_.below hb, h.ok, h.within, h.few⟩
theorem visits_le (want : T → Bool) (t : Tr) (p : T) : (t.visits want p).length ≤ (t.spots Nd.sumS p).length := by
  induction t generalizing p with
  | nil => exact Nat.le_refl _
  | leaf q v => exact Nat.le_refl _
  | ext q t ih =>
    rw [Tri.Tr.visits, Tri.Tr.spots, List.length_cons, List.length_cons]
    split
    · exact Nat.succ_le_succ (ih _)
    · simp
  | br v k ih =>
    rw [Tri.Tr.visits, Tri.Tr.spots, List.length_cons, List.length_cons]
    split
    · refine Nat.succ_le_succ ?_
      have : ∀ l : List (Fin 16), (l.flatMap fun i => (k i).visits want (p ++ [hb i])).length ≤ (l.flatMap fun i => (k i).spots Nd.sumS (p ++ [hb i])).length := fun l => by
        induction l with
        | nil => exact Nat.le_refl _
        | cons i l ihl =>
          rw [List.flatMap_cons, List.flatMap_cons, List.length_append, List.length_append]
          exact Nat.add_le_add (ih i _) ihl
      exact this _
    · simp
end Go.Proofs.YtlckcfpdiigjiaaGreatDoor
namespace Go.Proofs.YtlckcfpdiigjiaaGreatDoor
open Go.RowKit
open Sto (T St)
open Tri (Tr Ok upd ix hb lay splitT Trim rank)
open Go.Proofs.YtlckcfpdiigjiaaGreatDoor.Nd (N)

def OwnI (w : World) (B : Nat) (z : Value) (S : St) : Prop := w.ownsRow B 68 2 z S.length (rowsL itcl S)
theorem OwnI.nil (w : World) (B : Nat) : OwnI w B (.slice none 0 0) [] := ⟨rfl, Or.inl ⟨rfl, rfl⟩⟩
theorem OwnI.below {w w' : World} {B : Nat} {s : Value} {L : St} (h : OwnI w B s L) (hb : Below w.heap.size w w') : OwnI w' B s L :=
  row_out (G := fun _ => False) h (Out.of hb) (fun _ _ _ _ hf => hf.elim)
theorem OwnI.lt {w : World} {B : Nat} {s : Value} {L : St} (h : OwnI w B s L) (k : Nat) (hk : s.ownBlock = some k) : B ≤ k ∧ k < w.heap.size := World.ownsRow.lt h k hk
theorem OwnI.at_ {w : World} {B : Nat} {s : Value} {L : St} (h : OwnI w B s L) : ItAt w s L := RowsAt.own itcl_length h
theorem OwnI.low {w : World} {B B' : Nat} {s : Value} {L : St} (h : OwnI w B s L) (hB : B' ≤ B) : OwnI w B' s L := by
  refine ⟨h.1, ?_⟩
  rcases h.2 with hn | ⟨k, cap, cur, hv, hb, hk, hr⟩
  · exact Or.inl hn
  · exact Or.inr ⟨k, cap, cur, hv, Nat.le_trans hB hb, hk, hr⟩
theorem app_item {w : World} {B : Nat} {z : Value} {S : St} (x y : T) (h : OwnI w B z S) (hl : S.length ≤ 100000) (hB : B ≤ w.heap.size) :
    ∃ g c w', (Builtin.append_ #[24, 24] 24 #[z, .slice (some ⟨w.heap.size, 0, none⟩) 1 1]).run Tryz.prog (w.alloc (.cells #[.string ⟨x.toArray⟩, .string ⟨y.toArray⟩] 68)) = .ok (.slice (some ⟨g, 0, none⟩) (S.length + 1) c) w' ∧
      OwnI w' B (.slice (some ⟨g, 0, none⟩) (S.length + 1) c) (S ++ [(x, y)]) ∧ Below B w w' := by
  have hv : ItAt (w.alloc (.cells #[.string ⟨x.toArray⟩, .string ⟨y.toArray⟩] 68)) (.slice (some ⟨w.heap.size, 0, none⟩) 1 1) [(x, y)] :=
    OwnI.at_ (B := w.heap.size) ⟨rfl, Or.inr ⟨w.heap.size, 1, _, rfl, Nat.le_refl _, heap_alloc_new w _, by simp, by simp [maxLen], rfl, rfl⟩⟩
  have hs : (w.alloc (.cells #[.string ⟨x.toArray⟩, .string ⟨y.toArray⟩] 68)).ownsRow B 68 2 z S.length (rowsL itcl S) := World.ownsRow.alloc h _
  obtain ⟨v', w', h1, h2, h3, _⟩ := append_it hv hs (by simp; omega) (by simp; omega)
  have ho : OwnI w' B v' (S ++ [(x, y)]) := by
    unfold OwnI
    rw [List.length_append, rowsL_append]
    exact h2
  obtain ⟨g, c, e, _, _⟩ := World.ownsRow.form h2 (by simp)
  subst e
  exact ⟨g, c, w', h1, ho, ((Below.refl B w).alloc hB _).grown h3 (by simp; omega) (fun k hk => (OwnI.lt h k hk).1)⟩
/-- The key of a path. -/
def keyP (p : T) : T := if p.length % 2 = 0 then Nib.joinL p else []
theorem key_any (p : T) (w : World) (hl : p.length ≤ 1000) (hf : Nib.fitL p = true) :
    ∃ c : Int, Calls Tryz.prog 36 #[.string ⟨p.toArray⟩] w fun e w' => e = .returned (.tuple #[.string ⟨(keyP p).toArray⟩, .int .i64 c]) ∧ Below w.heap.size w w' := by
  unfold keyP
  by_cases h : p.length % 2 = 0
  · rw [if_pos h]; exact ⟨0, key_good p w (by omega) hf h⟩
  · rw [if_neg h]; exact ⟨4, key_odd p w (by omega) hf (by omega)⟩
def itemsT (L : List (T × Tr)) : St := L.flatMap fun x => if x.2.vl = [] then [] else [(keyP (x.1 ++ x.2.pth), x.2.vl)]
theorem itemsT_len (L : List (T × Tr)) : (itemsT L).length ≤ L.length := by
  unfold itemsT
  induction L with
  | nil => exact Nat.le_refl _
  | cons a L ih =>
    rw [List.flatMap_cons, List.length_append, List.length_cons]
    split
    · simp only [List.length_nil]; omega
    · simp only [List.length_singleton]; omega
theorem itemsT_add (L : List (T × Tr)) (p : T) (t : Tr) : itemsT (L ++ [(p, t)]) = if t.vl = [] then itemsT L else itemsT L ++ [(keyP (p ++ t.pth), t.vl)] := by
  unfold itemsT
  rw [List.flatMap_append, List.flatMap_singleton]
  split <;> simp
def ItemsI (B cl : Nat) (w' : World) (L : List (T × Tr)) : Prop :=
  ∃ z, w'.heap[cl]? = some (.cells #[z] 24 (0, 0)) ∧ OwnI w' B z (itemsT L)
theorem val_len {t : Tr} (h : Ok t) : t.vl.length ≤ 32 := by
  have := h.small
  cases t with
  | nil => simp [Tri.Tr.vl]
  | leaf p v => exact this.2
  | ext p t => simp [Tri.Tr.vl]
  | br v k => exact this.1
set_option maxRecDepth 100000 in
set_option maxHeartbeats 4000000 in
theorem items_step {w0 : World} {F : Fm} (B cl : Nat) (hB : w0.heap.size ≤ cl ∧ cl < B)
    (w' : World) (L : List (T × Tr)) (p : T) (t : Tr) (v : Value) (hlen : L.length < 100000) (hb : Below w0.heap.size w0 w') (hBw : B ≤ w'.heap.size) (hI : ItemsI B cl w' L) (h : PAt w0 F true t v) (hn : ¬ t.isNil) (ho : Ok t) (hf : Nib.fitL p = true) (hp16 : p.length + t.pth.length ≤ 16) :
    Calls Tryz.prog 35 #[v, .string ⟨p.toArray⟩, .pointer (some ⟨cl, 0, none⟩)] w' fun e w'' => e = .returned (.bool true) ∧ ItemsI B cl w'' (L ++ [(p, t)]) ∧ Below w0.heap.size w0 w'' := by
  obtain ⟨z, hcl, hown⟩ := hI
  obtain ⟨g, s', K, rfl, hs, -, hr, hk⟩ := h.row hn
  have HR : Hid (∀ w1, Below w0.heap.size w0 w1 → w1.cell? ⟨g, 1, none⟩ = some (.string ⟨t.pth.toArray⟩) ∧ w1.cell? ⟨g, 2, none⟩ = some (.string ⟨t.vl.toArray⟩)) := Lib.hid (fun w1 hb1 => ⟨(hr.below hb1).path, (hr.below hb1).val⟩)
  have hpf : Nib.fitL (p ++ t.pth) = true := Tri.fit_append.2 ⟨hf, by
    have := ho.fits
    cases t with
    | nil => rfl
    | leaf q v => exact this
    | ext q u => exact this.1
    | br v k => rfl⟩
  have HKY := Lib.hid (fun w => key_any (p ++ t.pth) w (by simp; omega) hpf)
  have HCL := Lib.hid (fun w => dclone_any t.vl w (by have := val_len ho; omega))
  have HIA := Lib.hid (itemsT_add L p t)
  have HTL : Hid ((itemsT L).length ≤ 100000) := Lib.hid (Nat.le_trans (itemsT_len _) (Nat.le_of_lt hlen))
  obtain ⟨TL, hTL⟩ : ∃ TL, itemsT L = TL := ⟨_, rfl⟩
  obtain ⟨pp, hpp⟩ : ∃ pp, t.pth = pp := ⟨_, rfl⟩
  obtain ⟨x, hx⟩ : ∃ x, t.vl = x := ⟨_, rfl⟩
  rw [hTL] at hown HIA HTL
  rw [hpp] at HR HKY HIA hp16
  rw [hx] at HR HCL HIA
  have HB := Lib.hid hb
  have HOWN := Lib.hid hown
  have HCLL := Lib.hid hcl
  have cL : p.length ≤ 1000 := by omega
  have cL2 : pp.length ≤ 1000 := by omega
  have hcm := cat_mk p pp
  obtain ⟨m1, m2⟩ := HR.out w' hb
  unfold ptr
  clear h hr hk hpp hx hTL hb hown hcl hn ho hf hlen hp16 hpf
  by_cases hxe : x = []
  · subst hxe
    rw [if_pos rfl] at HIA
    have hz : (([] : List UInt8) == []) = true := rfl
    go_enter Tryz.func35, Tryz.ntmps35
    go_wp2
    go_ret
    refine ⟨rfl, ⟨z, HCLL.out, ?_⟩, HB.out⟩
    rw [HIA.out]
    exact HOWN.out
  · rw [if_neg hxe] at HIA
    have hxe2 : (x == []) = false := by rw [beq_eq_false_iff_ne]; exact hxe
    obtain ⟨c, hky⟩ := HKY.out w'
    have HKK := Lib.hid hky
    obtain ⟨X, hX⟩ : ∃ X, keyP (p ++ pp) = X := ⟨_, rfl⟩
    rw [hX] at HKK HIA
    clear hky HKY hX hxe
    go_enter Tryz.func35, Tryz.ntmps35
    go_wp2_with fail
    refine HKK.out.mono ?_
    rintro e w1 ⟨rfl, hb1⟩
    have HB1 : Hid (Below w'.heap.size w' w1) := Lib.hid hb1
    have HBB1 : Hid (Below w0.heap.size w0 w1) := Lib.hid (HB.out.trans (hb1.mono HB.out.size))
    clear hb1
    have HCC : Hid (∀ w2, Below w1.heap.size w1 w2 → w2.cell? ⟨cl, 0, none⟩ = some z ∧ w2.heap[cl]? = some (.cells #[z] 24 (0, 0))) := Lib.hid (fun w2 hb2 => by
      have h3 := (hb2.block cl (Nat.lt_of_lt_of_le (lt_of_heap HCLL.out) HB1.out.size)).trans ((HB1.out.block cl (lt_of_heap HCLL.out)).trans HCLL.out)
      exact ⟨cell_of_one h3, h3⟩)
    have HTX1 : Hid (∀ w2, Below w1.heap.size w1 w2 → Calls Tryz.prog 31 #[.string ⟨x.toArray⟩] w2 fun e w3 => e = .returned (.string ⟨x.toArray⟩) ∧ Below w1.heap.size w1 w3) := Lib.hid (fun w2 hb2 =>
      (HCL.out w2).mono fun e w3 ⟨e1, h3⟩ => ⟨e1, bchain hb2 h3⟩)
    have HAPP : Hid (∀ w6, Below w1.heap.size w1 w6 → ∃ g7 c7 w7, (Builtin.append_ #[24, 24] 24 #[z, .slice (some ⟨w6.heap.size, 0, none⟩) 1 1]).run Tryz.prog (w6.alloc (.cells #[.string ⟨X.toArray⟩, .string ⟨x.toArray⟩] 68)) = .ok (.slice (some ⟨g7, 0, none⟩) (TL.length + 1) c7) w7 ∧ w6.cell? ⟨cl, 0, none⟩ = some z ∧ (w6.alloc (.cells #[.string ⟨X.toArray⟩, .string ⟨x.toArray⟩] 68)).cell? ⟨cl, 0, none⟩ = some z ∧
        w7.cell? ⟨cl, 0, none⟩ = some z ∧ w7.frozen? ⟨cl, 0, none⟩ = false ∧ ItemsI B cl (w7.setCell ⟨cl, 0, none⟩ (.slice (some ⟨g7, 0, none⟩) (TL.length + 1) c7)) (L ++ [(p, t)]) ∧ Below w0.heap.size w0 (w7.setCell ⟨cl, 0, none⟩ (.slice (some ⟨g7, 0, none⟩) (TL.length + 1) c7))) := Lib.hid (fun w6 hb6 => by
      have hb16 := bchain HB1.out hb6
      have ho6 := HOWN.out.below hb16
      obtain ⟨g7, c7, w7, ha, ho7, hb7⟩ := app_item X x ho6 HTL.out (Nat.le_trans hBw hb16.size)
      obtain ⟨q1, q2⟩ := HCC.out w6 hb6
      have q7 : w7.heap[cl]? = some (.cells #[z] 24 (0, 0)) := (hb7.block cl hB.2).trans q2
      refine ⟨g7, c7, w7, ha, q1, cell_of_one (heap_old_at _ q2), cell_of_one q7, free_of_one q7, ⟨_, one_setCell q7, ?_⟩, ?_⟩
      · rw [HIA.out]
        have hgcl : g7 ≠ cl := fun e => by have := (OwnI.lt ho7 g7 rfl).1; omega
        exact ownsRow_setCell_other ho7 (a := ⟨cl, 0, none⟩) (fun e => hgcl (by simpa [Value.ownBlock] using e)) _
      · have h8 : Below w0.heap.size w0 w7 := (bchain HBB1.out hb6).trans (hb7.mono (Nat.le_of_lt (by omega)))
        exact h8.setCell (p := ⟨cl, 0, none⟩) hB.1 _)
    go_upto_region 3 with fail
    have BD : Below w1.heap.size w1 w1.drew := (Below.refl _ _).drew
    have cD := (HCC.out _ BD).1
    have vD := (HR.out _ (bchain HBB1.out BD)).2
    go_region_law (first | (refine step_call rfl 31 (.tmp 28) _ rfl (fun _ _ => rfl) _ (HTX1.out _ BD) ?_; rintro e w6 ⟨rfl, hb6⟩; refine ⟨_, rfl, ?_⟩; obtain ⟨g7, c7, w7, happ, k6, k6a, k7, f7, hT7, hB7⟩ := HAPP.out _ hb6) | (refine step_append_run rfl (.tmp 23) (.tmp 31) _ rfl _ _ _ ?_ ?_ happ ?_; (first | rfl | (focus (simp [Act.eval]; done)) | fail); (first | rfl | (focus (simp [Act.eval]; done)) | fail)))
    all_goals
      go_wp2
      go_ret
      exact ⟨rfl, hT7, hB7⟩
def rawT (L : List (T × Tr)) : St := L.flatMap fun x => if x.2.vl = [] then [] else [(x.1 ++ x.2.pth, x.2.vl)]
theorem raw_items {t : Tr} (h : t.canon) (p : T) : rawT (t.visits (fun _ => true) p) = Tri.behind p t.items := by
  induction t generalizing p with
  | nil => rfl
  | leaf q v =>
    have hv : v ≠ [] := h
    simp [rawT, Tri.Tr.visits, Tri.Tr.vl, Tri.Tr.pth, Tri.Tr.items, Tri.behind, hv]
  | ext q t ih =>
    have e : rawT ((Tr.ext q t).visits (fun _ => true) p) = rawT (t.visits (fun _ => true) (p ++ q)) := by
      simp [rawT, Tri.Tr.visits, Tri.Tr.vl]
    rw [e, ih h.2.2, Tri.Tr.items, Tri.behind_append]
  | br v k ih =>
    have hkid : ∀ l : List (Fin 16), rawT (l.flatMap fun i => (k i).visits (fun _ => true) (p ++ [hb i])) = Tri.behind p (l.flatMap fun i => Tri.behind [hb i] (k i).items) := fun l => by
      induction l with
      | nil => rfl
      | cons i l ihl =>
        have e1 : rawT ((i :: l).flatMap fun i => (k i).visits (fun _ => true) (p ++ [hb i])) = rawT ((k i).visits (fun _ => true) (p ++ [hb i])) ++ rawT (l.flatMap fun i => (k i).visits (fun _ => true) (p ++ [hb i])) := by
          simp [rawT, List.flatMap_cons, List.flatMap_append]
        rw [e1, ihl, ih i (h.1 i), List.flatMap_cons, Tri.behind_append]
        simp [Tri.behind]
    have e : rawT ((Tr.br v k).visits (fun _ => true) p) = Tri.behind p (Tri.own v) ++ rawT ((List.finRange 16).flatMap fun i => (k i).visits (fun _ => true) (p ++ [hb i])) := by
      unfold rawT
      rw [Tri.Tr.visits, List.flatMap_cons]
      congr 1
      by_cases hv : v = [] <;> simp [Tri.Tr.vl, Tri.Tr.pth, Tri.own, Tri.behind, hv]
    rw [e, hkid, Tri.Tr.items]
    simp [Tri.behind]
theorem items_raw (L : List (T × Tr)) : itemsT L = (rawT L).map fun x => (keyP x.1, x.2) := by
  unfold itemsT rawT
  induction L with
  | nil => rfl
  | cons a L ih =>
    rw [List.flatMap_cons, List.flatMap_cons, List.map_append, ih]
    congr 1
    split <;> rfl
theorem keyP_of (k : T) : keyP (Nib.ofL k) = k := by
  unfold keyP
  rw [if_pos (by rw [Nib.ofL_length]; omega), Nib.join_of]
theorem items_all {S : St} {t : Tr} (h : Tri.TreeOf S t) : itemsT (t.visits (fun _ => true) []) = S := by
  rw [items_raw, raw_items h.1, h.2.2]
  unfold Tri.paths Tri.behind
  rw [List.map_map, List.map_map]
  conv => rhs; rw [← List.map_id S]
  refine List.map_congr_left fun x _ => ?_
  simp [keyP_of]
set_option maxRecDepth 100000 in
theorem items_visits (w : World) :
    Visits w (Fm.from 0) 35 #[.pointer (some ⟨w.heap.size, 0, none⟩)] (fun _ => true) (fun w' L => ItemsI (w.heap.size + 1) w.heap.size w' L ∧ w.heap.size + 1 ≤ w'.heap.size) where
  call := fun _ _ => rfl
  keep := fun w' w'' L ⟨⟨z, h1, h3⟩, h4⟩ hb => ⟨⟨z, (hb.block _ (lt_of_heap h1)).trans h1, h3.below hb⟩, Nat.le_trans h4 hb.size⟩
  step := fun w' L p t v hlen hb hI h hn ho hf hl => by
    have := items_step (F := Fm.from 0) (w.heap.size + 1) w.heap.size ⟨by omega, by omega⟩ w' L p t v hlen hb hI.2 hI.1 h hn ho hf (pth_len ho hn hl)
    refine this.mono fun e w'' ⟨h1, h2, h3⟩ => ⟨h1, ⟨h2, ?_⟩, h3⟩
    obtain ⟨z, q1, _⟩ := h2
    have := lt_of_heap q1
    omega
def ItemsPost (w : World) (S : St) (e : Ending) (w' : World) : Prop := ∃ z, e = .returned z ∧ OwnI w' w.heap.size z S ∧ Below w.heap.size w w'
set_option maxRecDepth 100000 in
set_option maxHeartbeats 2000000 in
theorem items_any {g : Nat} {t : Tr} {S : St} {top n : Value} (w : World) (hg : w.heap[g]? = some (.cells #[top, n] 83 (0, 0))) (hs : Sealed w t top) (hT : Tri.TreeOf S t) :
    Calls Tryz.prog 16 #[ptr g] w (ItemsPost w S) := by
  unfold ItemsPost
  have hmf : ∀ (fn : Fn) (first cap : Array Value) (w : World), (Instr.makeFunc fn first cap).run Tryz.prog w = .ok (.func fn first cap) w := fun _ _ _ _ => rfl
  have hb1 : Below w.heap.size w (w.alloc (.cells #[.slice none 0 0] 24)) := (Below.refl _ w).alloc (Nat.le_refl _) _
  have c0 : (w.alloc (.cells #[.slice none 0 0] 24)).cell? ⟨g, 0, none⟩ = some top := by
    rw [cell_of_row _ g 0 _ _ _ ((hb1.block g (lt_of_heap hg)).trans hg)]; rfl
  have hI0 : ItemsI (w.heap.size + 1) w.heap.size (w.alloc (.cells #[.slice none 0 0] 24)) [] := ⟨_, heap_alloc_new w _, OwnI.nil _ _⟩
  have HWK := Lib.hid (walk_to (items_visits w) t _ [] [] top (by
    have := visits_le (fun _ => true) t []
    have := hs.few []
    simp; omega) hb1 ⟨hI0, by simp⟩ hs.at_ hs.ok rfl (fun x hx => by
      have := hs.within x hx
      simpa using this))
  have HWT := Lib.hid (items_all hT)
  rw [List.nil_append] at HWK
  unfold ptr
  clear hg hs hb1 hI0 hT
  go_enter Tryz.func16, Tryz.ntmps16
  go_wp2_with fail
  refine HWK.out.mono ?_
  rintro e w2 ⟨rfl, ⟨⟨z, h1, h3⟩, h4⟩, hb2⟩
  have m1 := cell_of_one h1
  have HO : Hid (OwnI w2 w.heap.size z S) := Lib.hid (by rw [← HWT.out]; exact h3.low (by omega))
  have HB := Lib.hid hb2
  clear h1 h3 h4 hb2
  go_wp2
  go_ret
  exact ⟨z, rfl, HO.out, HB.out⟩
end Go.Proofs.YtlckcfpdiigjiaaGreatDoor
namespace Go.Proofs.YtlckcfpdiigjiaaGreatDoor.Tri
open Sto (T St Rising keys)
open Go.Proofs.YtlckcfpdiigjiaaGreatDoor.Nd (N)

theorem pair_sub : ∀ i j : Fin 16, i < j → [i, j].Sublist (List.finRange 16) := by decide +kernel
theorem one_sub : ∀ i : Fin 16, [i].Sublist (List.finRange 16) := by decide +kernel
theorem spots_len (dg : N → T) {t : Tr} (h : t.canon) (hn : ¬ t.isNil) (p : T) : (t.spots dg p).length + 2 ≤ 3 * t.items.length ∧ (t.isBr → (t.spots dg p).length + 3 ≤ 3 * t.items.length) := by
  induction t generalizing p with
  | nil => exact absurd trivial hn
  | leaf q v => exact ⟨by simp [Tr.spots, Tr.items], fun h => h.elim⟩
  | ext q t ih =>
    have n1 : ¬ t.isNil := by have := h.2.1; cases t <;> simp_all [Tr.isBr, Tr.isNil]
    have := (ih h.2.2 n1 (p ++ q)).2 h.2.1
    refine ⟨?_, fun h => h.elim⟩
    rw [Tr.spots, Tr.items, behind, List.length_map, List.length_cons]
    omega
  | br v k ih =>
    have all : ∀ l : List (Fin 16), (l.flatMap fun i => (k i).spots dg (p ++ [hb i])).length + 2 * l.countP (fun i => !(k i).nilB) ≤ 3 * (l.flatMap fun i => behind [hb i] (k i).items).length := by
      intro l
      induction l with
      | nil => simp
      | cons i l ihl =>
        rw [List.flatMap_cons, List.flatMap_cons, List.length_append, List.length_append, List.countP_cons]
        have hb1 : (behind [hb i] (k i).items).length = (k i).items.length := by rw [behind, List.length_map]
        by_cases e : (k i).isNil
        · have e2 := (nilB_iff _).2 e
          have e3 : (k i).spots dg (p ++ [hb i]) = [] := by cases hk : k i with
            | nil => rfl
            | _ => rw [hk] at e; exact e.elim
          rw [e3, e2]
          simp only [Bool.not_true, Bool.false_eq_true, if_false, List.length_nil]
          omega
        · have e2 : (k i).nilB = false := by cases hk : (k i).nilB with
            | false => rfl
            | true => exact absurd ((nilB_iff _).1 hk) e
          have := (ih i (h.1 i) e (p ++ [hb i])).1
          rw [e2, hb1]
          simp only [Bool.not_false, if_true]
          omega
    have h1 := all (List.finRange 16)
    have h2 : 4 ≤ 3 * (own v).length + 2 * (List.finRange 16).countP (fun i => !(k i).nilB) := by
      have ne : ∀ i, ¬ (k i).isNil → (!(k i).nilB) = true := fun i hi => by
        cases hk : (k i).nilB with
        | false => rfl
        | true => exact absurd ((nilB_iff _).1 hk) hi
      rcases h.2 with ⟨i, j, hij, hi, hj⟩ | ⟨hv, i, hi⟩
      · have := (pair_sub i j hij).countP_le (p := fun i => !(k i).nilB)
        simp only [List.countP_cons, ne i hi, ne j hj, if_true, List.countP_nil] at this
        omega
      · have := (one_sub i).countP_le (p := fun i => !(k i).nilB)
        simp only [List.countP_cons, ne i hi, if_true, List.countP_nil] at this
        rw [own, if_neg hv, List.length_singleton]
        omega
    have h3 : (Tr.spots dg p (.br v k)).length + 3 ≤ 3 * (Tr.br v k).items.length := by
      rw [Tr.spots, Tr.items, List.length_cons, List.length_append]
      omega
    exact ⟨by omega, fun _ => h3⟩
end Go.Proofs.YtlckcfpdiigjiaaGreatDoor.Tri
namespace Go.Proofs.YtlckcfpdiigjiaaGreatDoor
open Go.RowKit
open Sto (T St)
open Tri (Tr Ok upd ix hb lay splitT Trim rank)
open Go.Proofs.YtlckcfpdiigjiaaGreatDoor.Nd (N)

/-- Items as a trie may have them, with their tree. -/
structure TrS (S : St) (t : Tr) : Prop where
  tree : Tri.TreeOf S t
  rise : Sto.Rising S
  fair : ∀ x ∈ S, 1 ≤ x.1.length ∧ x.1.length ≤ 8 ∧ 1 ≤ x.2.length ∧ x.2.length ≤ 32
  few : S.length ≤ 1024
theorem TrS.within {S : St} {t : Tr} (h : TrS S t) : within t := fun x hx => by
  rw [h.tree.2.2] at hx
  obtain ⟨y, hy, rfl⟩ := List.mem_map.1 hx
  have := (h.fair y hy).2.1
  rw [Nib.ofL_length]; omega
theorem TrS.ok {S : St} {t : Tr} (h : TrS S t) : Ok t := ⟨h.tree.1, h.tree.2.1, Tri.small_of h.tree.1 fun x hx => ⟨h.within x hx, by
  rw [h.tree.2.2] at hx
  obtain ⟨y, hy, rfl⟩ := List.mem_map.1 hx
  exact (h.fair y hy).2.2.2⟩⟩
theorem TrS.trim {S : St} {t : Tr} (h : TrS S t) : Trim t := ⟨Tri.canon_firm h.tree.1, h.tree.2.1, Tri.small_low h.ok.small⟩
theorem TrS.spots {S : St} {t : Tr} (h : TrS S t) (p : T) : (t.spots Nd.sumS p).length ≤ 100000 := by
  by_cases hn : t.isNil
  · rw [Tri.isNil_eq hn]; simp [Tri.Tr.spots]
  · have h1 := (Tri.spots_len Nd.sumS h.tree.1 hn p).1
    have h2 : t.items.length = S.length := by rw [h.tree.2.2]; simp [Tri.paths]
    have := h.few
    omega
theorem TrS.sealed {S : St} {t : Tr} {w : World} {v : Value} (h : TrS S t) (hp : PAt w (Fm.from 0) true t v) : Sealed w t v := ⟨hp, h.ok, h.within, h.spots⟩
theorem TrS.empty : TrS [] .nil := ⟨⟨trivial, trivial, rfl⟩, List.Pairwise.nil, fun x hx => (by cases hx), by simp⟩
theorem TrS.find {S : St} {t : Tr} (h : TrS S t) (k : T) : findT t (Nib.ofL k) = (Sto.look S k).getD [] := by
  unfold findT; rw [h.tree.get h.rise]
theorem TrS.look_ne {S : St} {t : Tr} (h : TrS S t) {k v : T} (hl : Sto.look S k = some v) : v ≠ [] := fun e => by
  have := (h.fair _ ((Sto.look_mem h.rise k v).1 hl)).2.2.1
  rw [e] at this; simp at this
theorem TrS.put {S : St} {t : Tr} (h : TrS S t) {k v : T} (hk : Tri.putC S k v = 0) : TrS (Tri.put S k v) (t.put (Nib.ofL k) v) := by
  unfold Tri.putC at hk
  split at hk
  · rename_i hkk
    split at hk
    · rename_i hv
      obtain ⟨v1, v2, v3⟩ := hv
      have hkk2 : 1 ≤ k.length ∧ k.length ≤ 8 := by simpa [Tri.keyed] using hkk
      refine ⟨h.tree.put (fun e => by subst e; simp at v1), Tri.put_rising h.rise _ _, fun x hx => ?_, ?_⟩
      · rcases Tri.put_mem hx with hx | rfl
        · exact h.fair x hx
        · exact ⟨hkk2.1, hkk2.2, v1, v2⟩
      · have hf := h.few
        rw [Tri.put_eq]
        have hp := Tri.pos_le S k
        rcases v3 with v3 | v3
        · rw [if_pos v3]
          have hp2 : Tri.pos S k < S.length := (Tri.look_pos h.rise k v3).1
          simp; omega
        · simp; omega
    · cases hk
  · cases hk
theorem TrS.del {S : St} {t : Tr} (h : TrS S t) {k : T} (hk : Sto.look S k ≠ none) : TrS (Tri.del S k) (t.del (Nib.ofL k)) := by
  refine ⟨h.tree.del h.rise hk, Tri.del_rising h.rise _, fun x hx => h.fair x (Tri.del_mem hx), ?_⟩
  have hf := h.few
  have ha : Tri.at_ S k = true := by rw [Tri.at_look h.rise]; cases hl : Sto.look S k with | none => exact absurd hl hk | some v => rfl
  rw [Tri.del_eq h.rise k ha]
  simp; omega
/-- A trie in block g. -/
def TRow (w : World) (g : Nat) (top : Value) (n : Nat) : Prop := w.heap[g]? = some (.cells #[top, .int .i64 n] 83 (0, 0))
theorem TRow.below {w w' : World} {g n : Nat} {top : Value} (h : TRow w g top n) (hb : Below w.heap.size w w') : TRow w' g top n := (hb.block g (lt_of_heap h)).trans h
theorem TRow.top {w : World} {g n : Nat} {top : Value} (h : TRow w g top n) : w.cell? ⟨g, 0, none⟩ = some top := by rw [cell_of_row _ _ _ _ _ _ h]; rfl
theorem TRow.num {w : World} {g n : Nat} {top : Value} (h : TRow w g top n) : w.cell? ⟨g, 1, none⟩ = some (.int .i64 n) := by rw [cell_of_row _ _ _ _ _ _ h]; rfl
/-- A trie whose parts may be without their sums. -/
def OpenAt (w : World) (F : Fm) (g : Nat) (S : St) : Prop := ∃ top t, TRow w g top S.length ∧ PAt w F false t top ∧ TrS S t
def TrAt (w : World) (g : Nat) (S : St) : Prop := ∃ top t, TRow w g top S.length ∧ PAt w (Fm.from 0) true t top ∧ TrS S t
theorem TrAt.below {w w' : World} {g : Nat} {S : St} (h : TrAt w g S) (hb : Below w.heap.size w w') : TrAt w' g S := by
  obtain ⟨top, t, h1, h2, h3⟩ := h
  exact ⟨top, t, h1.below hb, h2.below hb, h3⟩
theorem TrAt.open {w : World} {g : Nat} {S : St} (h : TrAt w g S) (B : Nat) : OpenAt w (Fm.from B) g S := by
  obtain ⟨top, t, h1, h2, h3⟩ := h
  exact ⟨top, t, h1, h2.sealed (fun _ _ e => by cases e) false, h3⟩
theorem OpenAt.below {w w' : World} {F : Fm} {g : Nat} {S : St} (h : OpenAt w F g S) (hb : Below w.heap.size w w') : OpenAt w' F g S := by
  obtain ⟨top, t, h1, h2, h3⟩ := h
  exact ⟨top, t, h1.below hb, h2.below hb, h3⟩
theorem TrAt.rise {w : World} {g : Nat} {S : St} (h : TrAt w g S) : Sto.Rising S := by
  obtain ⟨_, _, _, _, h3⟩ := h; exact h3.rise
theorem TrAt.few {w : World} {g : Nat} {S : St} (h : TrAt w g S) : S.length ≤ 1024 := by
  obtain ⟨_, _, _, _, h3⟩ := h; exact h3.few

set_option maxRecDepth 100000 in
theorem tnew_any (w : World) : Calls Tryz.prog 53 #[] w fun e w' => ∃ g, e = .returned (ptr g) ∧ TrAt w' g [] ∧ w.heap.size ≤ g ∧ Below w.heap.size w w' := by
  go_enter Tryz.func53, Tryz.ntmps53
  go_wp2
  go_ret
  exact ⟨w.heap.size, rfl, ⟨nilp, .nil, heap_alloc_new w _, PAt.nil _ _ _, TrS.empty⟩, Nat.le_refl _, (Below.refl _ w).alloc (Nat.le_refl _) _⟩
set_option maxRecDepth 100000 in
theorem iskey_any (x : T) (w : World) :
    Calls Tryz.prog 71 #[.string ⟨x.toArray⟩] w fun e w' => e = .returned (.bool (Tri.keyed x)) ∧ w = w' := by
  by_cases h0 : x = []
  · subst h0
    go_enter Tryz.func71, Tryz.ntmps71
    go_wp2
    go_ret
    exact ⟨rfl, rfl⟩
  · have h1 : (x == []) = false := by rw [beq_eq_false_iff_ne]; exact h0
    have h2 : 1 ≤ x.length := List.length_pos_iff.2 h0
    by_cases h8 : x.length ≤ 8
    · have h3 : (x.length : Int) ≤ 8 := by omega
      have e : Tri.keyed x = true := by simp [Tri.keyed, h2, h8]
      rw [e]
      clear e h2 h8 h0
      go_enter Tryz.func71, Tryz.ntmps71
      go_wp2
      go_ret
      exact ⟨rfl, rfl⟩
    · have h3 : ¬ ((x.length : Int) ≤ 8) := by omega
      have e : Tri.keyed x = false := by simp [Tri.keyed]; omega
      rw [e]
      clear e h2 h8 h0
      go_enter Tryz.func71, Tryz.ntmps71
      go_wp2
      go_ret
      exact ⟨rfl, rfl⟩
set_option maxRecDepth 100000 in
set_option maxHeartbeats 1000000 in
theorem tget_any {g : Nat} {S : St} (x : T) (w : World) (h : TrAt w g S) :
    Calls Tryz.prog 42 #[ptr g, .string ⟨x.toArray⟩] w fun e w' => e = .returned (.tuple #[.string ⟨(Tri.getC S x).1.toArray⟩, .int .i64 (Tri.getC S x).2]) ∧ Below w.heap.size w w' := by
  obtain ⟨top, t, h1, h2, h3⟩ := h
  have HK := Lib.hid (fun w => iskey_any x w)
  unfold ptr
  cases hk : Tri.keyed x with
  | false =>
    rw [Tri.getC_no hk]
    rw [hk] at HK
    clear h1 h2 h3 hk
    go_enter Tryz.func42, Tryz.ntmps42
    go_wp2_with fail
    refine (HK.out _).mono ?_
    rintro e w1 ⟨rfl, rfl⟩
    go_wp2
    go_ret2
    exact ⟨rfl, Below.refl _ _⟩
  | true =>
    rw [hk] at HK
    have hx8 : x.length ≤ 8 := by simp [Tri.keyed] at hk; omega
    have HOF := Lib.hid (fun w => of_any x w (by omega))
    have HFI : Hid (∀ w', Below w.heap.size w w' → Calls Tryz.prog 72 #[top, .string ⟨(Nib.ofL x).toArray⟩] w' fun e w'' => e = .returned (.string ⟨((Sto.look S x).getD []).toArray⟩) ∧ Below w'.heap.size w' w'') := Lib.hid (fun w' hb => by
      have := find_any (Nib.ofL x) w' (h2.below hb) h3.trim.firm (Tri.ofL_fit x) (by rw [Nib.ofL_length]; omega)
      rw [h3.find] at this
      exact this)
    have HT : Hid (∀ w', Below w.heap.size w w' → w'.cell? ⟨g, 0, none⟩ = some top) := Lib.hid (fun w' hb => (h1.below hb).top)
    obtain ⟨P, hP⟩ : ∃ P, Nib.ofL x = P := ⟨_, rfl⟩
    rw [hP] at HOF HFI
    cases hl : Sto.look S x with
    | none =>
      rw [Tri.getC_none hk hl]
      rw [hl, Option.getD_none] at HFI
      have BD : Below w.heap.size w w.drew := (Below.refl _ _).drew
      have c0 := HT.out _ BD
      clear h1 h2 h3 hk hl hP
      go_enter Tryz.func42, Tryz.ntmps42
      go_wp2_with fail
      refine (HK.out _).mono ?_
      rintro e w1 ⟨rfl, rfl⟩
      go_upto_region 3 with fail
      go_region_held3 (fun w' => w'.cell? ⟨g, 0, none⟩ = some top)
        ((first | (with_reducible assumption) | (refine HT.out _ ?_; with_reducible assumption)))
        (first | (go_at_call 73; refine (HOF.out _).mono ?_; rintro e w6 ⟨rfl, hb6⟩; have hb6' := bchain BD hb6) | (go_at_call 72; refine (HFI.out _ ?_).mono ?_; (with_reducible exact hb6'); rintro e w7 ⟨rfl, hb7⟩; have hb7' := bchain hb6' hb7))
      all_goals
        go_wp2
        go_ret2
        exact ⟨rfl, hb7'⟩
    | some y =>
      have hye : (y == []) = false := by rw [beq_eq_false_iff_ne]; exact h3.look_ne hl
      have hyl : y.length ≤ 32 := (h3.fair _ ((Sto.look_mem h3.rise x y).1 hl)).2.2.2
      have HCL := Lib.hid (fun w => dclone_any y w (by omega))
      rw [Tri.getC_some hk hl]
      rw [hl, Option.getD_some] at HFI
      have BD : Below w.heap.size w w.drew := (Below.refl _ _).drew
      have c0 := HT.out _ BD
      clear h1 h2 h3 hk hl hP hyl
      go_enter Tryz.func42, Tryz.ntmps42
      go_wp2_with fail
      refine (HK.out _).mono ?_
      rintro e w1 ⟨rfl, rfl⟩
      go_upto_region 3 with fail
      go_region_held3 (fun w' => w'.cell? ⟨g, 0, none⟩ = some top)
        ((first | (with_reducible assumption) | (refine HT.out _ ?_; with_reducible assumption)))
        (first | (go_at_call 73; refine (HOF.out _).mono ?_; rintro e w6 ⟨rfl, hb6⟩; have hb6' := bchain BD hb6) | (go_at_call 72; refine (HFI.out _ ?_).mono ?_; (with_reducible exact hb6'); rintro e w7 ⟨rfl, hb7⟩; have hb7' := bchain hb6' hb7))
      all_goals
        go_wp2_with fail
        refine (HCL.out _).mono ?_
        rintro e w8 ⟨rfl, hb8⟩
        go_wp2
        go_ret2
        exact ⟨rfl, bchain hb7' hb8⟩
end Go.Proofs.YtlckcfpdiigjiaaGreatDoor
