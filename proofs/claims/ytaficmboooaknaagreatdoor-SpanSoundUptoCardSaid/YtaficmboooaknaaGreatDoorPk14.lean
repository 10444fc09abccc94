/- TriWith, TriWithMore, TriWithout, TriTexts2, TriRefList, TriRefGet, TriRefPut -/
import Derived.Test.YtaficmboooaknaaGreatDoorPk12
import Derived.Test.YtaficmboooaknaaGreatDoorPk13
import Derived.Test.YtaficmboooaknaaGreatDoorPk11
import Derived.Test.YtaficmboooaknaaGreatDoorPk01
import Derived.Test.YtaficmboooaknaaGreatDoorPk02
import Derived.WalkSpells
import Derived.WalkLawsBesides
import Derived.Lib.Strings
import Derived.WalkKit
import Derived.Lib.Hide
namespace Go.Proofs.YtaficmboooaknaaGreatDoor
open Go.RowKit
open Sto (T)
open Tri (Tr Ok upd ix hb lay splitT Trim rank)

/-- What with is to answer, of trees of at most this rank. -/
def WithTo (m : Nat) : Prop := ∀ (t : Tr) (v : Value) (p x : T) (w : World) (F : Fm), rank t p ≤ m → F.fresh w → PAt w F false t v → Trim t → Nib.fitL p = true → p.length ≤ 16 →
  Calls Tryz.prog 99 #[v, .string ⟨p.toArray⟩, .string ⟨x.toArray⟩] w (MadeT w F (t.put p x))

set_option maxRecDepth 100000 in
theorem with_nil (p x : T) (w : World) (F : Fm) (hF : F.fresh w) :
    Calls Tryz.prog 99 #[.pointer none, .string ⟨p.toArray⟩, .string ⟨x.toArray⟩] w (MadeT w F (.leaf p x)) := by
  have HLF := Lib.hid (leaf_any p x w F hF)
  unfold MadeT at HLF ⊢
  go_enter Tryz.func99, Tryz.ntmps99
  go_wp2_with fail
  refine HLF.out.mono ?_
  rintro e w1 ⟨v, rfl, hp, hb⟩
  go_wp2
  go_ret
  exact ⟨v, rfl, hp, hb⟩
set_option maxRecDepth 100000 in
set_option maxHeartbeats 1000000 in
theorem with_here {y : T} {k : Fin 16 → Tr} {v : Value} (x : T) (w : World) (F : Fm) (hF : F.fresh w) (h : PAt w F false (.br y k) v) :
    Calls Tryz.prog 99 #[v, .string ⟨#[]⟩, .string ⟨x.toArray⟩] w (MadeT w F (.br x k)) := by
  obtain ⟨g, s', K, rfl, -, -, hr, hk⟩ := h.row id
  have HO := Lib.hid (open_any w hr (fun i => (hk i).oneCell))
  have n0 : w.cell? ⟨g, 0, none⟩ = some (.int .i64 3) := hr.kind
  have HK := Lib.hid hk
  unfold MadeT
  unfold ptr at HO ⊢
  clear h hr hk
  go_enter Tryz.func99, Tryz.ntmps99
  go_wp2_with fail
  refine HO.out.mono ?_
  rintro e w1 ⟨rfl, hr1, hb1⟩
  have m2 := hr1.val
  have f2 := hr1.free 2
  have HR1 := Lib.hid hr1
  have HB := Lib.hid hb1
  clear hr1 hb1
  go_wp2
  go_ret
  have hb2 := HB.out.setCell (p := ⟨w.heap.size, 2, none⟩) (Nat.le_refl _) (.string ⟨x.toArray⟩)
  exact ⟨_, rfl, PAt.new (K := K) id (hF _ (Nat.le_refl _)) (HR1.out.setVal x) (fun i => ((HK.out i).weak).below hb2), hb2⟩
set_option maxRecDepth 100000 in
set_option maxHeartbeats 2000000 in
theorem with_below {m : Nat} (IH : WithTo m) {y : T} {k : Fin 16 → Tr} {v : Value} (b : UInt8) (p x : T) (w : World) (F : Fm) (hm : 2 * p.length + 1 ≤ m) (hF : F.fresh w) (h : PAt w F false (.br y k) v) (hg : Trim (.br y k)) (hf : Nib.fitL (b :: p) = true) (hl : (b :: p).length ≤ 16) :
    Calls Tryz.prog 99 #[v, .string ⟨(b :: p).toArray⟩, .string ⟨x.toArray⟩] w (MadeT w F (.br y (upd k (ix b) ((k (ix b)).put p x)))) := by
  obtain ⟨g, s', K, rfl, -, -, hr, hk⟩ := h.row id
  have HO := Lib.hid (open_any w hr (fun i => (hk i).oneCell))
  have n0 : w.cell? ⟨g, 0, none⟩ = some (.int .i64 3) := hr.kind
  have HK := Lib.hid hk
  have HR := Lib.hid hr
  obtain ⟨hb1, hfp⟩ := Tri.fit_cons.1 hf
  have hix := ix_val hb1
  have hpl : p.length ≤ 16 := by simp at hl; omega
  have HI : Hid (∀ w', Below w.heap.size w w' → w.heap.size < w'.heap.size → Calls Tryz.prog 99 #[K (ix b), .string ⟨p.toArray⟩, .string ⟨x.toArray⟩] w' fun e w'' => ∃ g6, e = .returned (.pointer (some ⟨g6, 0, none⟩)) ∧ PAt w'' (F.off w.heap.size) false ((k (ix b)).put p x) (ptr g6) ∧ Below w'.heap.size w' w'') := Lib.hid (fun w' hb hs =>
    (IH (k (ix b)) (K (ix b)) p x w' _ (Nat.le_trans (Tri.rank_le _ _) hm) ((hF.size hb.size).off hs) (((hk (ix b)).weak.new_off (Nat.le_refl _)).below hb) (hg.br _) hfp hpl).mono fun e w'' ⟨v6, e6, hp6, hb6⟩ => by
      obtain ⟨g6, _, _, rfl, _⟩ := hp6.row (Tri.put_nn _ _ _)
      exact ⟨g6, e6, hp6, hb6⟩)
  have hbyte : ∀ hh, (⟨(b :: p).toArray⟩ : ByteArray)[0]'hh = b := byte_drop rfl
  have htail : (⟨(b :: p).toArray⟩ : ByteArray).extract 1 (b :: p).length = ⟨p.toArray⟩ := tail_drop (n := 0) rfl
  have hne : ((b :: p : List UInt8) == []) = false := rfl
  have z0 : (0 : Int) < ((b :: p).length : Int) := by rw [List.length_cons]; omega
  have z1 : (1 : Int) ≤ ((b :: p).length : Int) := by rw [List.length_cons]; omega
  have z6 : (0 : Int) ≤ (b.toNat : Int) := by omega
  have z7 : (b.toNat : Int) < 16 := by omega
  have HIX := Lib.hid hix
  obtain ⟨vk, hvk⟩ : ∃ vk, K (ix b) = vk := ⟨_, rfl⟩
  rw [hvk] at HI
  have HVK := Lib.hid hvk
  obtain ⟨P, hP⟩ : ∃ P, b :: p = P := ⟨_, rfl⟩
  rw [hP] at hbyte htail hne z0 z1 ⊢
  unfold MadeT
  unfold ptr at HO ⊢
  clear h hr hk hg hf hl hm hb1 hfp hix hpl IH hvk hP
  go_enter Tryz.func99, Tryz.ntmps99
  go_wp2_with fail
  refine HO.out.mono ?_
  rintro e w1 ⟨rfl, hr1, hb1⟩
  obtain ⟨q, hq⟩ : ∃ q, w.heap.size = q := ⟨_, rfl⟩
  have HSZ : Hid (q < w1.heap.size) := Lib.hid (by rw [← hq]; exact lt_of_heap hr1)
  have HGQ : Hid (g < q) := Lib.hid (by rw [← hq]; exact lt_of_heap HR.out)
  have HR1 := Lib.hid hr1
  have HB1 := Lib.hid hb1
  rw [hq] at HR1 HB1 HI ⊢
  have HQ := Lib.hid hq
  have HN1 : Hid (∀ w', Below w1.heap.size w1 w' → w'.cell? ⟨g, 3 + b.toNat, none⟩ = some vk ∧ w'.cell? ⟨q, 3 + b.toNat, none⟩ = some vk ∧ w'.frozen? ⟨q, 3 + b.toNat, none⟩ = false) := Lib.hid (fun w' hb => by
    have k1 := (HR.out.below (by rw [HQ.out]; exact HB1.out)).below hb
    have k2 := HR1.out.below hb
    have e1 := k1.kid (ix b)
    have e2 := k2.kid (ix b)
    rw [HIX.out, HVK.out] at e1 e2
    exact ⟨e1, e2, k2.free _⟩)
  have HK1 : Hid (∀ w' v, Below w1.heap.size w1 w' → (w'.setCell ⟨q, 3 + b.toNat, none⟩ v).cell? ⟨g, 3 + b.toNat, none⟩ = some vk) := Lib.hid (fun w' v hb => keep_cell (HN1.out w' hb).1 (Nat.ne_of_lt HGQ.out))
  have HI2 : Hid (∀ w', Below w1.heap.size w1 w' → Calls Tryz.prog 99 #[vk, .string ⟨p.toArray⟩, .string ⟨x.toArray⟩] w' fun e w'' => ∃ g6, e = .returned (.pointer (some ⟨g6, 0, none⟩)) ∧ PAt w'' (F.off q) false ((k (ix b)).put p x) (ptr g6) ∧ Below w1.heap.size w1 w'') := Lib.hid (fun w' hb => (HI.out w' (HB1.out.trans (hb.mono (Nat.le_of_lt HSZ.out))) (Nat.lt_of_lt_of_le HSZ.out hb.size)).mono fun e w'' ⟨g6, e6, hp6, hb6⟩ => ⟨g6, e6, hp6, hb.trans (hb6.mono hb.size)⟩)
  clear hr1 hb1 hq HI
  go_upto_region 7 with fail
  have BD : Below w1.heap.size w1 w1.drew := (Below.refl _ _).drew
  obtain ⟨c1, c2, c3⟩ := HN1.out _ BD
  go_region_held3 (fun w' => w'.cell? ⟨g, 3 + b.toNat, none⟩ = some vk)
    ((first | (with_reducible exact c1) | (with_reducible exact d1) | (refine HK1.out _ _ ?_; with_reducible assumption)))
    ((go_at_call 99; refine (HI2.out _ ?_).mono ?_; (with_reducible assumption); rintro e w6 ⟨g6, rfl, hp6, hb6⟩; obtain ⟨d1, d2, d3⟩ := HN1.out _ hb6))
  all_goals
    go_wp2
    go_ret
    have hbq : Below w.heap.size w w6 := by rw [HQ.out]; exact HB1.out.trans (hb6.mono (Nat.le_of_lt HSZ.out))
    refine ⟨_, rfl, PAt.new (K := updK K (ix b) (ptr g6)) id (hF _ (Nat.le_of_eq HQ.out)) ?_ (fun i => ?_), by rw [← HQ.out]; exact hbq.setCell (p := ⟨w.heap.size, _, none⟩) (Nat.le_refl _) _⟩
    · have := (HR1.out.below hb6).setKid (ix b) (ptr g6)
      rw [HIX.out] at this
      exact this
    · simp only [Tri.Tr.kid, updK, Tri.upd]
      split
      · exact hp6.off _ _
      · exact (((HK.out i).weak.new_off (Nat.le_of_eq HQ.out)).below hbq).off _ _
end Go.Proofs.YtaficmboooaknaaGreatDoor
namespace Go.Proofs.YtaficmboooaknaaGreatDoor
open Go.RowKit
open Sto (T)
open Tri (Tr Ok upd ix hb lay splitT Trim rank)

/-- Behind the split, if there is one. -/
theorem with_plan {t : Tr} {p : T} (hg : Trim t) (hk : t.kind = 1 ∨ t.kind = 2) (hp : Nib.fitL p = true) (hl : p.length ≤ 16) (x : T) :
    ∃ tb, tb = (if Tri.splits t p then splitT (Nib.commonL t.pth p) t else t.kid 0) ∧ t.put p x = lay (p.take (Nib.commonL t.pth p)) (tb.put (p.drop (Nib.commonL t.pth p)) x) ∧
      Trim tb ∧ rank tb (p.drop (Nib.commonL t.pth p)) ≤ 2 * p.length ∧ (tb.put (p.drop (Nib.commonL t.pth p)) x).pth.length ≤ 16 := by
  have hbr : ∀ u : Tr, u.isBr → rank u (p.drop (Nib.commonL t.pth p)) ≤ 2 * p.length ∧ (u.put (p.drop (Nib.commonL t.pth p)) x).pth.length ≤ 16 := fun u hu => by
    refine ⟨by rw [Tri.rank_br hu]; simp; omega, ?_⟩
    have := Tri.put_br hu (p.drop (Nib.commonL t.pth p)) x
    generalize u.put (p.drop (Nib.commonL t.pth p)) x = y at this ⊢
    cases y <;> simp_all [Tri.Tr.isBr, Tri.Tr.pth]
  refine ⟨_, rfl, ?_⟩
  cases t with
  | nil => rcases hk with h | h <;> cases h
  | br y k => rcases hk with h | h <;> cases h
  | leaf q y =>
    refine ⟨Tri.put_leaf_plan hg.fits hp, ?_⟩
    by_cases h : Tri.splits (.leaf q y) p = true
    · rw [if_pos h]
      exact ⟨hg.split, hbr _ (Tri.split_br _ _)⟩
    · rw [if_neg h]
      refine ⟨Tri.Trim.nil, by simp [Tri.Tr.kid, rank]; omega, ?_⟩
      simp only [Tri.Tr.kid, Tri.Tr.put, Tri.Tr.pth, List.length_drop]
      omega
  | ext q u =>
    refine ⟨Tri.put_ext_plan hg.firm.2.1 hg.firm.1 hg.fits.1 hp, ?_⟩
    by_cases h : Tri.splits (.ext q u) p = true
    · rw [if_pos h]
      exact ⟨hg.split, hbr _ (Tri.split_br _ _)⟩
    · rw [if_neg h]
      have e : (Tr.ext q u).kid 0 = u := by simp [Tri.Tr.kid]
      rw [e]
      exact ⟨hg.ext, hbr _ hg.firm.2.1⟩

theorem cut_drop (p : T) (c : Nat) : (⟨p.toArray⟩ : ByteArray).extract c p.length = ⟨(p.drop c).toArray⟩ := ext_drop p c
theorem cut_take (p : T) (c : Nat) : (⟨p.toArray⟩ : ByteArray).extract 0 c = ⟨(p.take c).toArray⟩ := by rw [Lib.extract_eq]; simp
set_option maxRecDepth 100000 in
set_option maxHeartbeats 2000000 in
theorem with_else {m : Nat} (IH : WithTo m) {t : Tr} {v : Value} (p x : T) (w : World) (F : Fm) (hk : t.kind = 1 ∨ t.kind = 2) (hm : 2 * p.length ≤ m) (hF : F.fresh w) (h : PAt w F false t v) (hg : Trim t) (hf : Nib.fitL p = true) (hl : p.length ≤ 16) :
    Calls Tryz.prog 99 #[v, .string ⟨p.toArray⟩, .string ⟨x.toArray⟩] w (MadeT w F (t.put p x)) := by
  have hnn : ¬ t.isNil := fun e => by rw [← Tri.kind_nil] at e; omega
  obtain ⟨tb, htb, hput, htr, hrk, hpb⟩ := with_plan hg hk hf hl x
  obtain ⟨g, s', K, rfl, -, -, hr, hkk⟩ := h.row hnn
  have hcl := Nib.commonL_le t.pth p
  have hqs : t.pth.length ≤ 16 := by
    have := hg.low
    cases t <;> simp_all [Tri.Tr.low, Tri.Tr.pth]
  have HCM := Lib.hid (fun w => common_any t.pth p w (by omega) (by omega))
  have n0 := hr.kind
  have n1 := hr.path
  have n3 := hr.kid 0
  have HR := Lib.hid hr
  have HH := Lib.hid h
  have HSP : Hid (Tri.splits t p = true → ∀ w', Below w.heap.size w w' → Calls Tryz.prog 139 #[ptr g, .int .i64 (Nib.commonL t.pth p)] w' (MadeT w' F (splitT (Nib.commonL t.pth p) t))) := Lib.hid (fun hs w' hb =>
    split_any _ w' F (hF.size hb.size) (h.below hb) hk hg.firm hg.fits (by omega) hcl.1 (fun h2 => by
      cases t with
      | ext q u => simpa [Tri.splits, Tri.Tr.pth] using hs
      | _ => cases h2))
  obtain ⟨c, hc⟩ : ∃ c, Nib.commonL t.pth p = c := ⟨_, rfl⟩
  rw [hc] at htb hput hrk hpb hcl HCM HSP
  obtain ⟨q, hq⟩ : ∃ q, t.pth = q := ⟨_, rfl⟩
  rw [hq] at hcl hqs HCM n1
  have HRB : Hid (∀ w' vb, Below w.heap.size w w' → PAt w' F false tb vb → Calls Tryz.prog 99 #[vb, .string ⟨(p.drop c).toArray⟩, .string ⟨x.toArray⟩] w' (MadeT w' F (tb.put (p.drop c) x))) := Lib.hid (fun w' vb hb hp =>
    IH tb vb (p.drop c) x w' F (Nat.le_trans hrk hm) (hF.size hb.size) hp htr (Tri.fit_drop _ hf) (by simp; omega))
  have HBH : Hid (∀ w' v6, Below w.heap.size w w' → PAt w' F false (tb.put (p.drop c) x) v6 → Calls Tryz.prog 140 #[v6, .string ⟨(p.take c).toArray⟩] w' (MadeT w' F (t.put p x))) := Lib.hid (fun w' v6 hb hp => by
    rw [hput]
    exact behind_any (p.take c) w' F (hF.size hb.size) hp (Or.inr (Tri.put_nn _ _ _)) (by simp; omega) (by omega))
  have htail := cut_drop p c
  have htake := cut_take p c
  have z0 : (0 : Int) ≤ (c : Int) := by omega
  have z1 : (c : Int) ≤ (p.length : Int) := by omega
  obtain ⟨P1, hP1⟩ : ∃ P1, p.drop c = P1 := ⟨_, rfl⟩
  obtain ⟨P2, hP2⟩ : ∃ P2, p.take c = P2 := ⟨_, rfl⟩
  rw [hP1] at htail HRB HBH
  rw [hP2] at htake HBH
  have hkd : (t.kind : Int) ≠ 3 := by omega
  have e3 : ((t.kind : Int) == 3) = false := by rw [beq_eq_false_iff_ne]; exact hkd
  obtain ⟨b1, hb1⟩ : ∃ b, decide ((c : Int) < (q.length : Int)) = b := ⟨_, rfl⟩
  obtain ⟨b2, hb2⟩ : ∃ b, ((t.kind : Int) == 1) = b := ⟨_, rfl⟩
  obtain ⟨b3, hb3⟩ : ∃ b, decide ((c : Int) < (p.length : Int)) = b := ⟨_, rfl⟩
  have hsp : Tri.splits t p = (b1 || (b2 && b3)) := by
    subst hb1 hb2 hb3
    cases t with
    | nil => exact absurd trivial hnn
    | br y k => rcases hk with h | h <;> cases h
    | leaf q' y =>
      obtain rfl : q' = q := hq
      have hc2 : Nib.commonL q' p = c := hc
      simp only [Tri.splits, hc2, Tri.Tr.kind]
      rw [Bool.eq_iff_iff]; simp
    | ext q' y =>
      obtain rfl : q' = q := hq
      have hc2 : Nib.commonL q' p = c := hc
      simp only [Tri.splits, hc2, Tri.Tr.kind]
      rw [Bool.eq_iff_iff]; simp
  obtain ⟨kd, hkd2⟩ : ∃ kd, t.kind = kd := ⟨_, rfl⟩
  rw [hkd2] at n0 e3 hb2
  have hvk : PAt w F false (t.kid 0) (K 0) := (hkk 0).weak
  obtain ⟨vk, hvk2⟩ : ∃ vk, K 0 = vk := ⟨_, rfl⟩
  rw [hvk2] at n3 hvk
  have HVK := Lib.hid hvk
  have HTB := Lib.hid htb
  have HG : Hid (∀ w', Below w.heap.size w w' → w'.cell? ⟨g, 0, none⟩ = some (.int .i64 kd) ∧ w'.cell? ⟨g, 1, none⟩ = some (.string ⟨q.toArray⟩) ∧ w'.cell? ⟨g, 3, none⟩ = some vk) := Lib.hid (fun w' hb => by
    have k1 := hr.below hb
    have k3 := k1.kid 0
    rw [hvk2] at k3
    exact ⟨by rw [k1.kind, hkd2], by rw [k1.path, hq], k3⟩)
  have HSB : Hid (Tri.splits t p = (b1 || (b2 && b3))) := Lib.hid hsp
  unfold MadeT at HRB HBH HSP ⊢
  unfold ptr at HSP ⊢
  obtain ⟨TP, hTP⟩ : ∃ TP, t.put p x = TP := ⟨_, rfl⟩
  rw [hTP] at HBH ⊢
  clear h hg hf hl hm hcl hqs hput htr hrk hpb hr hkk IH hP1 hP2 hkd hsp hkd2 hvk hvk2 htb hc hq hTP hnn
  have hb1n : decide (c < q.length) = b1 := by rw [← hb1, decide_eq_decide]; omega
  have hb3n : decide (c < p.length) = b3 := by rw [← hb3, decide_eq_decide]; omega
  have hb2n : (kd == 1) = b2 := by rw [← hb2, Bool.eq_iff_iff]; simp; omega
  have HEND : Hid (∀ w', Below w.heap.size w w' → Below w.heap.size w w'.drew ∧ ∀ vb, PAt w' F false tb vb → PAt w'.drew F false tb vb) := Lib.hid (fun w' hb => ⟨hb.drew, fun vb hp => hp.below (Below.refl _ _).drew⟩)
  have HSPW : Hid (∀ b, Tri.splits t p = b → (b = true → (if Tri.splits t p then splitT c t else t.kid 0) = splitT c t) ∧ (b = false → (if Tri.splits t p then splitT c t else t.kid 0) = t.kid 0)) := Lib.hid (fun b hb => by rw [hb]; exact ⟨fun e => by rw [e]; rfl, fun e => by rw [e]; rfl⟩)
  clear hk
  cases b1 with
  | true =>
    replace HSP := Lib.hid (HSP.out HSB.out)
    replace HTB : Hid (tb = splitT c t) := Lib.hid (HTB.out.trans ((HSPW.out _ HSB.out).1 rfl))
    clear HSB HSPW
    go_enter Tryz.func99, Tryz.ntmps99
    go_wp2_with fail
    refine (HCM.out _).mono ?_
    rintro e w1 ⟨rfl, hbw1⟩
    obtain ⟨m0, m1, m3⟩ := HG.out _ hbw1
    have HB1 := Lib.hid hbw1
    clear hbw1
    go_wp2_with fail
    refine (HSP.out _ HB1.out).mono ?_
    rintro e w2 ⟨vb, rfl, hpb, hbs⟩
    have HB2 := Lib.hid (bchain HB1.out hbs)
    have HPB : Hid (PAt w2 F false tb vb) := Lib.hid (by rw [HTB.out]; exact hpb)
    clear hpb hbs m0 m1 m3
    go_upto_region 13 with fail
    obtain ⟨BD, PD0⟩ := HEND.out _ HB2.out
    have PD := PD0 _ HPB.out
    clear PD0
    go_region_held3 (fun _ => True) (trivial)
      (first | (go_at_call 99; refine (HRB.out _ vb ?_ ?_).mono ?_; (with_reducible exact BD); (with_reducible exact PD); rintro e w6 ⟨v6, rfl, hp6, hb6⟩; have hb6' := bchain BD hb6) | (go_at_call 140; refine (HBH.out _ v6 ?_ ?_).mono ?_; (with_reducible exact hb6'); (with_reducible exact hp6); rintro e w7 ⟨v7, rfl, hp7, hb7⟩; have hb7' := bchain hb6' hb7))
    all_goals
      go_wp2
      go_ret
      exact ⟨v7, rfl, hp7, hb7'⟩
  | false =>
    cases b2 with
    | false =>
      replace HTB : Hid (tb = t.kid 0) := Lib.hid (HTB.out.trans ((HSPW.out _ HSB.out).2 rfl))
      clear HSB HSPW HSP
      go_enter Tryz.func99, Tryz.ntmps99
      go_wp2_with fail
      refine (HCM.out _).mono ?_
      rintro e w1 ⟨rfl, hbw1⟩
      obtain ⟨m0, m1, m3⟩ := HG.out _ hbw1
      have HB1 := Lib.hid hbw1
      clear hbw1
      obtain ⟨vb, hvb⟩ : ∃ vb, vk = vb := ⟨_, rfl⟩
      rw [hvb] at m3
      have HPB : Hid (PAt w1 F false tb vb) := Lib.hid (by rw [HTB.out, ← hvb]; exact HVK.out.below HB1.out)
      clear hvb
      go_upto_region 13 with fail
      obtain ⟨BD, PD0⟩ := HEND.out _ HB1.out
      have PD := PD0 _ HPB.out
      clear PD0 m0 m1 m3
      go_region_held3 (fun _ => True) (trivial)
        (first | (go_at_call 99; refine (HRB.out _ vb ?_ ?_).mono ?_; (with_reducible exact BD); (with_reducible exact PD); rintro e w6 ⟨v6, rfl, hp6, hb6⟩; have hb6' := bchain BD hb6) | (go_at_call 140; refine (HBH.out _ v6 ?_ ?_).mono ?_; (with_reducible exact hb6'); (with_reducible exact hp6); rintro e w7 ⟨v7, rfl, hp7, hb7⟩; have hb7' := bchain hb6' hb7))
      all_goals
        go_wp2
        go_ret
        exact ⟨v7, rfl, hp7, hb7'⟩
    | true =>
      cases b3 with
      | false =>
        replace HTB : Hid (tb = t.kid 0) := Lib.hid (HTB.out.trans ((HSPW.out _ HSB.out).2 rfl))
        clear HSB HSPW HSP
        go_enter Tryz.func99, Tryz.ntmps99
        go_wp2_with fail
        refine (HCM.out _).mono ?_
        rintro e w1 ⟨rfl, hbw1⟩
        obtain ⟨m0, m1, m3⟩ := HG.out _ hbw1
        have HB1 := Lib.hid hbw1
        clear hbw1
        obtain ⟨vb, hvb⟩ : ∃ vb, vk = vb := ⟨_, rfl⟩
        rw [hvb] at m3
        have HPB : Hid (PAt w1 F false tb vb) := Lib.hid (by rw [HTB.out, ← hvb]; exact HVK.out.below HB1.out)
        clear hvb
        go_upto_region 13 with fail
        obtain ⟨BD, PD0⟩ := HEND.out _ HB1.out
        have PD := PD0 _ HPB.out
        clear PD0 m0 m1 m3
        go_region_held3 (fun _ => True) (trivial)
          (first | (go_at_call 99; refine (HRB.out _ vb ?_ ?_).mono ?_; (with_reducible exact BD); (with_reducible exact PD); rintro e w6 ⟨v6, rfl, hp6, hb6⟩; have hb6' := bchain BD hb6) | (go_at_call 140; refine (HBH.out _ v6 ?_ ?_).mono ?_; (with_reducible exact hb6'); (with_reducible exact hp6); rintro e w7 ⟨v7, rfl, hp7, hb7⟩; have hb7' := bchain hb6' hb7))
        all_goals
          go_wp2
          go_ret
          exact ⟨v7, rfl, hp7, hb7'⟩
      | true =>
        replace HSP := Lib.hid (HSP.out HSB.out)
        replace HTB : Hid (tb = splitT c t) := Lib.hid (HTB.out.trans ((HSPW.out _ HSB.out).1 rfl))
        clear HSB HSPW
        go_enter Tryz.func99, Tryz.ntmps99
        go_wp2_with fail
        refine (HCM.out _).mono ?_
        rintro e w1 ⟨rfl, hbw1⟩
        obtain ⟨m0, m1, m3⟩ := HG.out _ hbw1
        have HB1 := Lib.hid hbw1
        clear hbw1
        go_wp2_with fail
        refine (HSP.out _ HB1.out).mono ?_
        rintro e w2 ⟨vb, rfl, hpb, hbs⟩
        have HB2 := Lib.hid (bchain HB1.out hbs)
        have HPB : Hid (PAt w2 F false tb vb) := Lib.hid (by rw [HTB.out]; exact hpb)
        clear hpb hbs m0 m1 m3
        go_upto_region 13 with fail
        obtain ⟨BD, PD0⟩ := HEND.out _ HB2.out
        have PD := PD0 _ HPB.out
        clear PD0
        go_region_held3 (fun _ => True) (trivial)
          (first | (go_at_call 99; refine (HRB.out _ vb ?_ ?_).mono ?_; (with_reducible exact BD); (with_reducible exact PD); rintro e w6 ⟨v6, rfl, hp6, hb6⟩; have hb6' := bchain BD hb6) | (go_at_call 140; refine (HBH.out _ v6 ?_ ?_).mono ?_; (with_reducible exact hb6'); (with_reducible exact hp6); rintro e w7 ⟨v7, rfl, hp7, hb7⟩; have hb7' := bchain hb6' hb7))
        all_goals
          go_wp2
          go_ret
          exact ⟨v7, rfl, hp7, hb7'⟩
/-- with, of any tree. -/
theorem with_to (m : Nat) : WithTo m := by
  induction m using Nat.strongRecOn with
  | ind m IH =>
    intro t v p x w F hr hF h hg hf hl
    cases t with
    | nil =>
      have e : v = .pointer none := h
      subst e
      exact with_nil p x w F hF
    | leaf q y =>
      have hm : 2 * p.length + 1 ≤ m := hr
      exact with_else (IH (m - 1) (by omega)) p x w F (Or.inl rfl) (by omega) hF h hg hf hl
    | ext q u =>
      have hm : 2 * p.length + 1 ≤ m := hr
      exact with_else (IH (m - 1) (by omega)) p x w F (Or.inr rfl) (by omega) hF h hg hf hl
    | br y k =>
      cases p with
      | nil => exact with_here x w F hF h
      | cons b p =>
        have hm : 2 * (b :: p).length ≤ m := hr
        rw [List.length_cons] at hm
        exact with_below (IH (m - 1) (by omega)) b p x w F (by omega) hF h hg hf hl
theorem with_any {t : Tr} {v : Value} (p x : T) (w : World) (F : Fm) (hF : F.fresh w) (h : PAt w F false t v) (hg : Trim t) (hf : Nib.fitL p = true) (hl : p.length ≤ 16) :
    Calls Tryz.prog 99 #[v, .string ⟨p.toArray⟩, .string ⟨x.toArray⟩] w (MadeT w F (t.put p x)) := with_to _ t v p x w F (Nat.le_refl _) hF h hg hf hl
end Go.Proofs.YtaficmboooaknaaGreatDoor
namespace Go.Proofs.YtaficmboooaknaaGreatDoor
open Go.RowKit
open Sto (T)
open Tri (Tr Ok upd ix hb lay splitT Trim rank)

def within (t : Tr) : Prop := ∀ x ∈ t.items, x.1.length ≤ 16
end Go.Proofs.YtaficmboooaknaaGreatDoor
namespace Go.Proofs.YtaficmboooaknaaGreatDoor
open Go.RowKit
open Sto (T)
open Tri (Tr Ok upd ix hb lay splitT Trim rank)
open Go.Proofs.YtaficmboooaknaaGreatDoor.Nd (N)

/-- A tree as a trie may have it, sealed. -/
structure Sealed (w : World) (t : Tr) (v : Value) : Prop where
  at_ : PAt w (Fm.from 0) true t v
  ok : Ok t
  within : within t
  few : ∀ p, (t.spots Nd.sumS p).length ≤ 100000
theorem Sealed.below {w w' : World} {t : Tr} {v : Value} (h : Sealed w t v) (hb : Below w.heap.size w w') : Sealed w' t v := ⟨h.at_.below hb, h.ok, h.within, h.few⟩
theorem visits_le (want : T → Bool) (t : Tr) (p : T) : (t.visits want p).length ≤ (t.spots Nd.sumS p).length := by
  induction t generalizing p with
  | nil => exact Nat.le_refl _
  | leaf q v => exact Nat.le_refl _
  | ext q t ih =>
    rw [Tri.Tr.visits, Tri.Tr.spots, List.length_cons, List.length_cons]
    split
    · exact Nat.succ_le_succ (ih _)
    · simp
  | br v k ih =>
    rw [Tri.Tr.visits, Tri.Tr.spots, List.length_cons, List.length_cons]
    split
    · refine Nat.succ_le_succ ?_
      have : ∀ l : List (Fin 16), (l.flatMap fun i => (k i).visits want (p ++ [hb i])).length ≤ (l.flatMap fun i => (k i).spots Nd.sumS (p ++ [hb i])).length := fun l => by
        induction l with
        | nil => exact Nat.le_refl _
        | cons i l ihl =>
          rw [List.flatMap_cons, List.flatMap_cons, List.length_append, List.length_append]
          exact Nat.add_le_add (ih i _) ihl
      exact this _
    · simp
set_option maxRecDepth 100000 in
theorem texts_visits {w : World} {id : Nat} {wc : Array Value} {want : T → Bool} (hW : Wants w id wc want) :
    Visits w (Fm.from 0) 86 #[.pointer (some ⟨w.heap.size, 0, none⟩), .pointer (some ⟨w.heap.size + 1, 0, none⟩)] want (fun w' L => TextsI (w.heap.size + 2) (w.heap.size + 1) w.heap.size (.func (.func id) #[] wc) want w' L ∧ w.heap.size + 2 ≤ w'.heap.size) where
  call := fun _ _ => rfl
  keep := fun w' w'' L ⟨⟨z, h1, h2, h3⟩, h4⟩ hb => ⟨⟨z, (hb.block _ (lt_of_heap h1)).trans h1, (hb.block _ (lt_of_heap h2)).trans h2, h3.below hb⟩, Nat.le_trans h4 hb.size⟩
  step := fun w' L p t v hlen hb hI h hn ho hf hl => by
    have := texts_step hW (F := Fm.from 0) (w.heap.size + 2) (w.heap.size + 1) w.heap.size ⟨by omega, by omega, by omega⟩ (by omega) w' L p t v hlen hb hI.2 hI.1 h hn ho hf (by
      have := pth_len ho hn hl; omega)
    refine this.mono fun e w'' ⟨h1, h2, h3⟩ => ⟨h1, ⟨h2, ?_⟩, h3⟩
    obtain ⟨z, q1, _⟩ := h2
    have := lt_of_heap q1
    omega
def TextsPost (w : World) (L : List T) (e : Ending) (w' : World) : Prop := ∃ z, e = .returned z ∧ Own w' w.heap.size z L ∧ Below w.heap.size w w'
set_option maxRecDepth 100000 in
set_option maxHeartbeats 2000000 in
theorem texts_any {g : Nat} {t : Tr} {top n : Value} {id : Nat} {wc : Array Value} {want : T → Bool} (w : World) (hg : w.heap[g]? = some (.cells #[top, n] 84 (0, 0))) (hs : Sealed w t top) (hW : Wants w id wc want) (hd : Down want) :
    Calls Tryz.prog 51 #[ptr g, .func (.func id) #[] wc] w (TextsPost w (wantedT want t)) := by
  unfold TextsPost
  have hmf : ∀ (fn : Fn) (first cap : Array Value) (w : World), (Instr.makeFunc fn first cap).run Tryz.prog w = .ok (.func fn first cap) w := fun _ _ _ _ => rfl
  have hb1 : Below w.heap.size w ((w.alloc (.cells #[.func (.func id) #[] wc] 91)).alloc (.cells #[.slice none 0 0] 29)) := ((Below.refl _ w).alloc (Nat.le_refl _) _).alloc (by simp) _
  have c0 : ((w.alloc (.cells #[.func (.func id) #[] wc] 91)).alloc (.cells #[.slice none 0 0] 29)).cell? ⟨g, 0, none⟩ = some top := by
    rw [cell_of_row _ g 0 _ _ _ ((hb1.block g (lt_of_heap hg)).trans hg)]; rfl
  have hI0 : TextsI (w.heap.size + 2) (w.heap.size + 1) w.heap.size (.func (.func id) #[] wc) want ((w.alloc (.cells #[.func (.func id) #[] wc] 91)).alloc (.cells #[.slice none 0 0] 29)) [] :=
    ⟨_, heap_new_at _ _ _ (by simp), heap_old_at _ (heap_alloc_new w _), Own.nil _ _⟩
  have HWK := Lib.hid (walk_to (texts_visits hW) t _ [] [] top (by
    have := visits_le want t []
    have := hs.few []
    simp; omega) hb1 ⟨hI0, by simp⟩ hs.at_ hs.ok rfl (fun x hx => by
      have := hs.within x hx
      simpa using this))
  have HWT := Lib.hid (wanted_texts hd t)
  rw [List.nil_append] at HWK
  unfold ptr
  clear hg hs hW hd hb1 hI0
  go_enter Tryz.func51, Tryz.ntmps51
  go_wp2_with fail
  refine HWK.out.mono ?_
  rintro e w2 ⟨rfl, ⟨⟨z, h1, h2, h3⟩, h4⟩, hb2⟩
  have m1 := cell_of_one h1
  have HO : Hid (Own w2 w.heap.size z (wantedT want t)) := Lib.hid (by rw [← HWT.out]; exact own_lowS h3 (by omega))
  have HB := Lib.hid hb2
  clear h1 h2 h3 h4 hb2
  go_wp2
  go_ret
  exact ⟨z, rfl, HO.out, HB.out⟩
end Go.Proofs.YtaficmboooaknaaGreatDoor
namespace Go.Proofs.YtaficmboooaknaaGreatDoor
open Go.RowKit
open Go.Proofs.YtaficmboooaknaaGreatDoor.Sto (St)

def itcl (p : List UInt8 × List UInt8) : List Value := [.string ⟨p.1.toArray⟩, .string ⟨p.2.toArray⟩]
theorem itcl_length (p : List UInt8 × List UInt8) : (itcl p).length = 2 := rfl
theorem itcl_one (p : List UInt8 × List UInt8) : ∀ u ∈ itcl p, u.oneCell' = true := by
  intro u hu
  simp [itcl] at hu
  rcases hu with rfl | rfl <;> rfl
set_option maxRecDepth 100000 in
theorem Tryz.infoItem : (Tryz.prog.info? 60).map (fun i => (i.zero, i.size, i.bytes)) = some (some (.agg #[.string ⟨#[]⟩, .string ⟨#[]⟩]), 2, 32) := by kernel_rfl
/-- A slice that has these items. -/
def ItAt (w : World) (v : Value) (L : St) : Prop := RowsAt 60 2 itcl w v L
theorem ItAt.at {w : World} {A : Option Addr} {n cap : Nat} {S : St} (h : ItAt w (.slice A n cap) S) (k : Nat) (hk : k < S.length) :
    ∃ b o, A = some ⟨b, o, none⟩ ∧ w.cell? ⟨b, o + k * 2, none⟩ = some (.string ⟨(S[k].1).toArray⟩) ∧ w.cell? ⟨b, o + k * 2 + 1, none⟩ = some (.string ⟨(S[k].2).toArray⟩) := by
  obtain ⟨b, o, rfl, h1⟩ := RowsAt.at h k hk
  exact ⟨b, o, rfl, h1 0 _ rfl, h1 1 _ rfl⟩
/-- Items in a block of any type. -/
def ItIn (w : World) (v : Value) (L : St) : Prop := RowsIn 2 itcl w v L
theorem ItAt.inn {w : World} {v : Value} {L : St} (h : ItAt w v L) : ItIn w v L := RowsAt.inn h
theorem ItIn.at {w : World} {A : Option Addr} {n cap : Nat} {S : St} (h : ItIn w (.slice A n cap) S) (k : Nat) (hk : k < S.length) :
    ∃ b o, A = some ⟨b, o, none⟩ ∧ w.cell? ⟨b, o + k * 2, none⟩ = some (.string ⟨(S[k].1).toArray⟩) ∧ w.cell? ⟨b, o + k * 2 + 1, none⟩ = some (.string ⟨(S[k].2).toArray⟩) := by
  obtain ⟨b, o, rfl, h1⟩ := RowsIn.at h k hk
  exact ⟨b, o, rfl, h1 0 _ rfl, h1 1 _ rfl⟩
theorem Tri.pos_at {S : St} {x : List UInt8} {i : Nat} (hi : i ≤ S.length) (hlo : ∀ (j : Nat) (_ : j < i) (h : j < S.length), S[j].1 < x) (hhi : ∀ h : i < S.length, ¬ S[i].1 < x) : Tri.pos S x = i ∧ Tri.at_ S x = (S[i]?.map (·.1) == some x) := by
  have e := Tri.pos_of S x i hi (fun j h => hlo j h (by omega)) hhi
  exact ⟨e, by rw [Tri.at_, e]⟩
def RAtIs (S : St) (x : List UInt8) (w : World) (e : Ending) (w' : World) : Prop :=
  e = .returned (.tuple #[.int .i64 (Tri.pos S x), .bool (Tri.at_ S x)]) ∧ ∃ q, w' = w.drewN q
set_option maxRecDepth 8000 in
set_option maxHeartbeats 1000000 in
theorem rtAt_any (S : St) (v : Value) (x : List UInt8) (w : World) (hv : ItAt w v S) (hl : S.length ≤ 10000) :
    Calls Tryz.prog 63 #[v, .string ⟨x.toArray⟩] w (RAtIs S x w) := by
  have HV := Lib.hid hv
  obtain ⟨A, cap, rfl, -, -⟩ := hv.form
  clear hv
  go_enter Tryz.func63, Tryz.ntmps63
  go_wp2
  go_loop [6] (fun iv => ∃ k : Nat, k ≤ S.length ∧ iv = .int .i64 k ∧ ∀ (j : Nat) (hj : j < k) (hj' : j < S.length), S[j].1 < x) (fun i => S.length - (intOf i).toNat)
  case atStart => exact ⟨0, Nat.zero_le _, rfl, fun j hj => absurd hj (Nat.not_lt_zero j)⟩
  case round =>
    obtain ⟨k, hk, rfl, hall⟩ := hrel
    have HA := Lib.hid hall
    clear hall
    by_cases hlt : k < S.length
    · have h1 : (k : Int) < (S.length : Int) := by omega
      have h0 : (0 : Int) ≤ (k : Int) := by omega
      have hnb : (k : Int) ≤ 100000 := by omega
      obtain ⟨b, o, rfl, n0, n1⟩ := HV.out.at k hlt
      obtain ⟨y, hy⟩ : ∃ y, S[k].1 = y := ⟨_, rfl⟩
      have HY := Lib.hid hy
      rw [hy] at n0
      by_cases hyx : y < x
      · have e1 : Op.bytesLess y x = true := by rw [less_lt]; simpa using hyx
        have HYX := Lib.hid hyx
        clear n1 hy hyx
        go_wp2
        refine ⟨⟨k + 1, by omega, by go_num, ?_⟩, by simp [intOf]; omega⟩
        intro j hj hj'
        by_cases e : j < k
        · exact HA.out j e hj'
        · obtain rfl : j = k := by omega
          rw [HY.out]; exact HYX.out
      · have e1 : Op.bytesLess y x = false := by rw [less_lt]; simpa using hyx
        obtain ⟨c, hc⟩ : ∃ c, (y == x) = c := ⟨_, rfl⟩
        have HC : Hid (Tri.pos S x = k ∧ Tri.at_ S x = c) := Lib.hid (by
          obtain ⟨g1, g2⟩ := Tri.pos_at (x := x) hk (fun j hj hj' => HA.out j hj hj') (fun _ => by rw [hy]; exact hyx)
          refine ⟨g1, ?_⟩
          rw [g2, List.getElem?_eq_getElem hlt, ← hc, Option.map_some, hy]; rfl)
        have m2 : w.drew.cell? ⟨b, o + k * 2, none⟩ = some (.string ⟨y.toArray⟩) := n0
        clear n1 hy hyx
        go_wp2
        go_region
        all_goals
          go_wp2
          go_ret2
          exact ⟨by rw [HC.out.1, HC.out.2]; rfl, _, rfl⟩
    · obtain rfl : k = S.length := by omega
      have h1 : ¬ ((S.length : Int) < (S.length : Int)) := by omega
      have HC : Hid (Tri.pos S x = S.length ∧ Tri.at_ S x = false) := Lib.hid (by
        obtain ⟨g1, g2⟩ := Tri.pos_at (x := x) (Nat.le_refl _) (fun j hj hj' => HA.out j hj hj') (fun h => absurd h (by omega))
        refine ⟨g1, ?_⟩
        rw [g2, List.getElem?_eq_none (Nat.le_refl _)]; rfl)
      go_wp2
      go_ret2
      exact ⟨by rw [HC.out.1, HC.out.2]; rfl, 0, rfl⟩
end Go.Proofs.YtaficmboooaknaaGreatDoor
namespace Go.Proofs.YtaficmboooaknaaGreatDoor
open Go.RowKit
open Go.Proofs.YtaficmboooaknaaGreatDoor.Sto (St)

def Tri.keyed (x : List UInt8) : Bool := decide (1 ≤ x.length) && decide (x.length ≤ 8)
set_option maxRecDepth 8000 in
theorem rKeyed_all (x : List UInt8) (w : World) :
    Calls Tryz.prog 62 #[.string ⟨x.toArray⟩] w fun e w' => e = .returned (.bool (Tri.keyed x)) ∧ w = w' := by
  unfold Tri.keyed
  go_enter Tryz.func62, Tryz.ntmps62
  by_cases h1 : 1 ≤ x.length
  · have g1 : ((x.length : Int) ≥ 1) := by omega
    by_cases h2 : x.length ≤ 8
    · have g2 : ((x.length : Int) ≤ 8) := by omega
      go_wp2
      go_ret
      exact ⟨by simp [h1, h2], rfl⟩
    · have g2 : ¬ ((x.length : Int) ≤ 8) := by omega
      go_wp2
      go_ret
      exact ⟨by simp, rfl⟩
  · have g1 : ¬ ((x.length : Int) ≥ 1) := by omega
    go_wp2
    go_ret
    exact ⟨by simp, rfl⟩
/-- What Get tells: the value, or what is wrong. -/
def Tri.getC (S : St) (x : List UInt8) : List UInt8 × Nat := if Tri.keyed x then (match Sto.look S x with | some v => (v, 0) | none => ([], 5)) else ([], 1)
theorem Tri.getC_none {S : St} {x : List UInt8} (h : Tri.keyed x = true) (h2 : Sto.look S x = none) : Tri.getC S x = ([], 5) := by simp [Tri.getC, h, h2]
theorem Tri.getC_some {S : St} {x y : List UInt8} (h : Tri.keyed x = true) (h2 : Sto.look S x = some y) : Tri.getC S x = (y, 0) := by simp [Tri.getC, h, h2]
end Go.Proofs.YtaficmboooaknaaGreatDoor
namespace Go.Proofs.YtaficmboooaknaaGreatDoor
open Go.RowKit
open Go.Proofs.YtaficmboooaknaaGreatDoor.Sto (St)

/-- What Put refuses. -/
def Tri.putC (S : St) (x y : List UInt8) : Nat := if Tri.keyed x then (if 1 ≤ y.length ∧ y.length ≤ 32 ∧ (Tri.at_ S x = true ∨ S.length < 1024) then 0 else 2) else 1
def Tri.putL (S : St) (x y : List UInt8) : St := if Tri.putC S x y = 0 then Tri.put S x y else []
theorem Tri.putC_no {S : St} {x y : List UInt8} (h : Tri.keyed x = false) : Tri.putC S x y = 1 := by simp [Tri.putC, h]
theorem Tri.putC_bad {S : St} {x y : List UInt8} (h : Tri.keyed x = true) (h2 : ¬ (1 ≤ y.length ∧ y.length ≤ 32 ∧ (Tri.at_ S x = true ∨ S.length < 1024))) : Tri.putC S x y = 2 := by rw [Tri.putC, if_pos h, if_neg h2]
theorem Tri.putC_ok {S : St} {x y : List UInt8} (h : Tri.keyed x = true) (h2 : 1 ≤ y.length ∧ y.length ≤ 32 ∧ (Tri.at_ S x = true ∨ S.length < 1024)) : Tri.putC S x y = 0 := by rw [Tri.putC, if_pos h, if_pos h2]
def RtPutPost (S : St) (x y : List UInt8) (w : World) (e : Ending) (w' : World) : Prop :=
  ∃ v', e = .returned (.tuple #[v', .int .i64 (Tri.putC S x y)]) ∧ ItAt w' v' (Tri.putL S x y) ∧ Below w.heap.size w w'
theorem RtPutPost.bad {S : St} {x y : List UInt8} {w w' : World} {c : Nat} (h : Tri.putC S x y = c) (hc : c ≠ 0) (hb : Below w.heap.size w w') : RtPutPost S x y w (.returned (.tuple #[.slice none 0 0, .int .i64 c])) w' := by
  subst h
  exact ⟨_, rfl, by rw [Tri.putL, if_neg hc]; exact RowsAt.nil .., hb⟩
theorem RtPutPost.good {S T R : St} {x y : List UInt8} {w w' : World} {v' : Value} (h : Tri.putC S x y = 0) (hp : Tri.put S x y = T ++ (x, y) :: R) (hv : ItAt w' v' (T ++ (x, y) :: R)) (hb : Below w.heap.size w w') : RtPutPost S x y w (.returned (.tuple #[v', .int .i64 0])) w' := by
  refine ⟨v', by rw [h]; rfl, ?_, hb⟩
  rw [Tri.putL, if_pos h, hp]; exact hv
/-- All of a slice of items behind a row of the call's own. -/
theorem append_it {w : World} {v s : Value} {S : St} {B n : Nat} {xs : List Value} (hv : ItAt w v S) (hs : w.ownsRow B 60 2 s n xs) (hl : n + S.length ≤ 1000000) (hB : B ≤ w.heap.size) :
    ∃ v' w', (Builtin.append_ #[22, 22] 22 #[s, v]).run Tryz.prog w = .ok v' w' ∧ w'.ownsRow B 60 2 v' (n + S.length) (xs ++ rowsL itcl S) ∧ w.grownBy w' s.ownBlock ∧ (v'.ownBlock = s.ownBlock ∨ v'.ownBlock = some w.heap.size) := by
  obtain ⟨i0, hi, hz0, hz1, hz2⟩ := info_parts Tryz.infoItem
  exact append_rows 22 60 i0 _ 32 Tryz.underlying22 Tryz.sizeOf60 hi hz0 hz1 hz2 rfl (by decide) (by decide) itcl_length itcl_one hv hs hl hB
/-- The third append: what was there behind the new one. -/
theorem it_third {w w1 w2 : World} {v1 l2 : Value} {T R : St} {one : List UInt8 × List UInt8} {g' cap' B : Nat} {o : Obj} (hB : B ≤ w.heap.size) (hb : Below w.heap.size w w1) (hB1 : ∀ k, v1.ownBlock = some k → w.heap.size ≤ k)
    (h2 : w2.ownsRow B 60 2 (.slice (some ⟨g', 0, none⟩) (T.length + 1) cap') (T.length + 1) (rowsL itcl T ++ rowsL itcl [one])) (hg : (w1.alloc o).grownBy w2 v1.ownBlock) (hg' : w.heap.size ≤ g') (hs : ItAt w l2 R) (hl : T.length + 1 + R.length ≤ 1000000) :
    ∃ v3 w3, (Builtin.append_ #[22, 22] 22 #[.slice (some ⟨g', 0, none⟩) (T.length + 1) cap', l2]).run Tryz.prog w2 = .ok v3 w3 ∧ ItAt w3 v3 (T ++ one :: R) ∧ Below w.heap.size w w3 := by
  have hb1 := hb.alloc hb.size o
  have hb2 : Below w.heap.size w w2 := hb1.trans ((Out.grown hg (F := fun j => v1.ownBlock = some j) (fun j e => e)).below (fun j hj => hB1 j hj) hb1.size)
  obtain ⟨v3, w3, hrun, hown, hgr, _⟩ := append_it (RowsAt.below hs hb2) h2 hl (Nat.le_trans hB hb2.size)
  refine ⟨v3, w3, hrun, ?_, hb2.trans ((Out.grown hgr (F := fun j => j = g') (fun j e => by simp [Value.ownBlock] at e; exact e.symm)).below (fun j hj => hj ▸ hg') hb2.size)⟩
  have e1 : rowsL itcl (T ++ one :: R) = rowsL itcl T ++ rowsL itcl [one] ++ rowsL itcl R := by
    rw [show T ++ one :: R = (T ++ [one]) ++ R by simp, rowsL_append, rowsL_append]
  have e2 : (T ++ one :: R).length = T.length + 1 + R.length := by simp; omega
  refine RowsAt.own (B := B) itcl_length ?_
  rw [e1, e2]
  exact hown
theorem bel_drewI {B : Nat} {a w w' : World} (h : Below B a w) (hq : ∃ q, w' = w.drewN q) : Below B a w' := by
  obtain ⟨q, rfl⟩ := hq
  exact bel_drewN h q
set_option maxRecDepth 8000 in
set_option maxHeartbeats 2000000 in
theorem rtPut_all (S : St) (v : Value) (x y : List UInt8) (w : World) (hv : ItAt w v S) (hl : S.length ≤ 10000) :
    Calls Tryz.prog 33 #[v, .string ⟨x.toArray⟩, .string ⟨y.toArray⟩] w (RtPutPost S x y w) := by
  have HK := Lib.hid (fun w => rKeyed_all x w)
  have HV := Lib.hid hv
  have HL := Lib.hid hl
  have HA := Lib.hid (rtAt_any S v x w hv hl)
  have HPE := Lib.hid (Tri.put_eq S x y)
  obtain ⟨A, cap, rfl, hcap, hcs⟩ := hv.form
  have HCS := Lib.hid hcs
  have HCAP := Lib.hid hcap
  have HPL := Lib.hid (Tri.pos_le S x)
  have HPT : Hid (Tri.at_ S x = true → Tri.pos S x < S.length) := Lib.hid (fun h => by
    unfold Tri.at_ at h
    rcases Nat.lt_or_ge (Tri.pos S x) S.length with h2 | h2
    · exact h2
    · rw [List.getElem?_eq_none h2] at h; simp at h)
  have HB0 := Lib.hid (Below.refl w.heap.size w)
  obtain ⟨kb, hkb⟩ : ∃ kb, Tri.keyed x = kb := ⟨_, rfl⟩
  have HKB := Lib.hid hkb
  rw [hkb] at HK
  clear hv hl hkb hcs hcap
  go_enter Tryz.func33, Tryz.ntmps33
  go_wp2_with fail
  refine (HK.out w).mono ?_
  rintro e w1 ⟨rfl, rfl⟩
  cases kb with
  | false =>
    go_wp2
    go_ret2
    exact RtPutPost.bad (Tri.putC_no HKB.out) (by decide) HB0.out
  | true =>
    go_wp2_with fail
    refine HA.out.mono ?_
    rintro e w1 ⟨rfl, hq⟩
    have HB1 : Hid (Below w.heap.size w w1) := Lib.hid (bel_drewI HB0.out hq)
    have HV1 := Lib.hid (RowsAt.below HV.out HB1.out)
    have HSZ1 := Lib.hid HB1.out.size
    clear hq
    obtain ⟨b, hb⟩ : ∃ b, Tri.at_ S x = b := ⟨_, rfl⟩
    have HBB := Lib.hid hb
    rw [hb] at HPE HPT ⊢
    obtain ⟨P, hP⟩ : ∃ P, Tri.pos S x = P := ⟨_, rfl⟩
    rw [hP] at HPE HPL HPT ⊢
    clear hb hP
    by_cases hbad : 1 ≤ y.length ∧ y.length ≤ 32 ∧ (b = true ∨ S.length < 1024)
    · have HOK : Hid (Tri.putC S x y = 0) := Lib.hid (Tri.putC_ok HKB.out (by rw [HBB.out]; exact hbad))
      have y1 : decide ((y.length : Int) < 1) = false := decide_eq_false (by omega)
      have y2 : decide ((32 : Int) < (y.length : Int)) = false := decide_eq_false (by omega)
      have h0 : (0 : Int) ≤ (P : Int) := by omega
      have hpc : (P : Int) ≤ (cap : Int) := by have := HCAP.out; have := HPL.out; omega
      have hps : (P : Int) ≤ (S.length : Int) := by have := HPL.out; omega
      have ht := HV1.out.take P HPL.out
      have hTl : (S.take P).length = P := by have := HPL.out; simp; omega
      obtain ⟨T, hT⟩ : ∃ T, S.take P = T := ⟨_, rfl⟩
      rw [hT] at ht hTl HPE
      obtain ⟨v1, w2, hrun1, hown1, hgr1, hat1⟩ := append_it ht (World.ownsRow_nil w1 w1.heap.size 60 2) (by have := HL.out; have := HPL.out; omega) (Nat.le_refl _)
      rw [List.nil_append, Nat.zero_add] at hown1
      have hb2 : Below w1.heap.size w1 w2 := (Out.grown hgr1 (F := fun _ => False) (fun j e => by simp [Value.ownBlock] at e)).below (fun _ hf => hf.elim) (Nat.le_refl _)
      obtain ⟨i0, hi, hz0, hz1, hz2⟩ := info_parts Tryz.infoItem
      obtain ⟨A1, cap1, rfl⟩ := own_form hown1
      have HOW1 := Lib.hid hown1
      have HB2 := Lib.hid hb2
      have HTL : Hid (T.length = P ∧ P ≤ 10000) := Lib.hid ⟨hTl, by have := HL.out; have := HPL.out; omega⟩
      cases b with
      | false =>
        have hs1 : decide ((1024 : Int) ≤ (S.length : Int)) = false := decide_eq_false (by have := hbad.2.2; simp at this; omega)
        have hRl : (S.drop P).length ≤ 10000 := by have := HL.out; simp; omega
        obtain ⟨R, hR⟩ : ∃ R, S.drop P = R := ⟨_, rfl⟩
        simp only [Bool.false_eq_true, if_false, Nat.add_zero] at HPE
        rw [hR] at hRl HPE
        have HTH := Lib.hid (fun w3 g' cap' l2 h2 hg hg' hs => it_third (w2 := w3) (l2 := l2) (T := T) (R := R) (one := (x, y)) (g' := g') (cap' := cap') (o := .cells #[.string ⟨x.toArray⟩, .string ⟨y.toArray⟩] 60) (Nat.le_refl _) hb2 (fun k hk => (World.ownsRow.lt hown1 k hk).1) h2 hg hg' hs (by have := HL.out; have := HPL.out; omega))
        have HFIN : Hid (∀ v3 w3, ItAt w3 v3 (T ++ (x, y) :: R) → Below w1.heap.size w1 w3 → RtPutPost S x y w (.returned (.tuple #[v3, .int .i64 0])) w3) := Lib.hid (fun v3 w3 q1 q2 => RtPutPost.good HOK.out HPE.out q1 (HB1.out.trans (q2.mono HSZ1.out)))
        have HRQ := Lib.hid hR
        clear hgr1 hat1 hb2 hown1 hTl hRl ht hT hR hbad
        rcases HCS.out with ⟨hs0, rfl, rfl⟩ | ⟨b, o, rfl⟩
        · have hSl : S.length = 0 := by rw [hs0]; rfl
          obtain rfl : P = 0 := by have := HPL.out; omega
          have HDR : Hid (ItAt w1 (.slice none 0 0) R) := Lib.hid (by rw [← HRQ.out, hs0]; exact RowsAt.nil ..)
          rw [hSl] at hs1 ⊢
          clear hs0 hSl hps hpc
          go_wp2_with (first | (at_builtin; refine wpList_append_run rfl _ _ _ rfl (.slice none 0 0) (.slice none 0 0) (.slice A1 T.length cap1) (by rfl) (by rfl) hrun1 ?_) | (at_builtin; refine wpList_append_lies _ rfl _ _ _ rfl w1.heap.size 60 i0 (.agg #[.string ⟨#[]⟩, .string ⟨#[]⟩]) 2 32 Tryz.underlying22 hi hz0 hz1 hz2 rfl (by decide) (.slice A1 T.length cap1) T.length (rowsL itcl T) (by rfl) (World.ownsRow.alloc HOW1.out _) ⟨w2.heap.size, 0, none⟩ 1 1 (rowsL itcl [(x, y)]) (by rfl) rfl (World.news_of_block (heap_new_at _ _ _ (by simp))) (by simp [rowsL, itcl, Value.oneCell']) (by decide) (by have := HTL.out; unfold maxLen; omega) (by have := HTL.out; omega) (by have := HB2.out.size; simp at this ⊢; omega) (w2.heap.size + 1) (by simp) ?_; intro g' cap' w3 hown3 hgr3 hat3 hlt3) | (at_builtin; obtain ⟨v4, w4, hrun4, hst4, hb4⟩ := HTH.out w3 g' cap' (.slice none 0 0) hown3 hgr3 (World.ownsRow.lt hown3 g' rfl).1 HDR.out; refine wpList_append_run rfl _ _ _ rfl (.slice (some ⟨g', 0, none⟩) (T.length + 1) cap') (.slice none 0 0) v4 (by rfl) (by rfl) hrun4 ?_))
          go_ret2
          exact HFIN.out _ _ hst4 hb4
        · by_cases hPc : P = cap
          · subst hPc
            have hSP : S.length = P := by have := HCAP.out; have := HPL.out; omega
            have HDR : Hid (ItAt w1 (.slice (some ⟨b, o, none⟩) 0 0) R) := Lib.hid (by
              have h := RowsAt.drop HV1.out P (Nat.le_of_eq hSP.symm) b o (fun h => by omega)
              rw [HRQ.out, hSP, Nat.sub_self] at h
              exact h)
            rw [hSP] at hs1 ⊢
            clear hSP hps hpc
            go_wp2_with (first | (at_builtin; refine wpList_append_run rfl _ _ _ rfl (.slice none 0 0) (.slice (some ⟨b, o, none⟩) P P) (.slice A1 T.length cap1) (by rfl) (by rfl) hrun1 ?_) | (at_builtin; refine wpList_append_lies _ rfl _ _ _ rfl w1.heap.size 60 i0 (.agg #[.string ⟨#[]⟩, .string ⟨#[]⟩]) 2 32 Tryz.underlying22 hi hz0 hz1 hz2 rfl (by decide) (.slice A1 T.length cap1) T.length (rowsL itcl T) (by rfl) (World.ownsRow.alloc HOW1.out _) ⟨w2.heap.size, 0, none⟩ 1 1 (rowsL itcl [(x, y)]) (by rfl) rfl (World.news_of_block (heap_new_at _ _ _ (by simp))) (by simp [rowsL, itcl, Value.oneCell']) (by decide) (by have := HTL.out; unfold maxLen; omega) (by have := HTL.out; omega) (by have := HB2.out.size; simp at this ⊢; omega) (w2.heap.size + 1) (by simp) ?_; intro g' cap' w3 hown3 hgr3 hat3 hlt3) | (at_builtin; obtain ⟨v4, w4, hrun4, hst4, hb4⟩ := HTH.out w3 g' cap' (.slice (some ⟨b, o, none⟩) 0 0) hown3 hgr3 (World.ownsRow.lt hown3 g' rfl).1 HDR.out; refine wpList_append_run rfl _ _ _ rfl (.slice (some ⟨g', 0, none⟩) (T.length + 1) cap') (.slice (some ⟨b, o, none⟩) 0 0) v4 (by rfl) (by rfl) hrun4 ?_))
            go_ret2
            exact HFIN.out _ _ hst4 hb4
          · have hPc2 : ¬ ((cap : Int) - (P : Int) = 0) := by have := HCAP.out; have := HPL.out; omega
            have HDR : Hid (ItAt w1 (.slice (some ⟨b, o + P * 2, none⟩) (S.length - P) (cap - P)) R) := Lib.hid (by rw [← HRQ.out]; exact RowsAt.drop HV1.out P HPL.out b (o + P * 2) (fun _ => ⟨rfl, rfl⟩))
            go_wp2_with (first | (at_builtin; refine wpList_append_run rfl _ _ _ rfl (.slice none 0 0) (.slice (some ⟨b, o, none⟩) P cap) (.slice A1 T.length cap1) (by rfl) (by rfl) hrun1 ?_) | (at_builtin; refine wpList_append_lies _ rfl _ _ _ rfl w1.heap.size 60 i0 (.agg #[.string ⟨#[]⟩, .string ⟨#[]⟩]) 2 32 Tryz.underlying22 hi hz0 hz1 hz2 rfl (by decide) (.slice A1 T.length cap1) T.length (rowsL itcl T) (by rfl) (World.ownsRow.alloc HOW1.out _) ⟨w2.heap.size, 0, none⟩ 1 1 (rowsL itcl [(x, y)]) (by rfl) rfl (World.news_of_block (heap_new_at _ _ _ (by simp))) (by simp [rowsL, itcl, Value.oneCell']) (by decide) (by have := HTL.out; unfold maxLen; omega) (by have := HTL.out; omega) (by have := HB2.out.size; simp at this ⊢; omega) (w2.heap.size + 1) (by simp) ?_; intro g' cap' w3 hown3 hgr3 hat3 hlt3) | (at_builtin; obtain ⟨v4, w4, hrun4, hst4, hb4⟩ := HTH.out w3 g' cap' (.slice (some ⟨b, o + P * 2, none⟩) (S.length - P) (cap - P)) hown3 hgr3 (World.ownsRow.lt hown3 g' rfl).1 HDR.out; refine wpList_append_run rfl _ _ _ rfl (.slice (some ⟨g', 0, none⟩) (T.length + 1) cap') (.slice (some ⟨b, o + P * 2, none⟩) (S.length - P) (cap - P)) v4 (by rfl) (by rfl) hrun4 ?_))
            go_ret2
            exact HFIN.out _ _ hst4 hb4
      | true =>
        have hP1 : ((P : Int) + 1) ≤ (S.length : Int) := by have := HPT.out rfl; omega
        have hP2 : ((P : Int) + 1) ≤ (cap : Int) := by have := HPT.out rfl; have := HCAP.out; omega
        have hP3 : (P : Int) + 1 ≤ 100000 := by have := HL.out; have := HPL.out; omega
        have hP0 : (0 : Int) ≤ (P : Int) + 1 := by omega
        have hRl : (S.drop (P + 1)).length ≤ 10000 := by have := HL.out; simp; omega
        obtain ⟨R, hR⟩ : ∃ R, S.drop (P + 1) = R := ⟨_, rfl⟩
        simp only [if_true] at HPE
        rw [hR] at hRl HPE
        have HTH := Lib.hid (fun w3 g' cap' l2 h2 hg hg' hs => it_third (w2 := w3) (l2 := l2) (T := T) (R := R) (one := (x, y)) (g' := g') (cap' := cap') (o := .cells #[.string ⟨x.toArray⟩, .string ⟨y.toArray⟩] 60) (Nat.le_refl _) hb2 (fun k hk => (World.ownsRow.lt hown1 k hk).1) h2 hg hg' hs (by have := HL.out; have := HPL.out; omega))
        have HFIN : Hid (∀ v3 w3, ItAt w3 v3 (T ++ (x, y) :: R) → Below w1.heap.size w1 w3 → RtPutPost S x y w (.returned (.tuple #[v3, .int .i64 0])) w3) := Lib.hid (fun v3 w3 q1 q2 => RtPutPost.good HOK.out HPE.out q1 (HB1.out.trans (q2.mono HSZ1.out)))
        have HRQ := Lib.hid hR
        clear hgr1 hat1 hb2 hown1 hTl hRl ht hT hR hbad
        rcases HCS.out with ⟨hs0, rfl, rfl⟩ | ⟨b, o, rfl⟩
        · exfalso; have := HPT.out rfl; rw [hs0] at this; simp at this
        · by_cases hPc : (P + 1) = cap
          · subst hPc
            have hSP : S.length = P + 1 := by have := HCAP.out; have := HPT.out rfl; omega
            have HDR : Hid (ItAt w1 (.slice (some ⟨b, o, none⟩) 0 0) R) := Lib.hid (by
              have h := RowsAt.drop HV1.out (P + 1) (Nat.le_of_eq hSP.symm) b o (fun h => by omega)
              rw [HRQ.out, hSP, Nat.sub_self] at h
              exact h)
            rw [hSP]
            clear hSP hps
            go_wp2_with (first | (at_builtin; refine wpList_append_run rfl _ _ _ rfl (.slice none 0 0) (.slice (some ⟨b, o, none⟩) P (P + 1)) (.slice A1 T.length cap1) (by rfl) (by rfl) hrun1 ?_) | (at_builtin; refine wpList_append_lies _ rfl _ _ _ rfl w1.heap.size 60 i0 (.agg #[.string ⟨#[]⟩, .string ⟨#[]⟩]) 2 32 Tryz.underlying22 hi hz0 hz1 hz2 rfl (by decide) (.slice A1 T.length cap1) T.length (rowsL itcl T) (by rfl) (World.ownsRow.alloc HOW1.out _) ⟨w2.heap.size, 0, none⟩ 1 1 (rowsL itcl [(x, y)]) (by rfl) rfl (World.news_of_block (heap_new_at _ _ _ (by simp))) (by simp [rowsL, itcl, Value.oneCell']) (by decide) (by have := HTL.out; unfold maxLen; omega) (by have := HTL.out; omega) (by have := HB2.out.size; simp at this ⊢; omega) (w2.heap.size + 1) (by simp) ?_; intro g' cap' w3 hown3 hgr3 hat3 hlt3) | (at_builtin; obtain ⟨v4, w4, hrun4, hst4, hb4⟩ := HTH.out w3 g' cap' (.slice (some ⟨b, o, none⟩) 0 0) hown3 hgr3 (World.ownsRow.lt hown3 g' rfl).1 HDR.out; refine wpList_append_run rfl _ _ _ rfl (.slice (some ⟨g', 0, none⟩) (T.length + 1) cap') (.slice (some ⟨b, o, none⟩) 0 0) v4 (by rfl) (by rfl) hrun4 ?_))
            go_ret2
            exact HFIN.out _ _ hst4 hb4
          · have hPc2 : ¬ ((cap : Int) - ((P : Int) + 1) = 0) := by have := HCAP.out; have := HPT.out rfl; omega
            have HDR : Hid (ItAt w1 (.slice (some ⟨b, o + (P + 1) * 2, none⟩) (S.length - (P + 1)) (cap - (P + 1))) R) := Lib.hid (by rw [← HRQ.out]; exact RowsAt.drop HV1.out (P + 1) (HPT.out rfl) b (o + (P + 1) * 2) (fun _ => ⟨rfl, rfl⟩))
            go_wp2_with (first | (at_builtin; refine wpList_append_run rfl _ _ _ rfl (.slice none 0 0) (.slice (some ⟨b, o, none⟩) P cap) (.slice A1 T.length cap1) (by rfl) (by rfl) hrun1 ?_) | (at_builtin; refine wpList_append_lies _ rfl _ _ _ rfl w1.heap.size 60 i0 (.agg #[.string ⟨#[]⟩, .string ⟨#[]⟩]) 2 32 Tryz.underlying22 hi hz0 hz1 hz2 rfl (by decide) (.slice A1 T.length cap1) T.length (rowsL itcl T) (by rfl) (World.ownsRow.alloc HOW1.out _) ⟨w2.heap.size, 0, none⟩ 1 1 (rowsL itcl [(x, y)]) (by rfl) rfl (World.news_of_block (heap_new_at _ _ _ (by simp))) (by simp [rowsL, itcl, Value.oneCell']) (by decide) (by have := HTL.out; unfold maxLen; omega) (by have := HTL.out; omega) (by have := HB2.out.size; simp at this ⊢; omega) (w2.heap.size + 1) (by simp) ?_; intro g' cap' w3 hown3 hgr3 hat3 hlt3) | (at_builtin; obtain ⟨v4, w4, hrun4, hst4, hb4⟩ := HTH.out w3 g' cap' (.slice (some ⟨b, o + (P + 1) * 2, none⟩) (S.length - (P + 1)) (cap - (P + 1))) hown3 hgr3 (World.ownsRow.lt hown3 g' rfl).1 HDR.out; refine wpList_append_run rfl _ _ _ rfl (.slice (some ⟨g', 0, none⟩) (T.length + 1) cap') (.slice (some ⟨b, o + (P + 1) * 2, none⟩) (S.length - (P + 1)) (cap - (P + 1))) v4 (by rfl) (by rfl) hrun4 ?_))
            go_ret2
            exact HFIN.out _ _ hst4 hb4
    · have HBAD : Hid (Tri.putC S x y = 2) := Lib.hid (Tri.putC_bad HKB.out (by rw [HBB.out]; exact hbad))
      by_cases c1 : 1 ≤ y.length
      · have y1 : decide ((y.length : Int) < 1) = false := decide_eq_false (by omega)
        by_cases c2 : y.length ≤ 32
        · have y2 : decide ((32 : Int) < (y.length : Int)) = false := decide_eq_false (by omega)
          cases b with
          | true => exact absurd ⟨c1, c2, Or.inl rfl⟩ hbad
          | false =>
            have hs1 : decide ((1024 : Int) ≤ (S.length : Int)) = true := decide_eq_true (by have : ¬ S.length < 1024 := fun h => hbad ⟨c1, c2, Or.inr h⟩; omega)
            clear hbad
            go_wp2
            go_ret2
            exact RtPutPost.bad HBAD.out (by decide) HB1.out
        · have y2 : decide ((32 : Int) < (y.length : Int)) = true := decide_eq_true (by omega)
          clear hbad
          go_wp2
          go_ret2
          exact RtPutPost.bad HBAD.out (by decide) HB1.out
      · have y1 : decide ((y.length : Int) < 1) = true := decide_eq_true (by omega)
        clear hbad
        go_wp2
        go_ret2
        exact RtPutPost.bad HBAD.out (by decide) HB1.out
end Go.Proofs.YtaficmboooaknaaGreatDoor
