/- TriWants, NibCommon, TriWith, TriWithMore, TriWithout, TriTexts2, TriRefList, TriRefGet, TriRefPut, TriItems, TriRefDel -/
import Derived.Test.YtjfefphgikncnaaGreatDoorPk14
import Derived.Test.YtjfefphgikncnaaGreatDoorChecked
import Derived.Test.YtjfefphgikncnaaGreatDoorPk02
import Derived.WalkKit
import Derived.WalkSpells
import Derived.WalkLawsBesides
import Derived.ShutString
import Derived.Lib.Hide
import Derived.Deep.QuietTactic
import Derived.BigQuiet
import Derived.WalkSmall
import Derived.Test.YtjfefphgikncnaaGreatDoorPk13
import Derived.Test.YtjfefphgikncnaaGreatDoorPk12
import Derived.Test.YtjfefphgikncnaaGreatDoorPk01
import Derived.Lib.Strings
import Derived.Test.YtjfefphgikncnaaGreatDoorPk07
namespace Go.Proofs.YtjfefphgikncnaaGreatDoor
open Sto (T)
open Tri (Tr)
open Go.Proofs.YtjfefphgikncnaaGreatDoor.Nd (N)
theorem spots_place (dg : N → T) (t : Tr) (p : T) : ∀ x ∈ t.spots dg p, ∃ r, x.1 = p ++ r := by
  induction t generalizing p with
  | nil => intro x hx; cases hx
  | leaf q v => intro x hx; obtain rfl := List.mem_singleton.1 hx; exact ⟨[], by simp⟩
  | ext q t ih =>
    intro x hx
    rcases List.mem_cons.1 hx with rfl | hx
    · exact ⟨[], by simp⟩
    · obtain ⟨r, e⟩ := ih (p ++ q) x hx
      exact ⟨q ++ r, by rw [e, List.append_assoc]⟩
  | br v k ih =>
    intro x hx
    rcases List.mem_cons.1 hx with rfl | hx
    · exact ⟨[], by simp⟩
    · obtain ⟨i, _, hi⟩ := List.mem_flatMap.1 hx
      obtain ⟨r, e⟩ := ih i (p ++ [Tri.hb i]) x hi
      exact ⟨Tri.hb i :: r, by rw [e, List.append_assoc]; rfl⟩
/-- Below what is not wanted nothing is. -/
def Down (want : T → Bool) : Prop := ∀ p q, want (p ++ q) = true → want p = true
theorem flat_map {α β γ : Type} (l : List α) (f : α → List β) (g : α → List γ) (pf : β → Bool) (pg : γ → Bool) (m : β → γ) (h : ∀ a ∈ l, ((f a).filter pf).map m = (g a).filter pg) : ((l.flatMap f).filter pf).map m = (l.flatMap g).filter pg := by
  induction l with
  | nil => rfl
  | cons a l ih =>
    rw [List.flatMap_cons, List.flatMap_cons, List.filter_append, List.filter_append, List.map_append, h a (List.mem_cons_self ..), ih (fun b hb => h b (List.mem_cons_of_mem _ hb))]
theorem visits_spots (dg : N → T) {want : T → Bool} (hd : Down want) (t : Tr) (p : T) : ((t.visits want p).filter fun x => want x.1).map (fun x => (x.1, x.2.node dg)) = (t.spots dg p).filter fun x => want x.1 := by
  have none : ∀ (t : Tr) (p q : T), want p = false → (t.spots dg (p ++ q)).filter (fun x => want x.1) = [] := fun t p q h => by
    rw [List.filter_eq_nil_iff]
    intro x hx hw
    obtain ⟨r, e⟩ := spots_place dg t (p ++ q) x hx
    rw [e, List.append_assoc] at hw
    rw [hd _ _ hw] at h
    cases h
  induction t generalizing p with
  | nil => rfl
  | leaf q v =>
    rw [Tri.Tr.visits, Tri.Tr.spots]
    cases h : want p <;> simp [h]
  | ext q t ih =>
    rw [Tri.Tr.visits, Tri.Tr.spots]
    cases h : want p with
    | false => simp [h, none t p q h]
    | true => simp only [if_true, List.filter_cons, h, List.map_cons, ih (p ++ q)]
  | br v k ih =>
    rw [Tri.Tr.visits, Tri.Tr.spots]
    cases h : want p with
    | false =>
      simp only [Bool.false_eq_true, if_false, List.filter_cons, h, List.filter_nil, List.map_nil]
      symm
      rw [List.filter_eq_nil_iff]
      intro x hx hw
      obtain ⟨i, _, hi⟩ := List.mem_flatMap.1 hx
      have := none (k i) p [Tri.hb i] h
      rw [List.filter_eq_nil_iff] at this
      exact this x hi hw
    | true =>
      simp only [if_true, List.filter_cons, h, List.map_cons]
      congr 1
      exact flat_map _ _ _ _ _ _ fun i _ => ih i (p ++ [Tri.hb i])
/-- The bytes of the nodes of a tree that are wanted. -/
def wantedT (want : T → Bool) (t : Tr) : List T := ((t.spots Nd.sumS []).filter fun x => want x.1).map fun x => Nd.written x.2
theorem wanted_texts {want : T → Bool} (hd : Down want) (t : Tr) : textsT want (t.visits want []) = wantedT want t := by
  unfold wantedT textsT
  rw [← visits_spots Nd.sumS hd t [], List.map_map]
  rfl
theorem down_all : Down fun _ => true := fun _ _ _ => rfl
theorem down_begins (m : T) : Down fun p => Tri.begins p m := fun p q h => by
  simp only [Tri.begins, decide_eq_true_eq] at h ⊢
  have h2 := congrArg (List.take p.length) h
  rw [List.take_take, List.take_append_of_le_length (Nat.le_refl _), List.take_length] at h2
  rw [Nat.min_eq_left (by simp)] at h2
  exact h2
end Go.Proofs.YtjfefphgikncnaaGreatDoor
namespace Go.Proofs.YtjfefphgikncnaaGreatDoor
open Go.RowKit

set_option maxHeartbeats 400000 in
theorem common_any (a b : List UInt8) (w : World) (ha : a.length ≤ 1000000) (hb : b.length ≤ 1000000) :
    Calls Tryz.prog 127 #[.string ⟨a.toArray⟩, .string ⟨b.toArray⟩] w fun e w' => e = .returned (.int .i64 (Nib.commonL a b)) ∧ Below w.heap.size w w' := by
  rcases Nat.lt_or_ge b.length a.length with hm | hm
  all_goals
    go_enter Tryz.func127, Tryz.ntmps127
    go_wp2
    go_loopw [13] (fun i wr => ∃ k : Nat, k ≤ min a.length b.length ∧ a.take k = b.take k ∧ i = .int .i64 k ∧ Below w.heap.size w wr) (fun i _ => min a.length b.length - (intOf i).toNat)
    case atStart => exact ⟨0, Nat.zero_le _, by simp, rfl, Below.refl _ _⟩
    case round =>
      obtain ⟨k, hk, hf, rfl, hbel⟩ := hrel
      have HF := Lib.hid hf; clear hf
      by_cases hlt : k < min a.length b.length
      · have h1 : (k : Int) < (a.length : Int) := by omega
        have h2 : (k : Int) < (b.length : Int) := by omega
        go_wp2
        go_quiet (fail)
        go_wp2
        · go_ret
          have ht : (((a[k]'(by omega)).toNat : Int) != ((b[k]'(by omega)).toNat : Int)) = true := by assumption
          exact ⟨by rw [Nib.commonL_of_diff a b k (by omega) (by omega) HF.out (Nib.byte_ne ht)]; rfl, bel_drewN hbel _⟩
        · go_roundw
          case rel =>
            have ht : (((a[k]'(by omega)).toNat : Int) != ((b[k]'(by omega)).toNat : Int)) = false := by assumption
            exact ⟨k + 1, by omega, Nib.take_eq_succ a b k (by omega) (by omega) HF.out (Nib.byte_eq ht), by go_num, bel_drewN hbel _⟩
          case measure => simp [intOf]; omega
      · go_wp2
        go_ret
        have := HF.out
        exact ⟨by rw [Nib.commonL_of_end a b k (by omega) this]; exact ret_i64 (by omega), hbel⟩

end Go.Proofs.YtjfefphgikncnaaGreatDoor
namespace Go.Proofs.YtjfefphgikncnaaGreatDoor
open Go.RowKit
open Sto (T)
open Tri (Tr Ok upd ix hb lay splitT Trim rank)

/-- What with is to answer, of trees of at most this rank. -/
def WithTo (m : Nat) : Prop := ∀ (t : Tr) (v : Value) (p x : T) (w : World) (F : Fm), rank t p ≤ m → F.fresh w → PAt w F false t v → Trim t → Nib.fitL p = true → p.length ≤ 16 →
  Calls Tryz.prog 93 #[v, .string ⟨p.toArray⟩, .string ⟨x.toArray⟩] w (MadeT w F (t.put p x))

set_option maxRecDepth 100000 in
theorem with_nil (p x : T) (w : World) (F : Fm) (hF : F.fresh w) :
    Calls Tryz.prog 93 #[.pointer none, .string ⟨p.toArray⟩, .string ⟨x.toArray⟩] w (MadeT w F (.leaf p x)) := by
  have HLF := Lib.hid (leaf_any p x w F hF)
  unfold MadeT at HLF ⊢
  go_enter Tryz.func93, Tryz.ntmps93
  go_wp2_with fail
  refine HLF.out.mono ?_
  rintro e w1 ⟨v, rfl, hp, hb⟩
  go_wp2
  go_ret
  exact ⟨v, rfl, hp, hb⟩
set_option maxRecDepth 100000 in
set_option maxHeartbeats 1000000 in
theorem with_here {y : T} {k : Fin 16 → Tr} {v : Value} (x : T) (w : World) (F : Fm) (hF : F.fresh w) (h : PAt w F false (.br y k) v) :
    Calls Tryz.prog 93 #[v, .string ⟨#[]⟩, .string ⟨x.toArray⟩] w (MadeT w F (.br x k)) := by
  obtain ⟨g, s', K, rfl, -, -, hr, hk⟩ := h.row id
  have HO := Lib.hid (open_any w hr (fun i => (hk i).oneCell))
  have n0 : w.cell? ⟨g, 0, none⟩ = some (.int .i64 3) := hr.kind
  have HK := Lib.hid hk
  unfold MadeT
  unfold ptr at HO ⊢
  clear h hr hk
  go_enter Tryz.func93, Tryz.ntmps93
  go_wp2_with fail
  refine HO.out.mono ?_
  rintro e w1 ⟨rfl, hr1, hb1⟩
  have m2 := hr1.val
  have f2 := hr1.free 2
  have HR1 := Lib.hid hr1
  have HB := Lib.hid hb1
  clear hr1 hb1
  go_wp2
  go_ret
  have hb2 := HB.out.setCell (p := ⟨w.heap.size, 2, none⟩) (Nat.le_refl _) (.string ⟨x.toArray⟩)
  exact ⟨_, rfl, PAt.new (K := K) id (hF _ (Nat.le_refl _)) (HR1.out.setVal x) (fun i => ((HK.out i).weak).below hb2), hb2⟩
set_option maxRecDepth 100000 in
set_option maxHeartbeats 2000000 in
theorem with_below {m : Nat} (IH : WithTo m) {y : T} {k : Fin 16 → Tr} {v : Value} (b : UInt8) (p x : T) (w : World) (F : Fm) (hm : 2 * p.length + 1 ≤ m) (hF : F.fresh w) (h : PAt w F false (.br y k) v) (hg : Trim (.br y k)) (hf : Nib.fitL (b :: p) = true) (hl : (b :: p).length ≤ 16) :
    Calls Tryz.prog 93 #[v, .string ⟨(b :: p).toArray⟩, .string ⟨x.toArray⟩] w (MadeT w F (.br y (upd k (ix b) ((k (ix b)).put p x)))) := by
  obtain ⟨g, s', K, rfl, -, -, hr, hk⟩ := h.row id
  have HO := Lib.hid (open_any w hr (fun i => (hk i).oneCell))
  have n0 : w.cell? ⟨g, 0, none⟩ = some (.int .i64 3) := hr.kind
  have HK := Lib.hid hk
  have HR := Lib.hid hr
  obtain ⟨hb1, hfp⟩ := Tri.fit_cons.1 hf
  have hix := ix_val hb1
  have hpl : p.length ≤ 16 := by simp at hl; omega
  have HI : Hid (∀ w', Below w.heap.size w w' → w.heap.size < w'.heap.size → Calls Tryz.prog 93 #[K (ix b), .string ⟨p.toArray⟩, .string ⟨x.toArray⟩] w' fun e w'' => ∃ g6, e = .returned (.pointer (some ⟨g6, 0, none⟩)) ∧ PAt w'' (F.off w.heap.size) false ((k (ix b)).put p x) (ptr g6) ∧ Below w'.heap.size w' w'') := Lib.hid (fun w' hb hs =>
    (IH (k (ix b)) (K (ix b)) p x w' _ (Nat.le_trans (Tri.rank_le _ _) hm) ((hF.size hb.size).off hs) (((hk (ix b)).weak.new_off (Nat.le_refl _)).below hb) (hg.br _) hfp hpl).mono fun e w'' ⟨v6, e6, hp6, hb6⟩ => by
      obtain ⟨g6, _, _, rfl, _⟩ := hp6.row (Tri.put_nn _ _ _)
      exact ⟨g6, e6, hp6, hb6⟩)
  have hbyte : ∀ hh, (⟨(b :: p).toArray⟩ : ByteArray)[0]'hh = b := byte_drop rfl
  have htail : (⟨(b :: p).toArray⟩ : ByteArray).extract 1 (b :: p).length = ⟨p.toArray⟩ := tail_drop (n := 0) rfl
  have hne : ((b :: p : List UInt8) == []) = false := rfl
  have z0 : (0 : Int) < ((b :: p).length : Int) := by rw [List.length_cons]; omega
  have z1 : (1 : Int) ≤ ((b :: p).length : Int) := by rw [List.length_cons]; omega
  have z6 : (0 : Int) ≤ (b.toNat : Int) := by omega
  have z7 : (b.toNat : Int) < 16 := by omega
  have HIX := Lib.hid hix
  obtain ⟨vk, hvk⟩ : ∃ vk, K (ix b) = vk := ⟨_, rfl⟩
  rw [hvk] at HI
  have HVK := Lib.hid hvk
  obtain ⟨P, hP⟩ : ∃ P, b :: p = P := ⟨_, rfl⟩
  rw [hP] at hbyte htail hne z0 z1 ⊢
  unfold MadeT
  unfold ptr at HO ⊢
  clear h hr hk hg hf hl hm hb1 hfp hix hpl IH hvk hP
  go_enter Tryz.func93, Tryz.ntmps93
  go_wp2_with fail
  refine HO.out.mono ?_
  rintro e w1 ⟨rfl, hr1, hb1⟩
  obtain ⟨q, hq⟩ : ∃ q, w.heap.size = q := ⟨_, rfl⟩
  have HSZ : Hid (q < w1.heap.size) := Lib.hid (by rw [← hq]; exact lt_of_heap hr1)
  have HGQ : Hid (g < q) := Lib.hid (by rw [← hq]; exact lt_of_heap HR.out)
  have HR1 := Lib.hid hr1
  have HB1 := Lib.hid hb1
  rw [hq] at HR1 HB1 HI ⊢
  have HQ := Lib.hid hq
  have HN1 : Hid (∀ w', Below w1.heap.size w1 w' → w'.cell? ⟨g, 3 + b.toNat, none⟩ = some vk ∧ w'.cell? ⟨q, 3 + b.toNat, none⟩ = some vk ∧ w'.frozen? ⟨q, 3 + b.toNat, none⟩ = false) := Lib.hid (fun w' hb => by
    have k1 := (HR.out.below (by rw [HQ.out]; exact HB1.out)).below hb
    have k2 := HR1.out.below hb
    have e1 := k1.kid (ix b)
    have e2 := k2.kid (ix b)
    rw [HIX.out, HVK.out] at e1 e2
    exact ⟨e1, e2, k2.free _⟩)
  have HK1 : Hid (∀ w' v, Below w1.heap.size w1 w' → (w'.setCell ⟨q, 3 + b.toNat, none⟩ v).cell? ⟨g, 3 + b.toNat, none⟩ = some vk) := Lib.hid (fun w' v hb => keep_cell (HN1.out w' hb).1 (Nat.ne_of_lt HGQ.out))
  have HI2 : Hid (∀ w', Below w1.heap.size w1 w' → Calls Tryz.prog 93 #[vk, .string ⟨p.toArray⟩, .string ⟨x.toArray⟩] w' fun e w'' => ∃ g6, e = .returned (.pointer (some ⟨g6, 0, none⟩)) ∧ PAt w'' (F.off q) false ((k (ix b)).put p x) (ptr g6) ∧ Below w1.heap.size w1 w'') := Lib.hid (fun w' hb => (HI.out w' (HB1.out.trans (hb.mono (Nat.le_of_lt HSZ.out))) (Nat.lt_of_lt_of_le HSZ.out hb.size)).mono fun e w'' ⟨g6, e6, hp6, hb6⟩ => ⟨g6, e6, hp6, hb.trans (hb6.mono hb.size)⟩)
  clear hr1 hb1 hq HI
  go_upto_region 7 with fail
  have BD : Below w1.heap.size w1 w1.drew := (Below.refl _ _).drew
  obtain ⟨c1, c2, c3⟩ := HN1.out _ BD
  go_region_held3 (fun w' => w'.cell? ⟨g, 3 + b.toNat, none⟩ = some vk)
    ((first | (with_reducible exact c1) | (with_reducible exact d1) | (refine HK1.out _ _ ?_; with_reducible assumption)))
    ((go_at_call 93; refine (HI2.out _ ?_).mono ?_; (with_reducible assumption); rintro e w6 ⟨g6, rfl, hp6, hb6⟩; obtain ⟨d1, d2, d3⟩ := HN1.out _ hb6))
  all_goals
    go_wp2
    go_ret
    have hbq : Below w.heap.size w w6 := by rw [HQ.out]; exact HB1.out.trans (hb6.mono (Nat.le_of_lt HSZ.out))
    refine ⟨_, rfl, PAt.new (K := updK K (ix b) (ptr g6)) id (hF _ (Nat.le_of_eq HQ.out)) ?_ (fun i => ?_), by rw [← HQ.out]; exact hbq.setCell (p := ⟨w.heap.size, _, none⟩) (Nat.le_refl _) _⟩
    · have := (HR1.out.below hb6).setKid (ix b) (ptr g6)
      rw [HIX.out] at this
      exact this
    · simp only [Tri.Tr.kid, updK, Tri.upd]
      split
      · exact hp6.off _ _
      · exact (((HK.out i).weak.new_off (Nat.le_of_eq HQ.out)).below hbq).off _ _
end Go.Proofs.YtjfefphgikncnaaGreatDoor
namespace Go.Proofs.YtjfefphgikncnaaGreatDoor
open Go.RowKit
open Sto (T)
open Tri (Tr Ok upd ix hb lay splitT Trim rank)

/-- Behind the split, if there is one. -/
theorem with_plan {t : Tr} {p : T} (hg : Trim t) (hk : t.kind = 1 ∨ t.kind = 2) (hp : Nib.fitL p = true) (hl : p.length ≤ 16) (x : T) :
    ∃ tb, tb = (if Tri.splits t p then splitT (Nib.commonL t.pth p) t else t.kid 0) ∧ t.put p x = lay (p.take (Nib.commonL t.pth p)) (tb.put (p.drop (Nib.commonL t.pth p)) x) ∧
      Trim tb ∧ rank tb (p.drop (Nib.commonL t.pth p)) ≤ 2 * p.length ∧ (tb.put (p.drop (Nib.commonL t.pth p)) x).pth.length ≤ 16 := by
  have hbr : ∀ u : Tr, u.isBr → rank u (p.drop (Nib.commonL t.pth p)) ≤ 2 * p.length ∧ (u.put (p.drop (Nib.commonL t.pth p)) x).pth.length ≤ 16 := fun u hu => by
    refine ⟨by rw [Tri.rank_br hu]; simp; omega, ?_⟩
    have := Tri.put_br hu (p.drop (Nib.commonL t.pth p)) x
    generalize u.put (p.drop (Nib.commonL t.pth p)) x = y at this ⊢
    cases y <;> simp_all [Tri.Tr.isBr, Tri.Tr.pth]
  refine ⟨_, rfl, ?_⟩
  cases t with
  | nil => rcases hk with h | h <;> cases h
  | br y k => rcases hk with h | h <;> cases h
  | leaf q y =>
    refine ⟨Tri.put_leaf_plan hg.fits hp, ?_⟩
    by_cases h : Tri.splits (.leaf q y) p = true
    · rw [if_pos h]
      exact ⟨hg.split, hbr _ (Tri.split_br _ _)⟩
    · rw [if_neg h]
      refine ⟨Tri.Trim.nil, by simp [Tri.Tr.kid, rank]; omega, ?_⟩
      simp only [Tri.Tr.kid, Tri.Tr.put, Tri.Tr.pth, List.length_drop]
      omega
  | ext q u =>
    refine ⟨Tri.put_ext_plan hg.firm.2.1 hg.firm.1 hg.fits.1 hp, ?_⟩
    by_cases h : Tri.splits (.ext q u) p = true
    · rw [if_pos h]
      exact ⟨hg.split, hbr _ (Tri.split_br _ _)⟩
    · rw [if_neg h]
      have e : (Tr.ext q u).kid 0 = u := by simp [Tri.Tr.kid]
      rw [e]
      exact ⟨hg.ext, hbr _ hg.firm.2.1⟩

theorem cut_drop (p : T) (c : Nat) : (⟨p.toArray⟩ : ByteArray).extract c p.length = ⟨(p.drop c).toArray⟩ := ext_drop p c
theorem cut_take (p : T) (c : Nat) : (⟨p.toArray⟩ : ByteArray).extract 0 c = ⟨(p.take c).toArray⟩ := by rw [Lib.extract_eq]; simp
set_option maxRecDepth 100000 in
set_option maxHeartbeats 2000000 in
theorem with_else {m : Nat} (IH : WithTo m) {t : Tr} {v : Value} (p x : T) (w : World) (F : Fm) (hk : t.kind = 1 ∨ t.kind = 2) (hm : 2 * p.length ≤ m) (hF : F.fresh w) (h : PAt w F false t v) (hg : Trim t) (hf : Nib.fitL p = true) (hl : p.length ≤ 16) :
    Calls Tryz.prog 93 #[v, .string ⟨p.toArray⟩, .string ⟨x.toArray⟩] w (MadeT w F (t.put p x)) := by
  have hnn : ¬ t.isNil := fun e => by rw [← Tri.kind_nil] at e; omega
  obtain ⟨tb, htb, hput, htr, hrk, hpb⟩ := with_plan hg hk hf hl x
  obtain ⟨g, s', K, rfl, -, -, hr, hkk⟩ := h.row hnn
  have hcl := Nib.commonL_le t.pth p
  have hqs : t.pth.length ≤ 16 := by
    have := hg.low
    cases t <;> simp_all [Tri.Tr.low, Tri.Tr.pth]
  have HCM := Lib.hid (fun w => common_any t.pth p w (by omega) (by omega))
  have n0 := hr.kind
  have n1 := hr.path
  have n3 := hr.kid 0
  have HR := Lib.hid hr
  have HH := Lib.hid h
  have HSP : Hid (Tri.splits t p = true → ∀ w', Below w.heap.size w w' → Calls Tryz.prog 128 #[ptr g, .int .i64 (Nib.commonL t.pth p)] w' (MadeT w' F (splitT (Nib.commonL t.pth p) t))) := Lib.hid (fun hs w' hb =>
    split_any _ w' F (hF.size hb.size) (h.below hb) hk hg.firm hg.fits (by omega) hcl.1 (fun h2 => by
      cases t with
      | ext q u => simpa [Tri.splits, Tri.Tr.pth] using hs
      | _ => cases h2))
  obtain ⟨c, hc⟩ : ∃ c, Nib.commonL t.pth p = c := ⟨_, rfl⟩
  rw [hc] at htb hput hrk hpb hcl HCM HSP
  obtain ⟨q, hq⟩ : ∃ q, t.pth = q := ⟨_, rfl⟩
  rw [hq] at hcl hqs HCM n1
  have HRB : Hid (∀ w' vb, Below w.heap.size w w' → PAt w' F false tb vb → Calls Tryz.prog 93 #[vb, .string ⟨(p.drop c).toArray⟩, .string ⟨x.toArray⟩] w' (MadeT w' F (tb.put (p.drop c) x))) := Lib.hid (fun w' vb hb hp =>
    IH tb vb (p.drop c) x w' F (Nat.le_trans hrk hm) (hF.size hb.size) hp htr (Tri.fit_drop _ hf) (by simp; omega))
  have HBH : Hid (∀ w' v6, Below w.heap.size w w' → PAt w' F false (tb.put (p.drop c) x) v6 → Calls Tryz.prog 96 #[v6, .string ⟨(p.take c).toArray⟩] w' (MadeT w' F (t.put p x))) := Lib.hid (fun w' v6 hb hp => by
    rw [hput]
    exact behind_any (p.take c) w' F (hF.size hb.size) hp (Or.inr (Tri.put_nn _ _ _)) (by simp; omega) (by omega))
  have htail := cut_drop p c
  have htake := cut_take p c
  have z0 : (0 : Int) ≤ (c : Int) := by omega
  have z1 : (c : Int) ≤ (p.length : Int) := by omega
  obtain ⟨P1, hP1⟩ : ∃ P1, p.drop c = P1 := ⟨_, rfl⟩
  obtain ⟨P2, hP2⟩ : ∃ P2, p.take c = P2 := ⟨_, rfl⟩
  rw [hP1] at htail HRB HBH
  rw [hP2] at htake HBH
  have hkd : (t.kind : Int) ≠ 3 := by omega
  have e3 : ((t.kind : Int) == 3) = false := by rw [beq_eq_false_iff_ne]; exact hkd
  obtain ⟨b1, hb1⟩ : ∃ b, decide ((c : Int) < (q.length : Int)) = b := ⟨_, rfl⟩
  obtain ⟨b2, hb2⟩ : ∃ b, ((t.kind : Int) == 1) = b := ⟨_, rfl⟩
  obtain ⟨b3, hb3⟩ : ∃ b, decide ((c : Int) < (p.length : Int)) = b := ⟨_, rfl⟩
  have hsp : Tri.splits t p = (b1 || (b2 && b3)) := by
    subst hb1 hb2 hb3
    cases t with
    | nil => exact absurd trivial hnn
    | br y k => rcases hk with h | h <;> cases h
    | leaf q' y =>
      obtain rfl : q' = q := hq
      have hc2 : Nib.commonL q' p = c := hc
      simp only [Tri.splits, hc2, Tri.Tr.kind]
      rw [Bool.eq_iff_iff]; simp
    | ext q' y =>
      obtain rfl : q' = q := hq
      have hc2 : Nib.commonL q' p = c := hc
      simp only [Tri.splits, hc2, Tri.Tr.kind]
      rw [Bool.eq_iff_iff]; simp
  obtain ⟨kd, hkd2⟩ : ∃ kd, t.kind = kd := ⟨_, rfl⟩
  rw [hkd2] at n0 e3 hb2
  have hvk : PAt w F false (t.kid 0) (K 0) := (hkk 0).weak
  obtain ⟨vk, hvk2⟩ : ∃ vk, K 0 = vk := ⟨_, rfl⟩
  rw [hvk2] at n3 hvk
  have HVK := Lib.hid hvk
  have HTB := Lib.hid htb
  have HG : Hid (∀ w', Below w.heap.size w w' → w'.cell? ⟨g, 0, none⟩ = some (.int .i64 kd) ∧ w'.cell? ⟨g, 1, none⟩ = some (.string ⟨q.toArray⟩) ∧ w'.cell? ⟨g, 3, none⟩ = some vk) := Lib.hid (fun w' hb => by
    have k1 := hr.below hb
    have k3 := k1.kid 0
    rw [hvk2] at k3
    exact ⟨by rw [k1.kind, hkd2], by rw [k1.path, hq], k3⟩)
  have HSB : Hid (Tri.splits t p = (b1 || (b2 && b3))) := Lib.hid hsp
  unfold MadeT at HRB HBH HSP ⊢
  unfold ptr at HSP ⊢
  obtain ⟨TP, hTP⟩ : ∃ TP, t.put p x = TP := ⟨_, rfl⟩
  rw [hTP] at HBH ⊢
  clear h hg hf hl hm hcl hqs hput htr hrk hpb hr hkk IH hP1 hP2 hkd hsp hkd2 hvk hvk2 htb hc hq hTP hnn
  have hb1n : decide (c < q.length) = b1 := by rw [← hb1, decide_eq_decide]; omega
  have hb3n : decide (c < p.length) = b3 := by rw [← hb3, decide_eq_decide]; omega
  have hb2n : (kd == 1) = b2 := by rw [← hb2, Bool.eq_iff_iff]; simp; omega
  have HEND : Hid (∀ w', Below w.heap.size w w' → Below w.heap.size w w'.drew ∧ ∀ vb, PAt w' F false tb vb → PAt w'.drew F false tb vb) := Lib.hid (fun w' hb => ⟨hb.drew, fun vb hp => hp.below (Below.refl _ _).drew⟩)
  have HSPW : Hid (∀ b, Tri.splits t p = b → (b = true → (if Tri.splits t p then splitT c t else t.kid 0) = splitT c t) ∧ (b = false → (if Tri.splits t p then splitT c t else t.kid 0) = t.kid 0)) := Lib.hid (fun b hb => by rw [hb]; exact ⟨fun e => by rw [e]; rfl, fun e => by rw [e]; rfl⟩)
  clear hk
  cases b1 with
  | true =>
    replace HSP := Lib.hid (HSP.out HSB.out)
    replace HTB : Hid (tb = splitT c t) := Lib.hid (HTB.out.trans ((HSPW.out _ HSB.out).1 rfl))
    clear HSB HSPW
    go_enter Tryz.func93, Tryz.ntmps93
    go_wp2_with fail
    refine (HCM.out _).mono ?_
    rintro e w1 ⟨rfl, hbw1⟩
    obtain ⟨m0, m1, m3⟩ := HG.out _ hbw1
    have HB1 := Lib.hid hbw1
    clear hbw1
    go_wp2_with fail
    refine (HSP.out _ HB1.out).mono ?_
    rintro e w2 ⟨vb, rfl, hpb, hbs⟩
    have HB2 := Lib.hid (bchain HB1.out hbs)
    have HPB : Hid (PAt w2 F false tb vb) := Lib.hid (by rw [HTB.out]; exact hpb)
    clear hpb hbs m0 m1 m3
    go_upto_region 13 with fail
    obtain ⟨BD, PD0⟩ := HEND.out _ HB2.out
    have PD := PD0 _ HPB.out
    clear PD0
    go_region_held3 (fun _ => True) (trivial)
      (first | (go_at_call 93; refine (HRB.out _ vb ?_ ?_).mono ?_; (with_reducible exact BD); (with_reducible exact PD); rintro e w6 ⟨v6, rfl, hp6, hb6⟩; have hb6' := bchain BD hb6) | (go_at_call 96; refine (HBH.out _ v6 ?_ ?_).mono ?_; (with_reducible exact hb6'); (with_reducible exact hp6); rintro e w7 ⟨v7, rfl, hp7, hb7⟩; have hb7' := bchain hb6' hb7))
    all_goals
      go_wp2
      go_ret
      exact ⟨v7, rfl, hp7, hb7'⟩
  | false =>
    cases b2 with
    | false =>
      replace HTB : Hid (tb = t.kid 0) := Lib.hid (HTB.out.trans ((HSPW.out _ HSB.out).2 rfl))
      clear HSB HSPW HSP
      go_enter Tryz.func93, Tryz.ntmps93
      go_wp2_with fail
      refine (HCM.out _).mono ?_
      rintro e w1 ⟨rfl, hbw1⟩
      obtain ⟨m0, m1, m3⟩ := HG.out _ hbw1
      have HB1 := Lib.hid hbw1
      clear hbw1
      obtain ⟨vb, hvb⟩ : ∃ vb, vk = vb := ⟨_, rfl⟩
      rw [hvb] at m3
      have HPB : Hid (PAt w1 F false tb vb) := Lib.hid (by rw [HTB.out, ← hvb]; exact HVK.out.below HB1.out)
      clear hvb
      go_upto_region 13 with fail
      obtain ⟨BD, PD0⟩ := HEND.out _ HB1.out
      have PD := PD0 _ HPB.out
      clear PD0 m0 m1 m3
      go_region_held3 (fun _ => True) (trivial)
        (first | (go_at_call 93; refine (HRB.out _ vb ?_ ?_).mono ?_; (with_reducible exact BD); (with_reducible exact PD); rintro e w6 ⟨v6, rfl, hp6, hb6⟩; have hb6' := bchain BD hb6) | (go_at_call 96; refine (HBH.out _ v6 ?_ ?_).mono ?_; (with_reducible exact hb6'); (with_reducible exact hp6); rintro e w7 ⟨v7, rfl, hp7, hb7⟩; have hb7' := bchain hb6' hb7))
      all_goals
        go_wp2
        go_ret
        exact ⟨v7, rfl, hp7, hb7'⟩
    | true =>
      cases b3 with
      | false =>
        replace HTB : Hid (tb = t.kid 0) := Lib.hid (HTB.out.trans ((HSPW.out _ HSB.out).2 rfl))
        clear HSB HSPW HSP
        go_enter Tryz.func93, Tryz.ntmps93
        go_wp2_with fail
        refine (HCM.out _).mono ?_
        rintro e w1 ⟨rfl, hbw1⟩
        obtain ⟨m0, m1, m3⟩ := HG.out _ hbw1
        have HB1 := Lib.hid hbw1
        clear hbw1
        obtain ⟨vb, hvb⟩ : ∃ vb, vk = vb := ⟨_, rfl⟩
        rw [hvb] at m3
        have HPB : Hid (PAt w1 F false tb vb) := Lib.hid (by rw [HTB.out, ← hvb]; exact HVK.out.below HB1.out)
        clear hvb
        go_upto_region 13 with fail
        obtain ⟨BD, PD0⟩ := HEND.out _ HB1.out
        have PD := PD0 _ HPB.out
        clear PD0 m0 m1 m3
        go_region_held3 (fun _ => True) (trivial)
          (first | (go_at_call 93; refine (HRB.out _ vb ?_ ?_).mono ?_; (with_reducible exact BD); (with_reducible exact PD); rintro e w6 ⟨v6, rfl, hp6, hb6⟩; have hb6' := bchain BD hb6) | (go_at_call 96; refine (HBH.out _ v6 ?_ ?_).mono ?_; (with_reducible exact hb6'); (with_reducible exact hp6); rintro e w7 ⟨v7, rfl, hp7, hb7⟩; have hb7' := bchain hb6' hb7))
        all_goals
          go_wp2
          go_ret
          exact ⟨v7, rfl, hp7, hb7'⟩
      | true =>
        replace HSP := Lib.hid (HSP.out HSB.out)
        replace HTB : Hid (tb = splitT c t) := Lib.hid (HTB.out.trans ((HSPW.out _ HSB.out).1 rfl))
        clear HSB HSPW
        go_enter Tryz.func93, Tryz.ntmps93
        go_wp2_with fail
        refine (HCM.out _).mono ?_
        rintro e w1 ⟨rfl, hbw1⟩
        obtain ⟨m0, m1, m3⟩ := HG.out _ hbw1
        have HB1 := Lib.hid hbw1
        clear hbw1
        go_wp2_with fail
        refine (HSP.out _ HB1.out).mono ?_
        rintro e w2 ⟨vb, rfl, hpb, hbs⟩
        have HB2 := Lib.hid (bchain HB1.out hbs)
        have HPB : Hid (PAt w2 F false tb vb) := Lib.hid (by rw [HTB.out]; exact hpb)
        clear hpb hbs m0 m1 m3
        go_upto_region 13 with fail
        obtain ⟨BD, PD0⟩ := HEND.out _ HB2.out
        have PD := PD0 _ HPB.out
        clear PD0
        go_region_held3 (fun _ => True) (trivial)
          (first | (go_at_call 93; refine (HRB.out _ vb ?_ ?_).mono ?_; (with_reducible exact BD); (with_reducible exact PD); rintro e w6 ⟨v6, rfl, hp6, hb6⟩; have hb6' := bchain BD hb6) | (go_at_call 96; refine (HBH.out _ v6 ?_ ?_).mono ?_; (with_reducible exact hb6'); (with_reducible exact hp6); rintro e w7 ⟨v7, rfl, hp7, hb7⟩; have hb7' := bchain hb6' hb7))
        all_goals
          go_wp2
          go_ret
          exact ⟨v7, rfl, hp7, hb7'⟩
/-- with, of any tree. -/
theorem with_to (m : Nat) : WithTo m := by
  induction m using Nat.strongRecOn with
  | ind m IH =>
    intro t v p x w F hr hF h hg hf hl
    cases t with
    | nil =>
      have e : v = .pointer none := h
      subst e
      exact with_nil p x w F hF
    | leaf q y =>
      have hm : 2 * p.length + 1 ≤ m := hr
      exact with_else (IH (m - 1) (by omega)) p x w F (Or.inl rfl) (by omega) hF h hg hf hl
    | ext q u =>
      have hm : 2 * p.length + 1 ≤ m := hr
      exact with_else (IH (m - 1) (by omega)) p x w F (Or.inr rfl) (by omega) hF h hg hf hl
    | br y k =>
      cases p with
      | nil => exact with_here x w F hF h
      | cons b p =>
        have hm : 2 * (b :: p).length ≤ m := hr
        rw [List.length_cons] at hm
        exact with_below (IH (m - 1) (by omega)) b p x w F (by omega) hF h hg hf hl
theorem with_any {t : Tr} {v : Value} (p x : T) (w : World) (F : Fm) (hF : F.fresh w) (h : PAt w F false t v) (hg : Trim t) (hf : Nib.fitL p = true) (hl : p.length ≤ 16) :
    Calls Tryz.prog 93 #[v, .string ⟨p.toArray⟩, .string ⟨x.toArray⟩] w (MadeT w F (t.put p x)) := with_to _ t v p x w F (Nat.le_refl _) hF h hg hf hl
end Go.Proofs.YtjfefphgikncnaaGreatDoor
namespace Go.Proofs.YtjfefphgikncnaaGreatDoor
open Go.RowKit
open Sto (T)
open Tri (Tr Ok upd ix hb lay splitT Trim rank)

def within (t : Tr) : Prop := ∀ x ∈ t.items, x.1.length ≤ 16
theorem within_ext {q : T} {u : Tr} (h : within (.ext q u)) : within u := fun x hx => by
  have := h (q ++ x.1, x.2) (Tri.mem_behind.2 ⟨x.1, hx, rfl⟩)
  simp at this; omega
theorem within_br {y : T} {k : Fin 16 → Tr} (h : within (.br y k)) (i : Fin 16) : within (k i) := fun x hx => by
  have := h (hb i :: x.1, x.2) (Tri.mem_br.2 (Or.inr ⟨i, x.1, rfl, hx⟩))
  simp at this; omega
theorem low_of {t : Tr} (h : t.canon) (hs : within t) : t.low := by
  induction t with
  | nil => trivial
  | leaf p v => exact hs (p, v) (List.mem_singleton.2 rfl)
  | ext p t ih =>
    have ht : ¬ t.isNil := by have := h.2.1; cases t <;> simp_all [Tri.Tr.isBr, Tri.Tr.isNil]
    have hne : t.items ≠ [] := fun e => ht ((Tri.items_nil h.2.2).1 e)
    obtain ⟨a, l, e⟩ := List.exists_cons_of_ne_nil hne
    refine ⟨?_, ih h.2.2 (within_ext hs)⟩
    have := hs (p ++ a.1, a.2) (Tri.mem_behind.2 ⟨a.1, by rw [e]; exact List.mem_cons_self .., rfl⟩)
    simp at this; omega
  | br v k ih => exact fun i => ih i (h.1 i) (within_br hs i)
theorem del_within {t : Tr} {p : T} (hc : t.canon) (hf : t.fits) (hp : Nib.fitL p = true) (hg : t.get p ≠ none) (h : within t) : within (t.del p) := fun x hx => by
  rw [Tri.del_items hc hf hp hg] at hx
  exact h x (Tri.del_mem hx)
def WithoutTo (t : Tr) : Prop := ∀ (v : Value) (p : T) (w : World) (F : Fm), F.fresh w → PAt w F false t v → t.canon → t.fits → within t → Nib.fitL p = true → p.length ≤ 16 → t.get p ≠ none →
  Calls Tryz.prog 69 #[v, .string ⟨p.toArray⟩] w (MadeT w F (t.del p))

set_option maxRecDepth 100000 in
theorem without_leaf (q x p : T) {v : Value} (w : World) (F : Fm) (h : PAt w F false (.leaf q x) v) :
    Calls Tryz.prog 69 #[v, .string ⟨p.toArray⟩] w (MadeT w F .nil) := by
  obtain ⟨g, s', K, rfl, -, -, hr, hk⟩ := h.row id
  have n0 : w.cell? ⟨g, 0, none⟩ = some (.int .i64 1) := hr.kind
  unfold MadeT ptr
  clear h hr hk
  go_enter Tryz.func69, Tryz.ntmps69
  go_wp2
  go_ret
  exact ⟨_, rfl, rfl, Below.refl _ _⟩
set_option maxRecDepth 100000 in
set_option maxHeartbeats 2000000 in
theorem without_ext {u : Tr} (IH : WithoutTo u) {q : T} {v : Value} (p : T) (w : World) (F : Fm) (hF : F.fresh w) (h : PAt w F false (.ext q u) v) (hc : (Tr.ext q u).canon) (hf : (Tr.ext q u).fits) (hlo : within (.ext q u)) (hp : Nib.fitL p = true) (hl : p.length ≤ 16) (hg : (Tr.ext q u).get p ≠ none) :
    Calls Tryz.prog 69 #[v, .string ⟨p.toArray⟩] w (MadeT w F (lay q (u.del (p.drop q.length)))) := by
  obtain ⟨g, s', K, rfl, -, -, hr, hk⟩ := h.row id
  have hk0 : PAt w F s' u (K 0) := by have := hk 0; simpa [Tri.Tr.kid] using this
  have hq : p.take q.length = q ∧ u.get (p.drop q.length) ≠ none := by
    simp only [Tri.Tr.get] at hg
    split at hg
    · rename_i e; exact ⟨e, hg⟩
    · exact absurd rfl hg
  have hql : q.length ≤ p.length := by have := congrArg List.length hq.1; simp at this; omega
  obtain ⟨g1, g2, g3, g4⟩ := Tri.del_good hc.2.2 hf.2 (Tri.fit_drop q.length hp) hq.2
  have hdl : (u.del (p.drop q.length)).low := low_of g1 (del_within hc.2.2 hf.2 (Tri.fit_drop q.length hp) hq.2 (within_ext hlo))
  have HI : Hid (∀ w', Below w.heap.size w w' → Calls Tryz.prog 69 #[K 0, .string ⟨(p.drop q.length).toArray⟩] w' (MadeT w' F (u.del (p.drop q.length)))) := Lib.hid (fun w' hb =>
    IH (K 0) _ w' F (hF.size hb.size) (hk0.weak.below hb) hc.2.2 hf.2 (within_ext hlo) (Tri.fit_drop _ hp) (by simp; omega) hq.2)
  have HBH : Hid (∀ w' v6, Below w.heap.size w w' → PAt w' F false (u.del (p.drop q.length)) v6 → Calls Tryz.prog 96 #[v6, .string ⟨q.toArray⟩] w' (MadeT w' F (lay q (u.del (p.drop q.length))))) := Lib.hid (fun w' v6 hb hp6 =>
    behind_any q w' F (hF.size hb.size) hp6 (Or.inr (g3 hc.2.1)) (by omega) (by
      cases hd : u.del (p.drop q.length) <;> simp_all [Tri.Tr.low, Tri.Tr.pth] <;> omega))
  have HG : Hid (∀ w', Below w.heap.size w w' → w'.cell? ⟨g, 0, none⟩ = some (.int .i64 2) ∧ w'.cell? ⟨g, 1, none⟩ = some (.string ⟨q.toArray⟩) ∧ w'.cell? ⟨g, 3, none⟩ = some (K 0)) := Lib.hid (fun w' hb => by
    have k1 := hr.below hb
    exact ⟨k1.kind, k1.path, k1.kid 0⟩)
  have htail := cut_drop p q.length
  have z0 : (0 : Int) ≤ (q.length : Int) := by omega
  have z1 : (q.length : Int) ≤ (p.length : Int) := by omega
  obtain ⟨vk, hvk⟩ : ∃ vk, K 0 = vk := ⟨_, rfl⟩
  obtain ⟨P1, hP1⟩ : ∃ P1, p.drop q.length = P1 := ⟨_, rfl⟩
  obtain ⟨ud, hud⟩ : ∃ ud, u.del (p.drop q.length) = ud := ⟨_, rfl⟩
  rw [hvk] at HI HG
  rw [hud] at HI HBH ⊢
  rw [hP1] at HI htail
  obtain ⟨c0, c1, c2⟩ := HG.out _ (Below.refl _ _)
  unfold MadeT at HI HBH ⊢
  unfold ptr
  clear h hr hk hk0 hq hql g1 g2 g3 g4 hdl hc hf hlo hp hl hg IH hvk hP1 hud c1 c2
  go_enter Tryz.func69, Tryz.ntmps69
  go_upto_region 5 with fail
  have BD : Below w.heap.size w w.drew := (Below.refl _ _).drew
  obtain ⟨-, d1, d2⟩ := HG.out _ BD
  go_region_held3 (fun w' => w'.cell? ⟨g, 1, none⟩ = some (.string ⟨q.toArray⟩) ∧ w'.cell? ⟨g, 3, none⟩ = some vk)
    ((first | (with_reducible exact ⟨d1, d2⟩) | (refine (HG.out _ ?_).2; with_reducible assumption)))
    (first | (go_at_call 69; refine (HI.out _ ?_).mono ?_; (with_reducible exact BD); rintro e w6 ⟨v6, rfl, hp6, hb6⟩; have hb6' := bchain BD hb6) | (go_at_call 96; refine (HBH.out _ v6 ?_ ?_).mono ?_; (with_reducible exact hb6'); (with_reducible exact hp6); rintro e w7 ⟨v7, rfl, hp7, hb7⟩; have hb7' := bchain hb6' hb7))
  all_goals
    go_wp2
    go_ret
    exact ⟨v7, rfl, hp7, hb7'⟩
set_option maxRecDepth 100000 in
set_option maxHeartbeats 2000000 in
theorem without_here {y : T} {k : Fin 16 → Tr} {v : Value} (w : World) (F : Fm) (hF : F.fresh w) (h : PAt w F false (.br y k) v) (hlo : ∀ i, (k i).low) :
    Calls Tryz.prog 69 #[v, .string ⟨#[]⟩] w (MadeT w F (Tri.narrowT [] k)) := by
  obtain ⟨g, s', K, rfl, -, -, hr, hk⟩ := h.row id
  have HO := Lib.hid (open_any w hr (fun i => (hk i).oneCell))
  have n0 : w.cell? ⟨g, 0, none⟩ = some (.int .i64 3) := hr.kind
  have HK := Lib.hid hk
  have HLO := Lib.hid hlo
  unfold MadeT
  unfold ptr at HO ⊢
  clear h hr hk
  go_enter Tryz.func69, Tryz.ntmps69
  go_wp2_with fail
  refine HO.out.mono ?_
  rintro e w1 ⟨rfl, hr1, hb1⟩
  have m2 := hr1.val
  have f2 := hr1.free 2
  have HR1 := Lib.hid hr1
  have HB := Lib.hid hb1
  clear hr1 hb1
  go_wp2_with fail
  have hb2 := HB.out.setCell (p := ⟨w.heap.size, 2, none⟩) (Nat.le_refl _) (.string ⟨#[]⟩)
  have hq2 : PAt (w1.setCell ⟨w.heap.size, 2, none⟩ (.string ⟨#[]⟩)) F false (.br [] k) (ptr w.heap.size) := PAt.new (K := K) id (hF _ (Nat.le_refl _)) (HR1.out.setVal []) (fun i => ((HK.out i).weak).below hb2)
  have HN := Lib.hid (narrow_any _ F (hF.size hb2.size) hq2 HLO.out)
  unfold MadeT ptr at HN
  refine HN.out.mono ?_
  rintro e w3 ⟨v3, rfl, hp3, hb3⟩
  go_wp2
  go_ret
  exact ⟨v3, rfl, hp3, bchain hb2 hb3⟩
set_option maxRecDepth 100000 in
set_option maxHeartbeats 2000000 in
theorem without_below1 {y : T} {k : Fin 16 → Tr} {v : Value} (b : UInt8) (IH : WithoutTo (k (ix b))) (p : T) (w : World) (F : Fm) (hF : F.fresh w) (h : PAt w F false (.br y k) v) (hc : (Tr.br y k).canon) (hft : (Tr.br y k).fits) (hlo : within (.br y k)) (hf : Nib.fitL (b :: p) = true) (hl : (b :: p).length ≤ 16) (hg : (Tr.br y k).get (b :: p) ≠ none) (hnl : ¬ ((k (ix b)).del p).isNil) :
    Calls Tryz.prog 69 #[v, .string ⟨(b :: p).toArray⟩] w (MadeT w F (Tri.narrowT y (upd k (ix b) ((k (ix b)).del p)))) := by
  obtain ⟨g, s', K, rfl, -, -, hr, hk⟩ := h.row id
  have HO := Lib.hid (open_any w hr (fun i => (hk i).oneCell))
  have n0 : w.cell? ⟨g, 0, none⟩ = some (.int .i64 3) := hr.kind
  have HK : Hid (∀ i, PAt w F s' (k i) (K i)) := Lib.hid hk
  have HR := Lib.hid hr
  obtain ⟨hb1, hfp⟩ := Tri.fit_cons.1 hf
  have hix := ix_val hb1
  have hpl : p.length ≤ 16 := by simp at hl; omega
  have hgk : (k (ix b)).get p ≠ none := by simpa only [Tri.Tr.get, if_pos hb1] using hg
  obtain ⟨ud, hud⟩ : ∃ ud, (k (ix b)).del p = ud := ⟨_, rfl⟩
  have hlu : ∀ i, (upd k (ix b) ud i).low := fun i => by
    unfold upd
    split
    · rw [← hud]
      exact low_of (Tri.del_good (hc.1 _) (hft _) hfp hgk).1 (del_within (hc.1 _) (hft _) hfp hgk (within_br hlo _))
    · exact low_of (hc.1 i) (within_br hlo i)
  have HLU := Lib.hid hlu
  have HI : Hid (∀ w', Below w.heap.size w w' → w.heap.size < w'.heap.size → Calls Tryz.prog 69 #[K (ix b), .string ⟨p.toArray⟩] w' fun e w'' => ∃ g6, e = .returned (.pointer (some ⟨g6, 0, none⟩)) ∧ PAt w'' (F.off w.heap.size) false ud (.pointer (some ⟨g6, 0, none⟩)) ∧ Below w'.heap.size w' w'') := Lib.hid (fun w' hb hs =>
    (IH (K (ix b)) p w' _ ((hF.size hb.size).off hs) (((hk (ix b)).weak.new_off (Nat.le_refl _)).below hb) (hc.1 _) (hft _) (within_br hlo _) hfp hpl hgk).mono fun e w'' ⟨v6, e6, hp6, hb6⟩ => by
      rw [hud] at hp6
      obtain ⟨g6, rfl⟩ := hp6.ptr (by rw [← hud]; exact hnl)
      exact ⟨g6, e6, hp6, hb6⟩)
  have hbyte : ∀ hh, (⟨(b :: p).toArray⟩ : ByteArray)[0]'hh = b := byte_drop rfl
  have htail : (⟨(b :: p).toArray⟩ : ByteArray).extract 1 (b :: p).length = ⟨p.toArray⟩ := tail_drop (n := 0) rfl
  have hne : ((b :: p : List UInt8) == []) = false := rfl
  have z0 : (0 : Int) < ((b :: p).length : Int) := by rw [List.length_cons]; omega
  have z1 : (1 : Int) ≤ ((b :: p).length : Int) := by rw [List.length_cons]; omega
  have z6 : (0 : Int) ≤ (b.toNat : Int) := by omega
  have z7 : (b.toNat : Int) < 16 := by omega
  have HIX := Lib.hid hix
  obtain ⟨vk, hvk⟩ : ∃ vk, K (ix b) = vk := ⟨_, rfl⟩
  rw [hvk] at HI
  have HVK := Lib.hid hvk
  obtain ⟨P, hP⟩ : ∃ P, b :: p = P := ⟨_, rfl⟩
  rw [hP] at hbyte htail hne z0 z1 ⊢
  rw [hud]
  unfold MadeT
  unfold ptr at HO ⊢
  clear h hr hk hc hft hlo hg hf hl hb1 hfp hix hpl IH hvk hP hgk hlu hud hnl
  go_enter Tryz.func69, Tryz.ntmps69
  go_wp2_with fail
  refine HO.out.mono ?_
  rintro e w1 ⟨rfl, hr1, hb1⟩
  obtain ⟨q, hq⟩ : ∃ q, w.heap.size = q := ⟨_, rfl⟩
  have HSZ : Hid (q < w1.heap.size) := Lib.hid (by rw [← hq]; exact lt_of_heap hr1)
  have HGQ : Hid (g < q) := Lib.hid (by rw [← hq]; exact lt_of_heap HR.out)
  have HR1 := Lib.hid hr1
  have HB1 := Lib.hid hb1
  rw [hq] at HR1 HB1 HI ⊢
  have HQ := Lib.hid hq
  have HN1 : Hid (∀ w', Below w1.heap.size w1 w' → w'.cell? ⟨g, 3 + b.toNat, none⟩ = some vk ∧ w'.cell? ⟨q, 3 + b.toNat, none⟩ = some vk ∧ w'.frozen? ⟨q, 3 + b.toNat, none⟩ = false) := Lib.hid (fun w' hb => by
    have k1 := (HR.out.below (by rw [HQ.out]; exact HB1.out)).below hb
    have k2 := HR1.out.below hb
    have e1 := k1.kid (ix b)
    have e2 := k2.kid (ix b)
    rw [HIX.out, HVK.out] at e1 e2
    exact ⟨e1, e2, k2.free _⟩)
  have HK1 : Hid (∀ w' v, Below w1.heap.size w1 w' → (w'.setCell ⟨q, 3 + b.toNat, none⟩ v).cell? ⟨g, 3 + b.toNat, none⟩ = some vk) := Lib.hid (fun w' v hb => keep_cell (HN1.out w' hb).1 (Nat.ne_of_lt HGQ.out))
  have HI2 : Hid (∀ w', Below w1.heap.size w1 w' → Calls Tryz.prog 69 #[vk, .string ⟨p.toArray⟩] w' fun e w'' => ∃ g6, e = .returned (.pointer (some ⟨g6, 0, none⟩)) ∧ PAt w'' (F.off q) false ud (.pointer (some ⟨g6, 0, none⟩)) ∧ Below w1.heap.size w1 w'') := Lib.hid (fun w' hb => (HI.out w' (HB1.out.trans (hb.mono (Nat.le_of_lt HSZ.out))) (Nat.lt_of_lt_of_le HSZ.out hb.size)).mono fun e w'' ⟨g6, e6, hp6, hb6⟩ => ⟨g6, e6, hp6, hb.trans (hb6.mono hb.size)⟩)
  have HEND : Hid (∀ w6 v6, Below w1.heap.size w1 w6 → PAt w6 (F.off q) false ud v6 → Below w.heap.size w (w6.setCell ⟨q, 3 + b.toNat, none⟩ v6) ∧ PAt (w6.setCell ⟨q, 3 + b.toNat, none⟩ v6) F false (.br y (upd k (ix b) ud)) (ptr q)) := Lib.hid (fun w6 v6 hb6 hp6 => by
    have hbq : Below w.heap.size w w6 := by rw [HQ.out]; exact HB1.out.trans (hb6.mono (Nat.le_of_lt HSZ.out))
    refine ⟨by rw [← HQ.out]; exact hbq.setCell (p := ⟨w.heap.size, _, none⟩) (Nat.le_refl _) _, PAt.new (K := updK K (ix b) v6) id (hF _ (Nat.le_of_eq HQ.out)) ?_ (fun i => ?_)⟩
    · have := (HR1.out.below hb6).setKid (ix b) v6
      rw [HIX.out] at this
      exact this
    · simp only [Tri.Tr.kid, updK, Tri.upd]
      split
      · exact hp6.off _ _
      · exact (((HK.out i).weak.new_off (Nat.le_of_eq HQ.out)).below hbq).off _ _)
  clear hr1 hb1 hq HI
  go_upto_region 9 with fail
  have BD : Below w1.heap.size w1 w1.drew := (Below.refl _ _).drew
  obtain ⟨c1, c2, c3⟩ := HN1.out _ BD
  go_region_held3 (fun w' => w'.cell? ⟨g, 3 + b.toNat, none⟩ = some vk)
    ((first | (with_reducible exact c1) | (with_reducible exact d1) | (refine HK1.out _ _ ?_; with_reducible assumption)))
    ((go_at_call 69; refine (HI2.out _ ?_).mono ?_; (with_reducible assumption); rintro e w6 ⟨g6, rfl, hp6, hb6⟩; obtain ⟨d1, d2, d3⟩ := HN1.out _ hb6))
  all_goals
    obtain ⟨hbe, hpe⟩ := HEND.out _ _ hb6 hp6
    have HN := Lib.hid (narrow_any _ F (hF.size hbe.size) hpe HLU.out)
    unfold MadeT ptr at HN
    go_wp2_with fail
    refine HN.out.mono ?_
    rintro e w8 ⟨v8, rfl, hp8, hb8⟩
    go_wp2
    go_ret
    exact ⟨v8, rfl, hp8, bchain hbe hb8⟩
set_option maxRecDepth 100000 in
set_option maxHeartbeats 2000000 in
theorem without_below0 {y : T} {k : Fin 16 → Tr} {v : Value} (b : UInt8) (IH : WithoutTo (k (ix b))) (p : T) (w : World) (F : Fm) (hF : F.fresh w) (h : PAt w F false (.br y k) v) (hc : (Tr.br y k).canon) (hft : (Tr.br y k).fits) (hlo : within (.br y k)) (hf : Nib.fitL (b :: p) = true) (hl : (b :: p).length ≤ 16) (hg : (Tr.br y k).get (b :: p) ≠ none) (hnl : ((k (ix b)).del p).isNil) :
    Calls Tryz.prog 69 #[v, .string ⟨(b :: p).toArray⟩] w (MadeT w F (Tri.narrowT y (upd k (ix b) ((k (ix b)).del p)))) := by
  obtain ⟨g, s', K, rfl, -, -, hr, hk⟩ := h.row id
  have HO := Lib.hid (open_any w hr (fun i => (hk i).oneCell))
  have n0 : w.cell? ⟨g, 0, none⟩ = some (.int .i64 3) := hr.kind
  have HK : Hid (∀ i, PAt w F s' (k i) (K i)) := Lib.hid hk
  have HR := Lib.hid hr
  obtain ⟨hb1, hfp⟩ := Tri.fit_cons.1 hf
  have hix := ix_val hb1
  have hpl : p.length ≤ 16 := by simp at hl; omega
  have hgk : (k (ix b)).get p ≠ none := by simpa only [Tri.Tr.get, if_pos hb1] using hg
  obtain ⟨ud, hud⟩ : ∃ ud, (k (ix b)).del p = ud := ⟨_, rfl⟩
  have hlu : ∀ i, (upd k (ix b) ud i).low := fun i => by
    unfold upd
    split
    · rw [← hud]
      exact low_of (Tri.del_good (hc.1 _) (hft _) hfp hgk).1 (del_within (hc.1 _) (hft _) hfp hgk (within_br hlo _))
    · exact low_of (hc.1 i) (within_br hlo i)
  have HLU := Lib.hid hlu
  have HI : Hid (∀ w', Below w.heap.size w w' → w.heap.size < w'.heap.size → Calls Tryz.prog 69 #[K (ix b), .string ⟨p.toArray⟩] w' fun e w'' => e = .returned (.pointer none) ∧ PAt w'' (F.off w.heap.size) false ud (.pointer none) ∧ Below w'.heap.size w' w'') := Lib.hid (fun w' hb hs =>
    (IH (K (ix b)) p w' _ ((hF.size hb.size).off hs) (((hk (ix b)).weak.new_off (Nat.le_refl _)).below hb) (hc.1 _) (hft _) (within_br hlo _) hfp hpl hgk).mono fun e w'' ⟨v6, e6, hp6, hb6⟩ => by
      rw [hud] at hp6
      have hv6 : v6 = .pointer none := by rw [hud] at hnl; rw [Tri.isNil_eq hnl] at hp6; exact hp6
      subst hv6
      exact ⟨e6, hp6, hb6⟩)
  have hbyte : ∀ hh, (⟨(b :: p).toArray⟩ : ByteArray)[0]'hh = b := byte_drop rfl
  have htail : (⟨(b :: p).toArray⟩ : ByteArray).extract 1 (b :: p).length = ⟨p.toArray⟩ := tail_drop (n := 0) rfl
  have hne : ((b :: p : List UInt8) == []) = false := rfl
  have z0 : (0 : Int) < ((b :: p).length : Int) := by rw [List.length_cons]; omega
  have z1 : (1 : Int) ≤ ((b :: p).length : Int) := by rw [List.length_cons]; omega
  have z6 : (0 : Int) ≤ (b.toNat : Int) := by omega
  have z7 : (b.toNat : Int) < 16 := by omega
  have HIX := Lib.hid hix
  obtain ⟨vk, hvk⟩ : ∃ vk, K (ix b) = vk := ⟨_, rfl⟩
  rw [hvk] at HI
  have HVK := Lib.hid hvk
  obtain ⟨P, hP⟩ : ∃ P, b :: p = P := ⟨_, rfl⟩
  rw [hP] at hbyte htail hne z0 z1 ⊢
  rw [hud]
  unfold MadeT
  unfold ptr at HO ⊢
  clear h hr hk hc hft hlo hg hf hl hb1 hfp hix hpl IH hvk hP hgk hlu hud hnl
  go_enter Tryz.func69, Tryz.ntmps69
  go_wp2_with fail
  refine HO.out.mono ?_
  rintro e w1 ⟨rfl, hr1, hb1⟩
  obtain ⟨q, hq⟩ : ∃ q, w.heap.size = q := ⟨_, rfl⟩
  have HSZ : Hid (q < w1.heap.size) := Lib.hid (by rw [← hq]; exact lt_of_heap hr1)
  have HGQ : Hid (g < q) := Lib.hid (by rw [← hq]; exact lt_of_heap HR.out)
  have HR1 := Lib.hid hr1
  have HB1 := Lib.hid hb1
  rw [hq] at HR1 HB1 HI ⊢
  have HQ := Lib.hid hq
  have HN1 : Hid (∀ w', Below w1.heap.size w1 w' → w'.cell? ⟨g, 3 + b.toNat, none⟩ = some vk ∧ w'.cell? ⟨q, 3 + b.toNat, none⟩ = some vk ∧ w'.frozen? ⟨q, 3 + b.toNat, none⟩ = false) := Lib.hid (fun w' hb => by
    have k1 := (HR.out.below (by rw [HQ.out]; exact HB1.out)).below hb
    have k2 := HR1.out.below hb
    have e1 := k1.kid (ix b)
    have e2 := k2.kid (ix b)
    rw [HIX.out, HVK.out] at e1 e2
    exact ⟨e1, e2, k2.free _⟩)
  have HK1 : Hid (∀ w' v, Below w1.heap.size w1 w' → (w'.setCell ⟨q, 3 + b.toNat, none⟩ v).cell? ⟨g, 3 + b.toNat, none⟩ = some vk) := Lib.hid (fun w' v hb => keep_cell (HN1.out w' hb).1 (Nat.ne_of_lt HGQ.out))
  have HI2 : Hid (∀ w', Below w1.heap.size w1 w' → Calls Tryz.prog 69 #[vk, .string ⟨p.toArray⟩] w' fun e w'' => e = .returned (.pointer none) ∧ PAt w'' (F.off q) false ud (.pointer none) ∧ Below w1.heap.size w1 w'') := Lib.hid (fun w' hb => (HI.out w' (HB1.out.trans (hb.mono (Nat.le_of_lt HSZ.out))) (Nat.lt_of_lt_of_le HSZ.out hb.size)).mono fun e w'' ⟨e6, hp6, hb6⟩ => ⟨e6, hp6, hb.trans (hb6.mono hb.size)⟩)
  have HEND : Hid (∀ w6 v6, Below w1.heap.size w1 w6 → PAt w6 (F.off q) false ud v6 → Below w.heap.size w (w6.setCell ⟨q, 3 + b.toNat, none⟩ v6) ∧ PAt (w6.setCell ⟨q, 3 + b.toNat, none⟩ v6) F false (.br y (upd k (ix b) ud)) (ptr q)) := Lib.hid (fun w6 v6 hb6 hp6 => by
    have hbq : Below w.heap.size w w6 := by rw [HQ.out]; exact HB1.out.trans (hb6.mono (Nat.le_of_lt HSZ.out))
    refine ⟨by rw [← HQ.out]; exact hbq.setCell (p := ⟨w.heap.size, _, none⟩) (Nat.le_refl _) _, PAt.new (K := updK K (ix b) v6) id (hF _ (Nat.le_of_eq HQ.out)) ?_ (fun i => ?_)⟩
    · have := (HR1.out.below hb6).setKid (ix b) v6
      rw [HIX.out] at this
      exact this
    · simp only [Tri.Tr.kid, updK, Tri.upd]
      split
      · exact hp6.off _ _
      · exact (((HK.out i).weak.new_off (Nat.le_of_eq HQ.out)).below hbq).off _ _)
  clear hr1 hb1 hq HI
  go_upto_region 9 with fail
  have BD : Below w1.heap.size w1 w1.drew := (Below.refl _ _).drew
  obtain ⟨c1, c2, c3⟩ := HN1.out _ BD
  go_region_held3 (fun w' => w'.cell? ⟨g, 3 + b.toNat, none⟩ = some vk)
    ((first | (with_reducible exact c1) | (with_reducible exact d1) | (refine HK1.out _ _ ?_; with_reducible assumption)))
    ((go_at_call 69; refine (HI2.out _ ?_).mono ?_; (with_reducible assumption); rintro e w6 ⟨rfl, hp6, hb6⟩; obtain ⟨d1, d2, d3⟩ := HN1.out _ hb6))
  all_goals
    obtain ⟨hbe, hpe⟩ := HEND.out _ _ hb6 hp6
    have HN := Lib.hid (narrow_any _ F (hF.size hbe.size) hpe HLU.out)
    unfold MadeT ptr at HN
    go_wp2_with fail
    refine HN.out.mono ?_
    rintro e w8 ⟨v8, rfl, hp8, hb8⟩
    go_wp2
    go_ret
    exact ⟨v8, rfl, hp8, bchain hbe hb8⟩
/-- without, of any tree. -/
theorem without_to (t : Tr) : WithoutTo t := by
  induction t with
  | nil => exact fun v p w F _ _ _ _ _ _ _ hg => absurd rfl hg
  | leaf q x => exact fun v p w F _ h _ _ _ _ _ _ => without_leaf q x p w F h
  | ext q u ih => exact fun v p w F hF h hc hf hlo hp hl hg => without_ext ih p w F hF h hc hf hlo hp hl hg
  | br y k ih =>
    intro v p w F hF h hc hf hlo hp hl hg
    cases p with
    | nil => exact without_here w F hF h (fun i => low_of (hc.1 i) (within_br hlo i))
    | cons b p =>
      by_cases hnl : ((k (ix b)).del p).isNil
      · exact without_below0 b (ih _) p w F hF h hc hf hlo hp hl hg hnl
      · exact without_below1 b (ih _) p w F hF h hc hf hlo hp hl hg hnl
end Go.Proofs.YtjfefphgikncnaaGreatDoor
namespace Go.Proofs.YtjfefphgikncnaaGreatDoor
open Go.RowKit
open Sto (T)
open Tri (Tr Ok upd ix hb lay splitT Trim rank)
open Go.Proofs.YtjfefphgikncnaaGreatDoor.Nd (N)

/-- A tree as a trie may have it, sealed. -/
structure Sealed (w : World) (t : Tr) (v : Value) : Prop where
  at_ : PAt w (Fm.from 0) true t v
  ok : Ok t
  within : within t
  few : ∀ p, (t.spots Nd.sumS p).length ≤ 100000
theorem Sealed.below {w w' : World} {t : Tr} {v : Value} (h : Sealed w t v) (hb : Below w.heap.size w w') : Sealed w' t v := ⟨h.at_.below hb, h.ok, h.within, h.few⟩
theorem visits_le (want : T → Bool) (t : Tr) (p : T) : (t.visits want p).length ≤ (t.spots Nd.sumS p).length := by
  induction t generalizing p with
  | nil => exact Nat.le_refl _
  | leaf q v => exact Nat.le_refl _
  | ext q t ih =>
    rw [Tri.Tr.visits, Tri.Tr.spots, List.length_cons, List.length_cons]
    split
    · exact Nat.succ_le_succ (ih _)
    · simp
  | br v k ih =>
    rw [Tri.Tr.visits, Tri.Tr.spots, List.length_cons, List.length_cons]
    split
    · refine Nat.succ_le_succ ?_
      have : ∀ l : List (Fin 16), (l.flatMap fun i => (k i).visits want (p ++ [hb i])).length ≤ (l.flatMap fun i => (k i).spots Nd.sumS (p ++ [hb i])).length := fun l => by
        induction l with
        | nil => exact Nat.le_refl _
        | cons i l ihl =>
          rw [List.flatMap_cons, List.flatMap_cons, List.length_append, List.length_append]
          exact Nat.add_le_add (ih i _) ihl
      exact this _
    · simp
set_option maxRecDepth 100000 in
theorem texts_visits {w : World} {id : Nat} {wc : Array Value} {want : T → Bool} (hW : Wants w id wc want) :
    Visits w (Fm.from 0) 75 #[.pointer (some ⟨w.heap.size, 0, none⟩), .pointer (some ⟨w.heap.size + 1, 0, none⟩)] want (fun w' L => TextsI (w.heap.size + 2) (w.heap.size + 1) w.heap.size (.func (.func id) #[] wc) want w' L ∧ w.heap.size + 2 ≤ w'.heap.size) where
  call := fun _ _ => rfl
  keep := fun w' w'' L ⟨⟨z, h1, h2, h3⟩, h4⟩ hb => ⟨⟨z, (hb.block _ (lt_of_heap h1)).trans h1, (hb.block _ (lt_of_heap h2)).trans h2, h3.below hb⟩, Nat.le_trans h4 hb.size⟩
  step := fun w' L p t v hlen hb hI h hn ho hf hl => by
    have := texts_step hW (F := Fm.from 0) (w.heap.size + 2) (w.heap.size + 1) w.heap.size ⟨by omega, by omega, by omega⟩ (by omega) w' L p t v hlen hb hI.2 hI.1 h hn ho hf (by
      have := pth_len ho hn hl; omega)
    refine this.mono fun e w'' ⟨h1, h2, h3⟩ => ⟨h1, ⟨h2, ?_⟩, h3⟩
    obtain ⟨z, q1, _⟩ := h2
    have := lt_of_heap q1
    omega
def TextsPost (w : World) (L : List T) (e : Ending) (w' : World) : Prop := ∃ z, e = .returned z ∧ Own w' w.heap.size z L ∧ Below w.heap.size w w'
set_option maxRecDepth 100000 in
set_option maxHeartbeats 2000000 in
theorem texts_any {g : Nat} {t : Tr} {top n : Value} {id : Nat} {wc : Array Value} {want : T → Bool} (w : World) (hg : w.heap[g]? = some (.cells #[top, n] 82 (0, 0))) (hs : Sealed w t top) (hW : Wants w id wc want) (hd : Down want) :
    Calls Tryz.prog 45 #[ptr g, .func (.func id) #[] wc] w (TextsPost w (wantedT want t)) := by
  unfold TextsPost
  have hmf : ∀ (fn : Fn) (first cap : Array Value) (w : World), (Instr.makeFunc fn first cap).run Tryz.prog w = .ok (.func fn first cap) w := fun _ _ _ _ => rfl
  have hb1 : Below w.heap.size w ((w.alloc (.cells #[.func (.func id) #[] wc] 90)).alloc (.cells #[.slice none 0 0] 28)) := ((Below.refl _ w).alloc (Nat.le_refl _) _).alloc (by simp) _
  have c0 : ((w.alloc (.cells #[.func (.func id) #[] wc] 90)).alloc (.cells #[.slice none 0 0] 28)).cell? ⟨g, 0, none⟩ = some top := by
    rw [cell_of_row _ g 0 _ _ _ ((hb1.block g (lt_of_heap hg)).trans hg)]; rfl
  have hI0 : TextsI (w.heap.size + 2) (w.heap.size + 1) w.heap.size (.func (.func id) #[] wc) want ((w.alloc (.cells #[.func (.func id) #[] wc] 90)).alloc (.cells #[.slice none 0 0] 28)) [] :=
    ⟨_, heap_new_at _ _ _ (by simp), heap_old_at _ (heap_alloc_new w _), Own.nil _ _⟩
  have HWK := Lib.hid (walk_to (texts_visits hW) t _ [] [] top (by
    have := visits_le want t []
    have := hs.few []
    simp; omega) hb1 ⟨hI0, by simp⟩ hs.at_ hs.ok rfl (fun x hx => by
      have := hs.within x hx
      simpa using this))
  have HWT := Lib.hid (wanted_texts hd t)
  rw [List.nil_append] at HWK
  unfold ptr
  clear hg hs hW hd hb1 hI0
  go_enter Tryz.func45, Tryz.ntmps45
  go_wp2_with fail
  refine HWK.out.mono ?_
  rintro e w2 ⟨rfl, ⟨⟨z, h1, h2, h3⟩, h4⟩, hb2⟩
  have m1 := cell_of_one h1
  have HO : Hid (Own w2 w.heap.size z (wantedT want t)) := Lib.hid (by rw [← HWT.out]; exact own_lowS h3 (by omega))
  have HB := Lib.hid hb2
  clear h1 h2 h3 h4 hb2
  go_wp2
  go_ret
  exact ⟨z, rfl, HO.out, HB.out⟩
end Go.Proofs.YtjfefphgikncnaaGreatDoor
namespace Go.Proofs.YtjfefphgikncnaaGreatDoor
open Go.RowKit
open Go.Proofs.YtjfefphgikncnaaGreatDoor.Sto (St)

def itcl (p : List UInt8 × List UInt8) : List Value := [.string ⟨p.1.toArray⟩, .string ⟨p.2.toArray⟩]
theorem itcl_length (p : List UInt8 × List UInt8) : (itcl p).length = 2 := rfl
/-- A slice that has these items. -/
def ItAt (w : World) (v : Value) (L : St) : Prop := RowsAt 39 2 itcl w v L
theorem ItAt.at {w : World} {A : Option Addr} {n cap : Nat} {S : St} (h : ItAt w (.slice A n cap) S) (k : Nat) (hk : k < S.length) :
    ∃ b o, A = some ⟨b, o, none⟩ ∧ w.cell? ⟨b, o + k * 2, none⟩ = some (.string ⟨(S[k].1).toArray⟩) ∧ w.cell? ⟨b, o + k * 2 + 1, none⟩ = some (.string ⟨(S[k].2).toArray⟩) := by
  obtain ⟨b, o, rfl, h1⟩ := RowsAt.at h k hk
  exact ⟨b, o, rfl, h1 0 _ rfl, h1 1 _ rfl⟩
/-- Items in a block of any type. -/
def ItIn (w : World) (v : Value) (L : St) : Prop := RowsIn 2 itcl w v L
theorem ItAt.inn {w : World} {v : Value} {L : St} (h : ItAt w v L) : ItIn w v L := RowsAt.inn h
theorem ItIn.at {w : World} {A : Option Addr} {n cap : Nat} {S : St} (h : ItIn w (.slice A n cap) S) (k : Nat) (hk : k < S.length) :
    ∃ b o, A = some ⟨b, o, none⟩ ∧ w.cell? ⟨b, o + k * 2, none⟩ = some (.string ⟨(S[k].1).toArray⟩) ∧ w.cell? ⟨b, o + k * 2 + 1, none⟩ = some (.string ⟨(S[k].2).toArray⟩) := by
  obtain ⟨b, o, rfl, h1⟩ := RowsIn.at h k hk
  exact ⟨b, o, rfl, h1 0 _ rfl, h1 1 _ rfl⟩
end Go.Proofs.YtjfefphgikncnaaGreatDoor
namespace Go.Proofs.YtjfefphgikncnaaGreatDoor
open Go.RowKit
open Go.Proofs.YtjfefphgikncnaaGreatDoor.Sto (St)

def Tri.keyed (x : List UInt8) : Bool := decide (1 ≤ x.length) && decide (x.length ≤ 8)
/-- What Get tells: the value, or what is wrong. -/
def Tri.getC (S : St) (x : List UInt8) : List UInt8 × Nat := if Tri.keyed x then (match Sto.look S x with | some v => (v, 0) | none => ([], 5)) else ([], 1)
theorem Tri.getC_no {S : St} {x : List UInt8} (h : Tri.keyed x = false) : Tri.getC S x = ([], 1) := by simp [Tri.getC, h]
theorem Tri.getC_none {S : St} {x : List UInt8} (h : Tri.keyed x = true) (h2 : Sto.look S x = none) : Tri.getC S x = ([], 5) := by simp [Tri.getC, h, h2]
theorem Tri.getC_some {S : St} {x y : List UInt8} (h : Tri.keyed x = true) (h2 : Sto.look S x = some y) : Tri.getC S x = (y, 0) := by simp [Tri.getC, h, h2]
end Go.Proofs.YtjfefphgikncnaaGreatDoor
namespace Go.Proofs.YtjfefphgikncnaaGreatDoor
open Go.RowKit
open Go.Proofs.YtjfefphgikncnaaGreatDoor.Sto (St)

/-- What Put refuses. -/
def Tri.putC (S : St) (x y : List UInt8) : Nat := if Tri.keyed x then (if 1 ≤ y.length ∧ y.length ≤ 32 ∧ (Tri.at_ S x = true ∨ S.length < 1024) then 0 else 2) else 1
def Tri.putL (S : St) (x y : List UInt8) : St := if Tri.putC S x y = 0 then Tri.put S x y else []
theorem Tri.putC_no {S : St} {x y : List UInt8} (h : Tri.keyed x = false) : Tri.putC S x y = 1 := by simp [Tri.putC, h]
theorem Tri.putC_bad {S : St} {x y : List UInt8} (h : Tri.keyed x = true) (h2 : ¬ (1 ≤ y.length ∧ y.length ≤ 32 ∧ (Tri.at_ S x = true ∨ S.length < 1024))) : Tri.putC S x y = 2 := by rw [Tri.putC, if_pos h, if_neg h2]
theorem Tri.putC_ok {S : St} {x y : List UInt8} (h : Tri.keyed x = true) (h2 : 1 ≤ y.length ∧ y.length ≤ 32 ∧ (Tri.at_ S x = true ∨ S.length < 1024)) : Tri.putC S x y = 0 := by rw [Tri.putC, if_pos h, if_pos h2]
def RtPutPost (S : St) (x y : List UInt8) (w : World) (e : Ending) (w' : World) : Prop :=
  ∃ v', e = .returned (.tuple #[v', .int .i64 (Tri.putC S x y)]) ∧ ItAt w' v' (Tri.putL S x y) ∧ Below w.heap.size w w'
theorem RtPutPost.bad {S : St} {x y : List UInt8} {w w' : World} {c : Nat} (h : Tri.putC S x y = c) (hc : c ≠ 0) (hb : Below w.heap.size w w') : RtPutPost S x y w (.returned (.tuple #[.slice none 0 0, .int .i64 c])) w' := by
  subst h
  exact ⟨_, rfl, by rw [Tri.putL, if_neg hc]; exact RowsAt.nil .., hb⟩
theorem RtPutPost.good {S T R : St} {x y : List UInt8} {w w' : World} {v' : Value} (h : Tri.putC S x y = 0) (hp : Tri.put S x y = T ++ (x, y) :: R) (hv : ItAt w' v' (T ++ (x, y) :: R)) (hb : Below w.heap.size w w') : RtPutPost S x y w (.returned (.tuple #[v', .int .i64 0])) w' := by
  refine ⟨v', by rw [h]; rfl, ?_, hb⟩
  rw [Tri.putL, if_pos h, hp]; exact hv
end Go.Proofs.YtjfefphgikncnaaGreatDoor
namespace Go.Proofs.YtjfefphgikncnaaGreatDoor
open Go.RowKit
open Sto (T St)
open Tri (Tr Ok upd ix hb lay splitT Trim rank)
open Go.Proofs.YtjfefphgikncnaaGreatDoor.Nd (N)

def OwnI (w : World) (B : Nat) (z : Value) (S : St) : Prop := w.ownsRow B 39 2 z S.length (rowsL itcl S)
theorem OwnI.nil (w : World) (B : Nat) : OwnI w B (.slice none 0 0) [] := ⟨rfl, Or.inl ⟨rfl, rfl⟩⟩
theorem OwnI.below {w w' : World} {B : Nat} {s : Value} {L : St} (h : OwnI w B s L) (hb : Below w.heap.size w w') : OwnI w' B s L :=
  row_out (G := fun _ => False) h (Out.of hb) (fun _ _ _ _ hf => hf.elim)
theorem OwnI.lt {w : World} {B : Nat} {s : Value} {L : St} (h : OwnI w B s L) (k : Nat) (hk : s.ownBlock = some k) : B ≤ k ∧ k < w.heap.size := World.ownsRow.lt h k hk
theorem OwnI.at_ {w : World} {B : Nat} {s : Value} {L : St} (h : OwnI w B s L) : ItAt w s L := RowsAt.own itcl_length h
theorem OwnI.low {w : World} {B B' : Nat} {s : Value} {L : St} (h : OwnI w B s L) (hB : B' ≤ B) : OwnI w B' s L := by
  refine ⟨h.1, ?_⟩
  rcases h.2 with hn | ⟨k, cap, cur, hv, hb, hk, hr⟩
  · exact Or.inl hn
  · exact Or.inr ⟨k, cap, cur, hv, Nat.le_trans hB hb, hk, hr⟩
end Go.Proofs.YtjfefphgikncnaaGreatDoor
namespace Go.Proofs.YtjfefphgikncnaaGreatDoor
open Go.RowKit
open Go.Proofs.YtjfefphgikncnaaGreatDoor.Sto (St)

def Tri.delL (S : St) (x : List UInt8) : St := if (Tri.getC S x).2 = 0 then Tri.del S x else []
def RtDelPost (S : St) (x : List UInt8) (w : World) (e : Ending) (w' : World) : Prop :=
  ∃ v', e = .returned (.tuple #[v', .int .i64 (Tri.getC S x).2]) ∧ ItAt w' v' (Tri.delL S x) ∧ Below w.heap.size w w'
theorem RtDelPost.bad {S : St} {x : List UInt8} {w w' : World} {c : Nat} (h : (Tri.getC S x).2 = c) (hc : c ≠ 0) (hb : Below w.heap.size w w') : RtDelPost S x w (.returned (.tuple #[.slice none 0 0, .int .i64 c])) w' := by
  subst h
  exact ⟨_, rfl, by rw [Tri.delL, if_neg hc]; exact RowsAt.nil .., hb⟩
theorem RtDelPost.good {S L : St} {x : List UInt8} {w w' : World} {v' : Value} (h : (Tri.getC S x).2 = 0) (hp : Tri.del S x = L) (hv : ItAt w' v' L) (hb : Below w.heap.size w w') : RtDelPost S x w (.returned (.tuple #[v', .int .i64 0])) w' := by
  refine ⟨v', by rw [h]; rfl, ?_, hb⟩
  rw [Tri.delL, if_pos h, hp]; exact hv
end Go.Proofs.YtjfefphgikncnaaGreatDoor
