/- TriRefPut, TriRefLess, NibCommon, NodePrefix, TriText, TriCode -/
import Derived.Test.YtbkanebkobjnnaaGreatDoorPk09
import Derived.Deep.RegionLaw
import Derived.Deep.AppendLies
import Derived.Test.YtbkanebkobjnnaaGreatDoorChecked
import Derived.Test.YtbkanebkobjnnaaGreatDoorPk01
import Derived.WalkKit
import Derived.WalkSpells
import Derived.WalkLawsBesides
import Derived.ShutString
import Derived.Lib.Hide
import Derived.Deep.QuietTactic
import Derived.BigQuiet
import Derived.WalkSmall
import Derived.Test.YtbkanebkobjnnaaGreatDoorPk05
import Derived.Test.YtbkanebkobjnnaaGreatDoorPk03
namespace Go.Proofs.YtbkanebkobjnnaaGreatDoor
open Go.RowKit
open Go.Proofs.YtbkanebkobjnnaaGreatDoor.Sto (St)

/-- What Put refuses. -/
def Tri.putC (S : St) (x y : List UInt8) : Nat := if Tri.keyed x then (if 1 ≤ y.length ∧ y.length ≤ 32 ∧ (Tri.at_ S x = true ∨ S.length < 1024) then 0 else 2) else 1
def Tri.putL (S : St) (x y : List UInt8) : St := if Tri.putC S x y = 0 then Tri.put S x y else []
theorem Tri.putC_no {S : St} {x y : List UInt8} (h : Tri.keyed x = false) : Tri.putC S x y = 1 := by simp [Tri.putC, h]
theorem Tri.putC_bad {S : St} {x y : List UInt8} (h : Tri.keyed x = true) (h2 : ¬ (1 ≤ y.length ∧ y.length ≤ 32 ∧ (Tri.at_ S x = true ∨ S.length < 1024))) : Tri.putC S x y = 2 := by rw [Tri.putC, if_pos h, if_neg h2]
theorem Tri.putC_ok {S : St} {x y : List UInt8} (h : Tri.keyed x = true) (h2 : 1 ≤ y.length ∧ y.length ≤ 32 ∧ (Tri.at_ S x = true ∨ S.length < 1024)) : Tri.putC S x y = 0 := by rw [Tri.putC, if_pos h, if_pos h2]
def RtPutPost (S : St) (x y : List UInt8) (w : World) (e : Ending) (w' : World) : Prop :=
  ∃ v', e = .returned (.tuple #[v', .int .i64 (Tri.putC S x y)]) ∧ ItAt w' v' (Tri.putL S x y) ∧ Below w.heap.size w w'
theorem RtPutPost.bad {S : St} {x y : List UInt8} {w w' : World} {c : Nat} (h : Tri.putC S x y = c) (hc : c ≠ 0) (hb : Below w.heap.size w w') : RtPutPost S x y w (.returned (.tuple #[.slice none 0 0, .int .i64 c])) w' := by
  subst h
  exact ⟨_, rfl, by rw [Tri.putL, if_neg hc]; exact RowsAt.nil .., hb⟩
theorem RtPutPost.good {S T R : St} {x y : List UInt8} {w w' : World} {v' : Value} (h : Tri.putC S x y = 0) (hp : Tri.put S x y = T ++ (x, y) :: R) (hv : ItAt w' v' (T ++ (x, y) :: R)) (hb : Below w.heap.size w w') : RtPutPost S x y w (.returned (.tuple #[v', .int .i64 0])) w' := by
  refine ⟨v', by rw [h]; rfl, ?_, hb⟩
  rw [Tri.putL, if_pos h, hp]; exact hv
/-- All of a slice of items behind a row of the call's own. -/
theorem append_it {w : World} {v s : Value} {S : St} {B n : Nat} {xs : List Value} (hv : ItAt w v S) (hs : w.ownsRow B 26 2 s n xs) (hl : n + S.length ≤ 1000000) (hB : B ≤ w.heap.size) :
    ∃ v' w', (Builtin.append_ #[22, 22] 22 #[s, v]).run Tryz.prog w = .ok v' w' ∧ w'.ownsRow B 26 2 v' (n + S.length) (xs ++ rowsL itcl S) ∧ w.grownBy w' s.ownBlock ∧ (v'.ownBlock = s.ownBlock ∨ v'.ownBlock = some w.heap.size) := by
  obtain ⟨i0, hi, hz0, hz1, hz2⟩ := info_parts Tryz.infoItem
  exact append_rows 22 26 i0 _ 32 Tryz.underlying22 Tryz.sizeOf26 hi hz0 hz1 hz2 rfl (by decide) (by decide) itcl_length itcl_one hv hs hl hB
/-- The third append: what was there behind the new one. -/
theorem it_third {w w1 w2 : World} {v1 l2 : Value} {T R : St} {one : List UInt8 × List UInt8} {g' cap' B : Nat} {o : Obj} (hB : B ≤ w.heap.size) (hb : Below w.heap.size w w1) (hB1 : ∀ k, v1.ownBlock = some k → w.heap.size ≤ k)
    (h2 : w2.ownsRow B 26 2 (.slice (some ⟨g', 0, none⟩) (T.length + 1) cap') (T.length + 1) (rowsL itcl T ++ rowsL itcl [one])) (hg : (w1.alloc o).grownBy w2 v1.ownBlock) (hg' : w.heap.size ≤ g') (hs : ItAt w l2 R) (hl : T.length + 1 + R.length ≤ 1000000) :
    ∃ v3 w3, (Builtin.append_ #[22, 22] 22 #[.slice (some ⟨g', 0, none⟩) (T.length + 1) cap', l2]).run Tryz.prog w2 = .ok v3 w3 ∧ ItAt w3 v3 (T ++ one :: R) ∧ Below w.heap.size w w3 := by
  have hb1 := hb.alloc hb.size o
  have hb2 : Below w.heap.size w w2 := hb1.trans ((Out.grown hg (F := fun j => v1.ownBlock = some j) (fun j e => e)).below (fun j hj => hB1 j hj) hb1.size)
  obtain ⟨v3, w3, hrun, hown, hgr, _⟩ := append_it (RowsAt.below hs hb2) h2 hl (Nat.le_trans hB hb2.size)
  refine ⟨v3, w3, hrun, ?_, hb2.trans ((Out.grown hgr (F := fun j => j = g') (fun j e => by simp [Value.ownBlock] at e; exact e.symm)).below (fun j hj => hj ▸ hg') hb2.size)⟩
  have e1 : rowsL itcl (T ++ one :: R) = rowsL itcl T ++ rowsL itcl [one] ++ rowsL itcl R := by
    rw [show T ++ one :: R = (T ++ [one]) ++ R by simp, rowsL_append, rowsL_append]
  have e2 : (T ++ one :: R).length = T.length + 1 + R.length := by simp; omega
  refine RowsAt.own (B := B) itcl_length ?_
  rw [e1, e2]
  exact hown
theorem bel_drewI {B : Nat} {a w w' : World} (h : Below B a w) (hq : ∃ q, w' = w.drewN q) : Below B a w' := by
  obtain ⟨q, rfl⟩ := hq
  exact bel_drewN h q
set_option maxRecDepth 8000 in
set_option maxHeartbeats 2000000 in
theorem rtPut_any (S : St) (v : Value) (x y : List UInt8) (w : World) (hv : ItAt w v S) (hl : S.length ≤ 10000) (hx : x.length ≤ 1000000) (hy : y.length ≤ 1000000) :
    Calls Tryz.prog 32 #[v, .string ⟨x.toArray⟩, .string ⟨y.toArray⟩] w (RtPutPost S x y w) := by
  have HK := Lib.hid (fun w => rKeyed_any x w hx)
  have HV := Lib.hid hv
  have HL := Lib.hid hl
  have HA := Lib.hid (rtAt_any S v x w hv hl)
  have HPE := Lib.hid (Tri.put_eq S x y)
  obtain ⟨A, cap, rfl, hcap, hcs⟩ := hv.form
  have HCS := Lib.hid hcs
  have HCAP := Lib.hid hcap
  have HPL := Lib.hid (Tri.pos_le S x)
  have HPT : Hid (Tri.at_ S x = true → Tri.pos S x < S.length) := Lib.hid (fun h => by
    unfold Tri.at_ at h
    rcases Nat.lt_or_ge (Tri.pos S x) S.length with h2 | h2
    · exact h2
    · rw [List.getElem?_eq_none h2] at h; simp at h)
  have HB0 := Lib.hid (Below.refl w.heap.size w)
  obtain ⟨kb, hkb⟩ : ∃ kb, Tri.keyed x = kb := ⟨_, rfl⟩
  have HKB := Lib.hid hkb
  rw [hkb] at HK
  clear hv hl hx hkb hcs hcap
  go_enter Tryz.func32, Tryz.ntmps32
  go_wp2_with fail
  refine (HK.out w).mono ?_
  rintro e w1 ⟨rfl, rfl⟩
  cases kb with
  | false =>
    go_wp2
    go_ret2
    exact RtPutPost.bad (Tri.putC_no HKB.out) (by decide) HB0.out
  | true =>
    go_wp2_with fail
    refine HA.out.mono ?_
    rintro e w1 ⟨rfl, hq⟩
    have HB1 : Hid (Below w.heap.size w w1) := Lib.hid (bel_drewI HB0.out hq)
    have HV1 := Lib.hid (RowsAt.below HV.out HB1.out)
    have HSZ1 := Lib.hid HB1.out.size
    clear hq
    obtain ⟨b, hb⟩ : ∃ b, Tri.at_ S x = b := ⟨_, rfl⟩
    have HBB := Lib.hid hb
    rw [hb] at HPE HPT ⊢
    obtain ⟨P, hP⟩ : ∃ P, Tri.pos S x = P := ⟨_, rfl⟩
    rw [hP] at HPE HPL HPT ⊢
    clear hb hP
    by_cases hbad : 1 ≤ y.length ∧ y.length ≤ 32 ∧ (b = true ∨ S.length < 1024)
    · have HOK : Hid (Tri.putC S x y = 0) := Lib.hid (Tri.putC_ok HKB.out (by rw [HBB.out]; exact hbad))
      have y1 : decide ((y.length : Int) < 1) = false := decide_eq_false (by omega)
      have y2 : decide ((32 : Int) < (y.length : Int)) = false := decide_eq_false (by omega)
      have h0 : (0 : Int) ≤ (P : Int) := by omega
      have hpc : (P : Int) ≤ (cap : Int) := by have := HCAP.out; have := HPL.out; omega
      have hps : (P : Int) ≤ (S.length : Int) := by have := HPL.out; omega
      have ht := HV1.out.take P HPL.out
      have hTl : (S.take P).length = P := by have := HPL.out; simp; omega
      obtain ⟨T, hT⟩ : ∃ T, S.take P = T := ⟨_, rfl⟩
      rw [hT] at ht hTl HPE
      obtain ⟨v1, w2, hrun1, hown1, hgr1, hat1⟩ := append_it ht (World.ownsRow_nil w1 w1.heap.size 26 2) (by have := HL.out; have := HPL.out; omega) (Nat.le_refl _)
      rw [List.nil_append, Nat.zero_add] at hown1
      have hb2 : Below w1.heap.size w1 w2 := (Out.grown hgr1 (F := fun _ => False) (fun j e => by simp [Value.ownBlock] at e)).below (fun _ hf => hf.elim) (Nat.le_refl _)
      obtain ⟨i0, hi, hz0, hz1, hz2⟩ := info_parts Tryz.infoItem
      obtain ⟨A1, cap1, rfl⟩ := own_form hown1
      have HOW1 := Lib.hid hown1
      have HB2 := Lib.hid hb2
      have HTL : Hid (T.length = P ∧ P ≤ 10000) := Lib.hid ⟨hTl, by have := HL.out; have := HPL.out; omega⟩
      cases b with
      | false =>
        have hs1 : decide ((1024 : Int) ≤ (S.length : Int)) = false := decide_eq_false (by have := hbad.2.2; simp at this; omega)
        have hRl : (S.drop P).length ≤ 10000 := by have := HL.out; simp; omega
        obtain ⟨R, hR⟩ : ∃ R, S.drop P = R := ⟨_, rfl⟩
        simp only [Bool.false_eq_true, if_false, Nat.add_zero] at HPE
        rw [hR] at hRl HPE
        have HTH := Lib.hid (fun w3 g' cap' l2 h2 hg hg' hs => it_third (w2 := w3) (l2 := l2) (T := T) (R := R) (one := (x, y)) (g' := g') (cap' := cap') (o := .cells #[.string ⟨x.toArray⟩, .string ⟨y.toArray⟩] 26) (Nat.le_refl _) hb2 (fun k hk => (World.ownsRow.lt hown1 k hk).1) h2 hg hg' hs (by have := HL.out; have := HPL.out; omega))
        have HFIN : Hid (∀ v3 w3, ItAt w3 v3 (T ++ (x, y) :: R) → Below w1.heap.size w1 w3 → RtPutPost S x y w (.returned (.tuple #[v3, .int .i64 0])) w3) := Lib.hid (fun v3 w3 q1 q2 => RtPutPost.good HOK.out HPE.out q1 (HB1.out.trans (q2.mono HSZ1.out)))
        have HRQ := Lib.hid hR
        clear hgr1 hat1 hb2 hown1 hTl hRl ht hT hR hbad hy
        rcases HCS.out with ⟨hs0, rfl, rfl⟩ | ⟨b, o, rfl⟩
        · have hSl : S.length = 0 := by rw [hs0]; rfl
          obtain rfl : P = 0 := by have := HPL.out; omega
          have HDR : Hid (ItAt w1 (.slice none 0 0) R) := Lib.hid (by rw [← HRQ.out, hs0]; exact RowsAt.nil ..)
          rw [hSl] at hs1 ⊢
          clear hs0 hSl hps hpc
          go_wp2_with (first | (at_builtin; refine wpList_append_run rfl _ _ _ rfl (.slice none 0 0) (.slice none 0 0) (.slice A1 T.length cap1) (by rfl) (by rfl) hrun1 ?_) | (at_builtin; refine wpList_append_lies _ rfl _ _ _ rfl w1.heap.size 26 i0 (.agg #[.string ⟨#[]⟩, .string ⟨#[]⟩]) 2 32 Tryz.underlying22 hi hz0 hz1 hz2 rfl (by decide) (.slice A1 T.length cap1) T.length (rowsL itcl T) (by rfl) (World.ownsRow.alloc HOW1.out _) ⟨w2.heap.size, 0, none⟩ 1 1 (rowsL itcl [(x, y)]) (by rfl) rfl (World.news_of_block (heap_new_at _ _ _ (by simp))) (by simp [rowsL, itcl, Value.oneCell']) (by decide) (by have := HTL.out; unfold maxLen; omega) (by have := HTL.out; omega) (by have := HB2.out.size; simp at this ⊢; omega) (w2.heap.size + 1) (by simp) ?_; intro g' cap' w3 hown3 hgr3 hat3 hlt3) | (at_builtin; obtain ⟨v4, w4, hrun4, hst4, hb4⟩ := HTH.out w3 g' cap' (.slice none 0 0) hown3 hgr3 (World.ownsRow.lt hown3 g' rfl).1 HDR.out; refine wpList_append_run rfl _ _ _ rfl (.slice (some ⟨g', 0, none⟩) (T.length + 1) cap') (.slice none 0 0) v4 (by rfl) (by rfl) hrun4 ?_))
          go_ret2
          exact HFIN.out _ _ hst4 hb4
        · by_cases hPc : P = cap
          · subst hPc
            have hSP : S.length = P := by have := HCAP.out; have := HPL.out; omega
            have HDR : Hid (ItAt w1 (.slice (some ⟨b, o, none⟩) 0 0) R) := Lib.hid (by
              have h := RowsAt.drop HV1.out P (Nat.le_of_eq hSP.symm) b o (fun h => by omega)
              rw [HRQ.out, hSP, Nat.sub_self] at h
              exact h)
            rw [hSP] at hs1 ⊢
            clear hSP hps hpc
            go_wp2_with (first | (at_builtin; refine wpList_append_run rfl _ _ _ rfl (.slice none 0 0) (.slice (some ⟨b, o, none⟩) P P) (.slice A1 T.length cap1) (by rfl) (by rfl) hrun1 ?_) | (at_builtin; refine wpList_append_lies _ rfl _ _ _ rfl w1.heap.size 26 i0 (.agg #[.string ⟨#[]⟩, .string ⟨#[]⟩]) 2 32 Tryz.underlying22 hi hz0 hz1 hz2 rfl (by decide) (.slice A1 T.length cap1) T.length (rowsL itcl T) (by rfl) (World.ownsRow.alloc HOW1.out _) ⟨w2.heap.size, 0, none⟩ 1 1 (rowsL itcl [(x, y)]) (by rfl) rfl (World.news_of_block (heap_new_at _ _ _ (by simp))) (by simp [rowsL, itcl, Value.oneCell']) (by decide) (by have := HTL.out; unfold maxLen; omega) (by have := HTL.out; omega) (by have := HB2.out.size; simp at this ⊢; omega) (w2.heap.size + 1) (by simp) ?_; intro g' cap' w3 hown3 hgr3 hat3 hlt3) | (at_builtin; obtain ⟨v4, w4, hrun4, hst4, hb4⟩ := HTH.out w3 g' cap' (.slice (some ⟨b, o, none⟩) 0 0) hown3 hgr3 (World.ownsRow.lt hown3 g' rfl).1 HDR.out; refine wpList_append_run rfl _ _ _ rfl (.slice (some ⟨g', 0, none⟩) (T.length + 1) cap') (.slice (some ⟨b, o, none⟩) 0 0) v4 (by rfl) (by rfl) hrun4 ?_))
            go_ret2
            exact HFIN.out _ _ hst4 hb4
          · have hPc2 : ¬ ((cap : Int) - (P : Int) = 0) := by have := HCAP.out; have := HPL.out; omega
            have HDR : Hid (ItAt w1 (.slice (some ⟨b, o + P * 2, none⟩) (S.length - P) (cap - P)) R) := Lib.hid (by rw [← HRQ.out]; exact RowsAt.drop HV1.out P HPL.out b (o + P * 2) (fun _ => ⟨rfl, rfl⟩))
            go_wp2_with (first | (at_builtin; refine wpList_append_run rfl _ _ _ rfl (.slice none 0 0) (.slice (some ⟨b, o, none⟩) P cap) (.slice A1 T.length cap1) (by rfl) (by rfl) hrun1 ?_) | (at_builtin; refine wpList_append_lies _ rfl _ _ _ rfl w1.heap.size 26 i0 (.agg #[.string ⟨#[]⟩, .string ⟨#[]⟩]) 2 32 Tryz.underlying22 hi hz0 hz1 hz2 rfl (by decide) (.slice A1 T.length cap1) T.length (rowsL itcl T) (by rfl) (World.ownsRow.alloc HOW1.out _) ⟨w2.heap.size, 0, none⟩ 1 1 (rowsL itcl [(x, y)]) (by rfl) rfl (World.news_of_block (heap_new_at _ _ _ (by simp))) (by simp [rowsL, itcl, Value.oneCell']) (by decide) (by have := HTL.out; unfold maxLen; omega) (by have := HTL.out; omega) (by have := HB2.out.size; simp at this ⊢; omega) (w2.heap.size + 1) (by simp) ?_; intro g' cap' w3 hown3 hgr3 hat3 hlt3) | (at_builtin; obtain ⟨v4, w4, hrun4, hst4, hb4⟩ := HTH.out w3 g' cap' (.slice (some ⟨b, o + P * 2, none⟩) (S.length - P) (cap - P)) hown3 hgr3 (World.ownsRow.lt hown3 g' rfl).1 HDR.out; refine wpList_append_run rfl _ _ _ rfl (.slice (some ⟨g', 0, none⟩) (T.length + 1) cap') (.slice (some ⟨b, o + P * 2, none⟩) (S.length - P) (cap - P)) v4 (by rfl) (by rfl) hrun4 ?_))
            go_ret2
            exact HFIN.out _ _ hst4 hb4
      | true =>
        have hP1 : ((P : Int) + 1) ≤ (S.length : Int) := by have := HPT.out rfl; omega
        have hP2 : ((P : Int) + 1) ≤ (cap : Int) := by have := HPT.out rfl; have := HCAP.out; omega
        have hP3 : (P : Int) + 1 ≤ 100000 := by have := HL.out; have := HPL.out; omega
        have hP0 : (0 : Int) ≤ (P : Int) + 1 := by omega
        have hRl : (S.drop (P + 1)).length ≤ 10000 := by have := HL.out; simp; omega
        obtain ⟨R, hR⟩ : ∃ R, S.drop (P + 1) = R := ⟨_, rfl⟩
        simp only [if_true] at HPE
        rw [hR] at hRl HPE
        have HTH := Lib.hid (fun w3 g' cap' l2 h2 hg hg' hs => it_third (w2 := w3) (l2 := l2) (T := T) (R := R) (one := (x, y)) (g' := g') (cap' := cap') (o := .cells #[.string ⟨x.toArray⟩, .string ⟨y.toArray⟩] 26) (Nat.le_refl _) hb2 (fun k hk => (World.ownsRow.lt hown1 k hk).1) h2 hg hg' hs (by have := HL.out; have := HPL.out; omega))
        have HFIN : Hid (∀ v3 w3, ItAt w3 v3 (T ++ (x, y) :: R) → Below w1.heap.size w1 w3 → RtPutPost S x y w (.returned (.tuple #[v3, .int .i64 0])) w3) := Lib.hid (fun v3 w3 q1 q2 => RtPutPost.good HOK.out HPE.out q1 (HB1.out.trans (q2.mono HSZ1.out)))
        have HRQ := Lib.hid hR
        clear hgr1 hat1 hb2 hown1 hTl hRl ht hT hR hbad hy
        rcases HCS.out with ⟨hs0, rfl, rfl⟩ | ⟨b, o, rfl⟩
        · exfalso; have := HPT.out rfl; rw [hs0] at this; simp at this
        · by_cases hPc : (P + 1) = cap
          · subst hPc
            have hSP : S.length = P + 1 := by have := HCAP.out; have := HPT.out rfl; omega
            have HDR : Hid (ItAt w1 (.slice (some ⟨b, o, none⟩) 0 0) R) := Lib.hid (by
              have h := RowsAt.drop HV1.out (P + 1) (Nat.le_of_eq hSP.symm) b o (fun h => by omega)
              rw [HRQ.out, hSP, Nat.sub_self] at h
              exact h)
            rw [hSP]
            clear hSP hps
            go_wp2_with (first | (at_builtin; refine wpList_append_run rfl _ _ _ rfl (.slice none 0 0) (.slice (some ⟨b, o, none⟩) P (P + 1)) (.slice A1 T.length cap1) (by rfl) (by rfl) hrun1 ?_) | (at_builtin; refine wpList_append_lies _ rfl _ _ _ rfl w1.heap.size 26 i0 (.agg #[.string ⟨#[]⟩, .string ⟨#[]⟩]) 2 32 Tryz.underlying22 hi hz0 hz1 hz2 rfl (by decide) (.slice A1 T.length cap1) T.length (rowsL itcl T) (by rfl) (World.ownsRow.alloc HOW1.out _) ⟨w2.heap.size, 0, none⟩ 1 1 (rowsL itcl [(x, y)]) (by rfl) rfl (World.news_of_block (heap_new_at _ _ _ (by simp))) (by simp [rowsL, itcl, Value.oneCell']) (by decide) (by have := HTL.out; unfold maxLen; omega) (by have := HTL.out; omega) (by have := HB2.out.size; simp at this ⊢; omega) (w2.heap.size + 1) (by simp) ?_; intro g' cap' w3 hown3 hgr3 hat3 hlt3) | (at_builtin; obtain ⟨v4, w4, hrun4, hst4, hb4⟩ := HTH.out w3 g' cap' (.slice (some ⟨b, o, none⟩) 0 0) hown3 hgr3 (World.ownsRow.lt hown3 g' rfl).1 HDR.out; refine wpList_append_run rfl _ _ _ rfl (.slice (some ⟨g', 0, none⟩) (T.length + 1) cap') (.slice (some ⟨b, o, none⟩) 0 0) v4 (by rfl) (by rfl) hrun4 ?_))
            go_ret2
            exact HFIN.out _ _ hst4 hb4
          · have hPc2 : ¬ ((cap : Int) - ((P : Int) + 1) = 0) := by have := HCAP.out; have := HPT.out rfl; omega
            have HDR : Hid (ItAt w1 (.slice (some ⟨b, o + (P + 1) * 2, none⟩) (S.length - (P + 1)) (cap - (P + 1))) R) := Lib.hid (by rw [← HRQ.out]; exact RowsAt.drop HV1.out (P + 1) (HPT.out rfl) b (o + (P + 1) * 2) (fun _ => ⟨rfl, rfl⟩))
            go_wp2_with (first | (at_builtin; refine wpList_append_run rfl _ _ _ rfl (.slice none 0 0) (.slice (some ⟨b, o, none⟩) P cap) (.slice A1 T.length cap1) (by rfl) (by rfl) hrun1 ?_) | (at_builtin; refine wpList_append_lies _ rfl _ _ _ rfl w1.heap.size 26 i0 (.agg #[.string ⟨#[]⟩, .string ⟨#[]⟩]) 2 32 Tryz.underlying22 hi hz0 hz1 hz2 rfl (by decide) (.slice A1 T.length cap1) T.length (rowsL itcl T) (by rfl) (World.ownsRow.alloc HOW1.out _) ⟨w2.heap.size, 0, none⟩ 1 1 (rowsL itcl [(x, y)]) (by rfl) rfl (World.news_of_block (heap_new_at _ _ _ (by simp))) (by simp [rowsL, itcl, Value.oneCell']) (by decide) (by have := HTL.out; unfold maxLen; omega) (by have := HTL.out; omega) (by have := HB2.out.size; simp at this ⊢; omega) (w2.heap.size + 1) (by simp) ?_; intro g' cap' w3 hown3 hgr3 hat3 hlt3) | (at_builtin; obtain ⟨v4, w4, hrun4, hst4, hb4⟩ := HTH.out w3 g' cap' (.slice (some ⟨b, o + (P + 1) * 2, none⟩) (S.length - (P + 1)) (cap - (P + 1))) hown3 hgr3 (World.ownsRow.lt hown3 g' rfl).1 HDR.out; refine wpList_append_run rfl _ _ _ rfl (.slice (some ⟨g', 0, none⟩) (T.length + 1) cap') (.slice (some ⟨b, o + (P + 1) * 2, none⟩) (S.length - (P + 1)) (cap - (P + 1))) v4 (by rfl) (by rfl) hrun4 ?_))
            go_ret2
            exact HFIN.out _ _ hst4 hb4
    · have HBAD : Hid (Tri.putC S x y = 2) := Lib.hid (Tri.putC_bad HKB.out (by rw [HBB.out]; exact hbad))
      by_cases c1 : 1 ≤ y.length
      · have y1 : decide ((y.length : Int) < 1) = false := decide_eq_false (by omega)
        by_cases c2 : y.length ≤ 32
        · have y2 : decide ((32 : Int) < (y.length : Int)) = false := decide_eq_false (by omega)
          cases b with
          | true => exact absurd ⟨c1, c2, Or.inl rfl⟩ hbad
          | false =>
            have hs1 : decide ((1024 : Int) ≤ (S.length : Int)) = true := decide_eq_true (by have : ¬ S.length < 1024 := fun h => hbad ⟨c1, c2, Or.inr h⟩; omega)
            clear hbad hy
            go_wp2
            go_ret2
            exact RtPutPost.bad HBAD.out (by decide) HB1.out
        · have y2 : decide ((32 : Int) < (y.length : Int)) = true := decide_eq_true (by omega)
          clear hbad hy
          go_wp2
          go_ret2
          exact RtPutPost.bad HBAD.out (by decide) HB1.out
      · have y1 : decide ((y.length : Int) < 1) = true := decide_eq_true (by omega)
        clear hbad hy
        go_wp2
        go_ret2
        exact RtPutPost.bad HBAD.out (by decide) HB1.out
end Go.Proofs.YtbkanebkobjnnaaGreatDoor
namespace Go.Proofs.YtbkanebkobjnnaaGreatDoor
open Go.RowKit
open Go.Proofs.YtbkanebkobjnnaaGreatDoor.Sto (St)

def Tri.lessL (c : Nat) (S : St) : St := S.map fun x => (x.1.drop c, x.2)
theorem Tri.lessL_len (c : Nat) (S : St) : (Tri.lessL c S).length = S.length := by simp [Tri.lessL]
theorem Tri.lessL_take (c : Nat) (S : St) (k : Nat) (h : k < S.length) : Tri.lessL c (S.take (k + 1)) = Tri.lessL c (S.take k) ++ [(S[k].1.drop c, S[k].2)] := by
  rw [List.take_succ_eq_append_getElem h, Tri.lessL, List.map_append]; rfl
theorem cut_tail (x : List UInt8) (c : Nat) : (⟨x.toArray⟩ : ByteArray).extract c x.length = ⟨(x.drop c).toArray⟩ := by
  rw [Lib.extract_eq, List.take_of_length_le (by simp)]
/-- A row of items as the round's append leaves it. -/
theorem it_step {w wr w2 : World} {u v' : Value} {T : St} {one : List UInt8 × List UInt8} {o : Obj} (hb : Below w.heap.size w wr) (hs : wr.ownsRow w.heap.size 26 2 u T.length (rowsL itcl T)) (hg : ((wr.alloc o).drew).grownBy w2 u.ownBlock)
    (ho : w2.ownsRow w.heap.size 26 2 v' (T.length + 1) (rowsL itcl T ++ rowsL itcl [one])) :
    w2.ownsRow w.heap.size 26 2 v' (T ++ [one]).length (rowsL itcl (T ++ [one])) ∧ Below w.heap.size w w2 := by
  refine ⟨by rw [rowsL_append, List.length_append]; exact ho, ?_⟩
  exact ((hb.alloc hb.size o).drew).trans ((Out.grown hg (F := fun j => u.ownBlock = some j) (fun j e => e)).below (fun j hj => (World.ownsRow.lt hs j hj).1) ((hb.alloc hb.size o).drew).size)
set_option maxRecDepth 8000 in
set_option maxHeartbeats 2000000 in
theorem rtLess_any (S : St) (v : Value) (c : Nat) (w : World) (hv : ItAt w v S) (hl : S.length ≤ 10000) (hc : ∀ p ∈ S, c ≤ p.1.length) (hc2 : c ≤ 1000000) (hs : ∀ p ∈ S, p.1.length ≤ 1000000) :
    Calls Tryz.prog 61 #[v, .int .i64 c] w fun e w' => ∃ v', e = .returned v' ∧ w'.ownsRow w.heap.size 26 2 v' S.length (rowsL itcl (Tri.lessL c S)) ∧ Below w.heap.size w w' := by
  have HV := Lib.hid hv
  have HC := Lib.hid hc
  have HS := Lib.hid hs
  have HL := Lib.hid hl
  have HB0 := Lib.hid (Below.refl w.heap.size w)
  have HN0 := Lib.hid (World.ownsRow_nil w w.heap.size 26 2)
  obtain ⟨i0, hi, hz0, hz1, hz2⟩ := info_parts Tryz.infoItem
  obtain ⟨A, cap, rfl, -, -⟩ := hv.form
  clear hv hs hc
  go_enter Tryz.func61, Tryz.ntmps61
  go_wp2
  go_loopw [5, 6] (fun av iv wr => ∃ (k : Nat) (u : Value), u = av ∧ k ≤ S.length ∧ iv = .int .i64 k ∧ wr.ownsRow w.heap.size 26 2 u (Tri.lessL c (S.take k)).length (rowsL itcl (Tri.lessL c (S.take k))) ∧ Below w.heap.size w wr) (fun _ i _ => S.length - (intOf i).toNat)
  case atStart => exact ⟨0, _, rfl, Nat.zero_le _, rfl, by simpa [Tri.lessL, rowsL] using HN0.out, HB0.out⟩
  case round =>
    obtain ⟨k, u, rfl, hk, rfl, hu, hb⟩ := hrel
    have HB := Lib.hid hb
    have HU := Lib.hid hu
    by_cases hlt : k < S.length
    · have h1 : (k : Int) < (S.length : Int) := by omega
      have h0 : (0 : Int) ≤ (k : Int) := by omega
      have hnb : (k : Int) ≤ 100000 := by omega
      have HVW := Lib.hid (RowsAt.below HV.out hb)
      obtain ⟨b, o, rfl, n0, n1⟩ := ItAt.at HVW.out k hlt
      have HTK := Lib.hid (Tri.lessL_take c S k hlt)
      have hcx := HC.out S[k] (List.getElem_mem hlt)
      have hsx := HS.out S[k] (List.getElem_mem hlt)
      obtain ⟨x, hx⟩ : ∃ x, S[k].1 = x := ⟨_, rfl⟩
      obtain ⟨y, hy⟩ : ∃ y, S[k].2 = y := ⟨_, rfl⟩
      rw [hx, hy] at HTK
      rw [hx] at n0 hcx hsx
      rw [hy] at n1
      obtain ⟨T, hT⟩ : ∃ T, Tri.lessL c (S.take k) = T := ⟨_, rfl⟩
      have hTl : T.length = k := by rw [← hT, Tri.lessL_len]; simp; omega
      rw [hT] at HTK HU
      have HTL : Hid (T.length ≤ 10000) := Lib.hid (by have := HL.out; omega)
      have hx0 : (0 : Int) ≤ (c : Int) := by omega
      have hx1 : (c : Int) ≤ (x.length : Int) := by omega
      have HCT := Lib.hid (cut_tail x c)
      have BD : Below wr.heap.size wr wr.drew := (Below.refl _ wr).drew
      have m0 : wr.drew.cell? ⟨b, o + k * 2, none⟩ = some (.string ⟨x.toArray⟩) := n0
      have m1 : wr.drew.cell? ⟨b, o + k * 2 + 1, none⟩ = some (.string ⟨y.toArray⟩) := n1
      clear hu hb hx hy hT hTl hcx hsx n0 n1 BD
      have HSZ := Lib.hid HB.out.size
      have HSTP := Lib.hid (fun w2 v' => it_step (w2 := w2) (v' := v') (one := (x.drop c, y)) (o := .cells #[.string ⟨(x.drop c).toArray⟩, .string ⟨y.toArray⟩] 26) HB.out HU.out)
      have he := HCT.out
      go_upto_region 5 with fail
      go_region_law ((refine step_append_lies _ rfl (.tmp 13) (.tmp 27) 22 rfl w.heap.size 26 i0 (.agg #[.string ⟨#[]⟩, .string ⟨#[]⟩]) 2 32 Tryz.underlying22 hi hz0 hz1 hz2 rfl (by decide) u T.length (rowsL itcl T) (by simp [Act.eval]) ((World.ownsRow.alloc HU.out _).drew) ⟨wr.heap.size, 0, none⟩ 1 1 (rowsL itcl [(x.drop c, y)]) (by simp [Act.eval]) rfl (World.news_of_block (heap_new_at _ _ _ (by simp))) (by simp [rowsL, itcl, Value.oneCell']) (by decide) (by have := HTL.out; unfold maxLen; omega) (by have := HTL.out; omega) (by have := HSZ.out; simp; omega) (wr.heap.size + 1) (by simp) ?_; intro g' cap' w5 hown5 hgrow5 hat5 hlt5); (have hS5 := HSTP.out w5 _ hgrow5 hown5))
      all_goals
        have HS5 := Lib.hid hS5
        clear hown5 hgrow5 hat5 hlt5 hS5
        go_wp2
        refine ⟨⟨k + 1, _, rfl, by omega, by go_num, by rw [HTK.out]; exact HS5.out.1, HS5.out.2⟩, by simp [intOf]; omega⟩
    · obtain rfl : k = S.length := by omega
      have h1 : ¬ ((S.length : Int) < (S.length : Int)) := by omega
      have HEND := Lib.hid hu
      clear hu hb
      go_wp2
      go_ret
      refine ⟨_, rfl, ?_, HB.out⟩
      have := HEND.out
      rwa [List.take_length, Tri.lessL_len] at this
end Go.Proofs.YtbkanebkobjnnaaGreatDoor
namespace Go.Proofs.YtbkanebkobjnnaaGreatDoor
open Go.RowKit

set_option maxHeartbeats 400000 in
theorem common_any (a b : List UInt8) (w : World) (ha : a.length ≤ 1000000) (hb : b.length ≤ 1000000) :
    Calls Tryz.prog 79 #[.string ⟨a.toArray⟩, .string ⟨b.toArray⟩] w fun e w' => e = .returned (.int .i64 (Nib.commonL a b)) ∧ Below w.heap.size w w' := by
  rcases Nat.lt_or_ge b.length a.length with hm | hm
  all_goals
    go_enter Tryz.func79, Tryz.ntmps79
    go_wp2
    go_loopw [13] (fun i wr => ∃ k : Nat, k ≤ min a.length b.length ∧ a.take k = b.take k ∧ i = .int .i64 k ∧ Below w.heap.size w wr) (fun i _ => min a.length b.length - (intOf i).toNat)
    case atStart => exact ⟨0, Nat.zero_le _, by simp, rfl, Below.refl _ _⟩
    case round =>
      obtain ⟨k, hk, hf, rfl, hbel⟩ := hrel
      have HF := Lib.hid hf; clear hf
      by_cases hlt : k < min a.length b.length
      · have h1 : (k : Int) < (a.length : Int) := by omega
        have h2 : (k : Int) < (b.length : Int) := by omega
        go_wp2
        go_quiet (fail)
        go_wp2
        · go_ret
          have ht : (((a[k]'(by omega)).toNat : Int) != ((b[k]'(by omega)).toNat : Int)) = true := by assumption
          exact ⟨by rw [Nib.commonL_of_diff a b k (by omega) (by omega) HF.out (Nib.byte_ne ht)]; rfl, bel_drewN hbel _⟩
        · go_roundw
          case rel =>
            have ht : (((a[k]'(by omega)).toNat : Int) != ((b[k]'(by omega)).toNat : Int)) = false := by assumption
            exact ⟨k + 1, by omega, Nib.take_eq_succ a b k (by omega) (by omega) HF.out (Nib.byte_eq ht), by go_num, bel_drewN hbel _⟩
          case measure => simp [intOf]; omega
      · go_wp2
        go_ret
        have := HF.out
        exact ⟨by rw [Nib.commonL_of_end a b k (by omega) this]; exact ret_i64 (by omega), hbel⟩

set_option maxHeartbeats 400000 in
theorem rcommon_any (a b : List UInt8) (w : World) (ha : a.length ≤ 1000000) (_hb : b.length ≤ 1000000) :
    Calls Tryz.prog 60 #[.string ⟨a.toArray⟩, .string ⟨b.toArray⟩] w fun e w' => e = .returned (.int .i64 (Nib.commonL a b)) ∧ Below w.heap.size w w' := by
  go_enter Tryz.func60, Tryz.ntmps60
  go_wp2
  go_loopw [5] (fun i wr => ∃ k : Nat, k ≤ min a.length b.length ∧ a.take k = b.take k ∧ i = .int .i64 k ∧ Below w.heap.size w wr) (fun i _ => min a.length b.length - (intOf i).toNat)
  case atStart => exact ⟨0, Nat.zero_le _, by simp, rfl, Below.refl _ _⟩
  case round =>
    obtain ⟨k, hk, hf, rfl, hbel⟩ := hrel
    have HF := Lib.hid hf; clear hf
    by_cases hla : k < a.length
    · by_cases hlb : k < b.length
      · have h1 : (k : Int) < (a.length : Int) := by omega
        have h2 : (k : Int) < (b.length : Int) := by omega
        go_wp2
        go_quiet (fail)
        go_wp2
        · go_roundw
          case rel =>
            have ht : (((a[k]'(by omega)).toNat : Int) == ((b[k]'(by omega)).toNat : Int)) = true := by assumption
            exact ⟨k + 1, by omega, Nib.take_eq_succ a b k (by omega) (by omega) HF.out (Nib.byte_eq' ht), by go_num, bel_drewN hbel _⟩
          case measure => simp [intOf]; omega
        · go_ret
          have ht : (((a[k]'(by omega)).toNat : Int) == ((b[k]'(by omega)).toNat : Int)) = false := by assumption
          exact ⟨by rw [Nib.commonL_of_diff a b k (by omega) (by omega) HF.out (Nib.byte_ne' ht)]; rfl, bel_drewN hbel _⟩
      · have h1 : (k : Int) < (a.length : Int) := by omega
        have h2 : decide (k < b.length) = false := by simpa using hlb
        go_wp2
        go_quiet (fail)
        go_wp2
        go_ret
        exact ⟨by rw [Nib.commonL_of_end a b k (by omega) HF.out]; rfl, bel_drewN hbel _⟩
    · have h1 : decide (k < a.length) = false := by simpa using hla
      go_wp2
      go_quiet (fail)
      go_wp2
      go_ret
      exact ⟨by rw [Nib.commonL_of_end a b k (by omega) HF.out]; rfl, bel_drewN hbel _⟩

end Go.Proofs.YtbkanebkobjnnaaGreatDoor
namespace Go.Proofs.YtbkanebkobjnnaaGreatDoor
open Go.Proofs.YtbkanebkobjnnaaGreatDoor.Nd (N)

end Go.Proofs.YtbkanebkobjnnaaGreatDoor
namespace Go.Proofs.YtbkanebkobjnnaaGreatDoor
open Go.Proofs.YtbkanebkobjnnaaGreatDoor.Nd (N)
end Go.Proofs.YtbkanebkobjnnaaGreatDoor
namespace Go.Proofs.YtbkanebkobjnnaaGreatDoor.Tri
open Sto (T St Rising keys)
open Go.Proofs.YtbkanebkobjnnaaGreatDoor.Nd (N)

def Tr.small : Tr → Prop
  | .nil => True
  | .leaf p v => p.length ≤ 16 ∧ v.length ≤ 32
  | .ext p t => p.length ≤ 16 ∧ t.small
  | .br v k => v.length ≤ 32 ∧ ∀ i, (k i).small
theorem small_of {t : Tr} (h : t.canon) (hs : ∀ x ∈ t.items, x.1.length ≤ 16 ∧ x.2.length ≤ 32) : t.small := by
  induction t with
  | nil => trivial
  | leaf p v => exact hs (p, v) (List.mem_singleton.2 rfl)
  | ext p t ih =>
    have ht : ¬ t.isNil := by have := h.2.1; cases t <;> simp_all [Tr.isBr, Tr.isNil]
    have hne : t.items ≠ [] := fun e => ht ((items_nil h.2.2).1 e)
    obtain ⟨a, l, e⟩ := List.exists_cons_of_ne_nil hne
    refine ⟨?_, ih h.2.2 fun x hx => ?_⟩
    · have := (hs (p ++ a.1, a.2) (mem_behind.2 ⟨a.1, by rw [e]; exact List.mem_cons_self .., rfl⟩)).1
      simp at this; omega
    · have := hs (p ++ x.1, x.2) (mem_behind.2 ⟨x.1, hx, rfl⟩)
      simp at this; exact ⟨by omega, this.2⟩
  | br v k ih =>
    refine ⟨?_, fun i => ih i (h.1 i) fun x hx => ?_⟩
    · by_cases e : v = []
      · rw [e]; simp
      · exact (hs ([], v) (mem_br.2 (Or.inl ⟨rfl, rfl, e⟩))).2
    · have := hs (hb i :: x.1, x.2) (mem_br.2 (Or.inr ⟨i, x.1, rfl, hx⟩))
      simp at this; exact ⟨by omega, this.2⟩
theorem two_le {L : List T} {i j : Nat} (hij : i < j) (hj : j < L.length) (h1 : L[i]'(by omega) ≠ []) (h2 : L[j] ≠ []) : 2 ≤ (Nd.kidsL L).length := by
  induction L generalizing i j with
  | nil => simp at hj
  | cons a L ih =>
    rw [Nd.kidsL_cons]
    cases j with
    | zero => omega
    | succ j =>
      have hj' : j < L.length := by simpa using hj
      have h2' : L[j] ≠ [] := by simpa using h2
      have one : 1 ≤ (Nd.kidsL L).length := List.length_pos_iff.2 (List.ne_nil_of_mem (a := L[j]) (by unfold Nd.kidsL; rw [List.mem_filter]; exact ⟨List.getElem_mem hj', by simpa using h2'⟩))
      cases i with
      | zero =>
        have : a ≠ [] := by simpa using h1
        rw [if_neg this, List.length_cons]; omega
      | succ i =>
        have := ih (i := i) (j := j) (by omega) hj' (by simpa using h1) h2'
        split
        · exact this
        · rw [List.length_cons]; omega
theorem one_le {L : List T} {i : Nat} (hi : i < L.length) (h : L[i] ≠ []) : 1 ≤ (Nd.kidsL L).length :=
  List.length_pos_iff.2 (List.ne_nil_of_mem (a := L[i]) (by unfold Nd.kidsL; rw [List.mem_filter]; exact ⟨List.getElem_mem hi, by simpa using h⟩))
theorem ofFn_at (f : Fin 16 → T) (i : Fin 16) : (List.ofFn f)[i.val]'(by rw [List.length_ofFn]; exact i.isLt) = f i := List.getElem_ofFn _
theorem node_kids (dg : N → T) (t : Tr) : (t.node dg).kids.length = 16 := by
  cases t <;> simp [Tr.node, Nd.zero]
/-- Each node of a trie may be. -/
theorem node_fine (dg : N → T) (hd : ∀ n : N, n.kids.length = 16 → Nd.fine n = true → (dg n).length = 32) {t : Tr} (hc : t.canon) (hf : t.fits) (hs : t.small) (hn : ¬ t.isNil) : Nd.fine (t.node dg) = true := by
  induction t with
  | nil => exact absurd trivial hn
  | leaf p v =>
    rw [Nd.fine_kinds _ (node_kids dg _)]
    have h1 : v ≠ [] := hc
    have h2 : Nib.fitL p = true := hf
    have h3 := hs.1
    have h4 := hs.2
    simp [Tr.node, Nd.leafB, Nd.pathB, Nd.none16, h1, h2, h3, h4]
  | ext p t ih =>
    have ht : ¬ t.isNil := by have := hc.2.1; cases t <;> simp_all [Tr.isBr, Tr.isNil]
    have h32 : (t.sum dg).length = 32 := by rw [sum_node dg ht]; exact hd _ (node_kids dg t) (ih hc.2.2 hf.2 hs.2 ht)
    rw [Nd.fine_kinds _ (node_kids dg _)]
    have h1 : p ≠ [] := hc.1
    have h2 : Nib.fitL p = true := hf.1
    have h3 := hs.1
    simp [Tr.node, Nd.extB, Nd.pathB, Nd.none16, h1, h2, h3, h32, List.replicate]
  | br v k ih =>
    have hsum : ∀ i, ((k i).sum dg = [] ∧ (k i).isNil) ∨ (((k i).sum dg).length = 32 ∧ ¬ (k i).isNil) := fun i => by
      by_cases e : (k i).isNil
      · refine Or.inl ⟨?_, e⟩
        cases hk : k i with
        | nil => rfl
        | _ => rw [hk] at e; cases e
      · exact Or.inr ⟨by rw [sum_node dg e]; exact hd _ (node_kids dg _) (ih i (hc.1 i) (hf i) (hs.2 i) e), e⟩
    have hne : ∀ i, ¬ (k i).isNil → (k i).sum dg ≠ [] := fun i h e => by
      rcases hsum i with h2 | h2
      · exact h h2.2
      · rw [e] at h2; simp at h2
    rw [Nd.fine_kinds _ (node_kids dg _)]
    have h4 := hs.1
    have hall : Nd.all32 (List.ofFn fun i => (k i).sum dg) = true := by
      unfold Nd.all32
      rw [List.all_eq_true]
      intro x hx
      obtain ⟨i, rfl⟩ := List.mem_ofFn.1 hx
      rcases hsum i with h | h
      · simp [h.1]
      · simp [h.1]
    have htwo : 2 ≤ (if v = [] then 0 else 1) + (Nd.kidsL (List.ofFn fun i => (k i).sum dg)).length := by
      rcases hc.2 with ⟨i, j, hij, hi, hj⟩ | ⟨hv, i, hi⟩
      · have := two_le (L := List.ofFn fun i => (k i).sum dg) (i := i.val) (j := j.val) hij (by rw [List.length_ofFn]; exact j.isLt) (by rw [ofFn_at (fun i => (k i).sum dg) i]; exact hne i hi) (by rw [ofFn_at (fun i => (k i).sum dg) j]; exact hne j hj)
        omega
      · have := one_le (L := List.ofFn fun i => (k i).sum dg) (i := i.val) (by rw [List.length_ofFn]; exact i.isLt) (by rw [ofFn_at (fun i => (k i).sum dg) i]; exact hne i hi)
        rw [if_neg hv]; omega
    have fin : ∀ K : List T, Nd.all32 K = true → 2 ≤ (if v = [] then 0 else 1) + (Nd.kidsL K).length → Nd.branchB ⟨3, [], v, K⟩ = true := fun K h1 h2 => by
      simp [Nd.branchB, h4, h1, h2]
    rw [if_neg (by simp [Tr.node]), if_neg (by simp [Tr.node]), if_pos (show (Tr.node dg (Tr.br v k)).kind = 3 from rfl)]
    exact fin _ hall htwo
/-- The nodes of a tree, in order. -/
def Tr.nodes (dg : N → T) : Tr → List N
  | .nil => []
  | .leaf q v => [Tr.node dg (.leaf q v)]
  | .ext q t => Tr.node dg (.ext q t) :: t.nodes dg
  | .br v k => Tr.node dg (.br v k) :: (List.finRange 16).flatMap fun i => (k i).nodes dg
theorem spots_nodes (dg : N → T) (t : Tr) (p : T) : (t.spots dg p).map (·.2) = t.nodes dg := by
  induction t generalizing p with
  | nil => rfl
  | leaf q v => rfl
  | ext q t ih => rw [Tr.spots, Tr.nodes, List.map_cons, ih]
  | br v k ih =>
    rw [Tr.spots, Tr.nodes, List.map_cons, List.map_flatMap]
    simp only [ih]
end Go.Proofs.YtbkanebkobjnnaaGreatDoor.Tri
namespace Go.Proofs.YtbkanebkobjnnaaGreatDoor.Tri
open Sto (T St Rising keys)

/-- A tree behind a path. -/
def lay (p : T) : Tr → Tr
  | .nil => .nil
  | .leaf q v => .leaf (p ++ q) v
  | .ext q t => .ext (p ++ q) t
  | .br v k => above p (.br v k)
theorem lay_nil (t : Tr) : lay [] t = t := by cases t <;> simp [lay, above]
theorem lay_br {p : T} {t : Tr} (h : t.isBr) : lay p t = above p t := by cases t <;> simp_all [Tr.isBr, lay]
theorem lay_nn {p : T} {t : Tr} (h : ¬ t.isNil) : ¬ (lay p t).isNil := by
  cases t with
  | nil => exact absurd trivial h
  | leaf q v => exact id
  | ext q t => exact id
  | br v k => rw [lay]; unfold above; split <;> exact id
/-- A branch with the items of a leaf or an extension alone, whose path goes on behind n half bytes. -/
def splitT (n : Nat) : Tr → Tr
  | .leaf p v => (match p.drop n with | [] => .br v bare | a :: r => .br [] (upd bare (ix a) (.leaf r v)))
  | .ext p t => (match p.drop n with | [] => .br [] bare | a :: r => .br [] (upd bare (ix a) (lay r t)))
  | _ => .br [] bare
theorem split_leaf0 {n : Nat} {p v : T} (h : p.drop n = []) : splitT n (.leaf p v) = .br v bare := by unfold splitT; simp only [h]
theorem split_leaf1 {n : Nat} {p v r : T} {a : UInt8} (h : p.drop n = a :: r) : splitT n (.leaf p v) = .br [] (upd bare (ix a) (.leaf r v)) := by unfold splitT; simp only [h]
theorem split_ext0 {n : Nat} {p : T} {t : Tr} (h : p.drop n = []) : splitT n (.ext p t) = .br [] bare := by unfold splitT; simp only [h]
theorem split_ext1 {n : Nat} {p r : T} {t : Tr} {a : UInt8} (h : p.drop n = a :: r) : splitT n (.ext p t) = .br [] (upd bare (ix a) (lay r t)) := by unfold splitT; simp only [h]
theorem split_br (n : Nat) (t : Tr) : (splitT n t).isBr := by
  cases t with
  | nil => trivial
  | br v k => trivial
  | leaf p v =>
    cases h : p.drop n with
    | nil => rw [split_leaf0 h]; trivial
    | cons a r => rw [split_leaf1 h]; trivial
  | ext p v =>
    cases h : p.drop n with
    | nil => rw [split_ext0 h]; trivial
    | cons a r => rw [split_ext1 h]; trivial
theorem bare_at (i : Fin 16) : bare i = .nil := rfl
theorem upd_nil (a b : UInt8) (t : Tr) (h : ix a ≠ ix b) : upd bare (ix a) t (ix b) = .nil := upd_ne _ _ (fun e => h e.symm)
theorem put_leaf_same (p v w : T) : (Tr.leaf p v).put p w = lay p (Tr.put .nil [] w) := by
  simp [Tr.put, lay]
theorem put_leaf_split {q v p w : T} (hq : Nib.fitL q = true) (hp : Nib.fitL p = true) (h : q ≠ p) :
    (Tr.leaf q v).put p w = lay (p.take (Nib.commonL q p)) ((splitT (Nib.commonL q p) (.leaf q v)).put (p.drop (Nib.commonL q p)) w) := by
  rw [Tr.put, if_neg h]
  obtain ⟨h1, h2, h3⟩ := common_split q p
  have ht2 := common_take q p
  generalize Nib.commonL q p = c at h1 h2 h3 ht2 ⊢
  rw [ht2]
  have fq := fit_drop c hq
  have fp := fit_drop c hp
  cases hd : q.drop c with
  | nil =>
    rw [split_leaf0 hd]
    cases he : p.drop c with
    | nil => exact absurd (by rw [h1, h2, hd, he, ht2]) h
    | cons b s => simp only [Tr.put, bare_at, fork2, lay]
  | cons a r =>
    rw [split_leaf1 hd]
    cases he : p.drop c with
    | nil => simp only [Tr.put, fork2, fork, lay]
    | cons b s =>
      have hne := h3 a r b s hd he
      have hix : ix a ≠ ix b := fun e => hne (ix_inj (fit_cons.1 (hd ▸ fq)).1 (fit_cons.1 (he ▸ fp)).1 e)
      simp only [Tr.put, upd_nil _ _ _ hix, fork2, fork, lay]
theorem put_ext_whole {q p w : T} {t : Tr} (ht : t.isBr) (hq : q ≠ []) (hc : Nib.commonL q p = q.length) :
    (Tr.ext q t).put p w = lay (p.take (Nib.commonL q p)) (t.put (p.drop (Nib.commonL q p)) w) := by
  rw [Tr.put, ← common_take, hc, List.drop_length, List.take_length]
  simp only
  have hb : (t.put (p.drop q.length) w).isBr := by
    cases t with
    | br v k => cases p.drop q.length <;> trivial
    | nil => cases ht
    | leaf q v => cases ht
    | ext q t => cases ht
  rw [lay_br hb, above, if_neg hq]
theorem put_ext_split {q p w : T} {t : Tr} (ht : t.isBr) (hq : Nib.fitL q = true) (hp : Nib.fitL p = true) (hc : Nib.commonL q p < q.length) :
    (Tr.ext q t).put p w = lay (p.take (Nib.commonL q p)) ((splitT (Nib.commonL q p) (.ext q t)).put (p.drop (Nib.commonL q p)) w) := by
  rw [Tr.put]
  obtain ⟨h1, h2, h3⟩ := common_split q p
  have ht2 := common_take q p
  generalize Nib.commonL q p = c at h1 h2 h3 ht2 hc ⊢
  rw [ht2]
  have fq := fit_drop c hq
  have fp := fit_drop c hp
  cases hd : q.drop c with
  | nil => have := congrArg List.length hd; simp at this; omega
  | cons a r =>
    simp only
    rw [split_ext1 hd, lay_br ht]
    cases he : p.drop c with
    | nil => simp only [Tr.put, fork, lay]
    | cons b s =>
      have hne := h3 a r b s hd he
      have hix : ix a ≠ ix b := fun e => hne (ix_inj (fit_cons.1 (hd ▸ fq)).1 (fit_cons.1 (he ▸ fp)).1 e)
      simp only [Tr.put, upd_nil _ _ _ hix, fork, lay]
theorem ite_two {p q : Prop} [Decidable p] [Decidable q] {α : Type} (a b : α) : (if p then if q then a else b else b) = if p ∧ q then a else b := by
  by_cases h : p <;> by_cases h2 : q <;> simp [h, h2]
theorem get_lay {p : T} {t : Tr} {x : T} : (lay p t).get x = if x.take p.length = p then t.get (x.drop p.length) else none := by
  cases t with
  | nil => simp [lay, Tr.get]
  | leaf q v =>
    simp only [lay, Tr.get]
    rw [ite_two]
    congr 1
    rw [cut_eq x (p ++ q) p.length]; simp
  | ext q t =>
    simp only [lay, Tr.get]
    rw [ite_two]
    have e : x.take (p ++ q).length = p ++ q ↔ x.take p.length = p ∧ (x.drop p.length).take q.length = q := by
      rw [List.length_append, List.take_add]
      constructor
      · intro h
        have h1 := congrArg (List.take p.length) h
        have hl := congrArg List.length h
        simp at hl
        have hl2 : p.length ≤ x.length := by omega
        have l2 : (x.take p.length).length = p.length := by simp; omega
        obtain ⟨a, b⟩ := List.append_inj h l2
        exact ⟨a, b⟩
      · rintro ⟨a, b⟩; rw [a, b]
    by_cases h : x.take (p ++ q).length = p ++ q
    · rw [if_pos h, if_pos (e.1 h), List.length_append, ← List.drop_drop]
    · rw [if_neg h, if_neg (fun h2 => h (e.2 h2))]
  | br v k => exact get_above
theorem lay_canon {p : T} {t : Tr} (h : t.canon) : (lay p t).canon := by
  cases t with
  | nil => trivial
  | leaf q v => exact h
  | ext q t => exact ⟨fun e => h.1 (List.append_eq_nil_iff.1 e).2, h.2⟩
  | br v k => exact (above_canon h trivial).1
theorem lay_fits {p : T} {t : Tr} (hp : Nib.fitL p = true) (h : t.fits) : (lay p t).fits := by
  cases t with
  | nil => trivial
  | leaf q v => exact fit_append.2 ⟨hp, h⟩
  | ext q t => exact ⟨fit_append.2 ⟨hp, h.1⟩, h.2⟩
  | br v k => exact above_fits hp h

/-- The kids that are there. -/
def there (k : Fin 16 → Tr) : List (Fin 16) := (List.finRange 16).filter fun i => !(k i).nilB
theorem mem_there {k : Fin 16 → Tr} {i : Fin 16} : i ∈ there k ↔ ¬ (k i).isNil := by
  unfold there
  rw [List.mem_filter, ← nilB_iff]
  simp [List.mem_finRange]
/-- The node of a branch's items, that may be too few for one. -/
def narrowT (v : T) (k : Fin 16 → Tr) : Tr :=
  match there k with
  | [] => .leaf [] v
  | [i] => if v = [] then lay [hb i] (k i) else .br v k
  | _ => .br v k
theorem narrow_nn (v : T) (k : Fin 16 → Tr) : ¬ (narrowT v k).isNil := by
  unfold narrowT
  split
  · exact id
  · rename_i i hi
    split
    · exact lay_nn (mem_there.1 (by rw [hi]; exact List.mem_singleton.2 rfl))
    · exact id
  · exact id
theorem narrow_fits {v : T} {k : Fin 16 → Tr} (hk : ∀ i, (k i).fits) : (narrowT v k).fits := by
  unfold narrowT
  split
  · rfl
  · rename_i i hi
    split
    · exact lay_fits (by have := i.isLt; exact fit_cons.2 ⟨by rw [hb_toNat]; omega, rfl⟩) (hk i)
    · exact hk
  · exact hk
theorem narrow_canon {v : T} {k : Fin 16 → Tr} (hk : ∀ i, (k i).canon) (h : v ≠ [] ∨ ∃ i, ¬ (k i).isNil) : (narrowT v k).canon := by
  unfold narrowT
  split
  · rename_i hi
    refine h.resolve_right ?_
    rintro ⟨i, hn⟩
    have := mem_there.2 hn
    rw [hi] at this; cases this
  · rename_i i hi
    split
    · exact lay_canon (hk i)
    · rename_i hv
      exact ⟨hk, Or.inr ⟨hv, i, mem_there.1 (by rw [hi]; exact List.mem_singleton.2 rfl)⟩⟩
  · rename_i h0 h1
    refine ⟨hk, Or.inl ?_⟩
    cases hl : there k with
    | nil => exact absurd hl h0
    | cons a r =>
      cases r with
      | nil => exact absurd hl (h1 a)
      | cons b s =>
        have hp : (there k).Pairwise (· < ·) := fin_rise.filter _
        rw [hl] at hp
        exact ⟨a, b, (List.pairwise_cons.1 hp).1 b (List.mem_cons_self ..), mem_there.1 (by rw [hl]; simp), mem_there.1 (by rw [hl]; simp)⟩
theorem isNil_eq {t : Tr} (h : t.isNil) : t = .nil := by cases t <;> simp_all [Tr.isNil]
theorem get_narrow {v : T} {k : Fin 16 → Tr} (y : T) (hv : v ≠ [] ∨ ∃ i, ¬ (k i).isNil) : (narrowT v k).get y = (Tr.br v k).get y := by
  unfold narrowT
  split
  · rename_i hi
    have hk : ∀ i, k i = .nil := fun i => by
      refine isNil_eq (Classical.byContradiction fun hn => ?_)
      have := mem_there.2 hn
      rw [hi] at this; cases this
    have hvn : v ≠ [] := hv.resolve_right (fun ⟨i, hn⟩ => hn (by rw [hk i]; trivial))
    cases y with
    | nil => simp [Tr.get, hvn]
    | cons b q => simp [Tr.get, hk]
  · rename_i i hi
    split
    · rename_i e
      subst e
      rw [get_lay]
      cases y with
      | nil => simp [Tr.get]
      | cons b q =>
        simp only [Tr.get, List.length_cons, List.length_nil, Nat.zero_add, List.take_succ_cons, List.take_zero, List.drop_succ_cons, List.drop_zero, List.cons.injEq, and_true]
        by_cases hb1 : b.toNat ≤ 15
        · rw [if_pos hb1]
          by_cases e : b = hb i
          · rw [if_pos e, e, ix_hb]
          · rw [if_neg e]
            have : ¬ ix b ∈ there k := by
              rw [hi, List.mem_singleton]
              intro e2
              exact e (by rw [← e2, hb_ix hb1])
            rw [isNil_eq (Classical.byContradiction fun hn => this (mem_there.2 hn))]; rfl
        · rw [if_neg hb1, if_neg]
          intro e
          exact hb1 (by rw [e, hb_toNat]; have := i.isLt; omega)
    · rfl
  · rfl
/-- A tree without the item of a path. -/
def Tr.del : Tr → T → Tr
  | .nil, _ => .nil
  | .leaf _ _, _ => .nil
  | .ext q t, p => lay q (t.del (p.drop q.length))
  | .br _ k, [] => narrowT [] k
  | .br v k, b :: p => narrowT v (upd k (ix b) ((k (ix b)).del p))
theorem del_good {t : Tr} {p : T} (ht : t.canon) (hf : t.fits) (hp : Nib.fitL p = true) (hg : t.get p ≠ none) :
    (t.del p).canon ∧ (t.del p).fits ∧ (t.isBr → ¬ (t.del p).isNil) ∧ ∀ x, (t.del p).get x = if x = p then none else t.get x := by
  induction t generalizing p with
  | nil => exact absurd rfl hg
  | leaf q v =>
    refine ⟨trivial, trivial, (fun h => by cases h), fun x => ?_⟩
    simp only [Tr.get, Tr.del] at hg ⊢
    by_cases e : p = q
    · subst e
      by_cases e2 : x = p <;> simp [e2]
    · rw [if_neg e] at hg; exact absurd rfl hg
  | ext q t ih =>
    obtain ⟨hq, hbt, hct⟩ := ht
    simp only [Tr.get] at hg
    by_cases e : p.take q.length = q
    · rw [if_pos e] at hg
      obtain ⟨g1, g2, g3, g4⟩ := ih hct hf.2 (fit_drop _ hp) hg
      refine ⟨lay_canon g1, lay_fits hf.1 g2, (fun h => by cases h), fun x => ?_⟩
      rw [Tr.del, get_lay, g4]
      simp only [Tr.get]
      simp only [cut_eq x p q.length, e]
      by_cases e1 : x.take q.length = q
      · simp [e1]
      · simp [e1]
    · rw [if_neg e] at hg; exact absurd rfl hg
  | br v k ih =>
    obtain ⟨hk, hT⟩ := ht
    cases p with
    | nil =>
      have hs : ∃ i, ¬ (k i).isNil := by
        rcases hT with ⟨i, _, _, h, _⟩ | ⟨_, i, h⟩ <;> exact ⟨i, h⟩
      refine ⟨narrow_canon hk (Or.inr hs), narrow_fits hf, fun _ => narrow_nn _ _, fun x => ?_⟩
      rw [Tr.del, get_narrow _ (Or.inr hs)]
      cases x with
      | nil => simp [Tr.get]
      | cons b q => simp [Tr.get]
    | cons b p =>
      obtain ⟨hb1, hp1⟩ := fit_cons.1 hp
      simp only [Tr.get, if_pos hb1] at hg
      obtain ⟨g1, g2, g3, g4⟩ := ih (ix b) (hk _) (hf _) hp1 hg
      have hs : v ≠ [] ∨ ∃ i, ¬ (upd k (ix b) ((k (ix b)).del p) i).isNil := by
        rcases hT with ⟨i, j, hij, h1, h2⟩ | ⟨h, _⟩
        · by_cases e : i = ix b
          · exact Or.inr ⟨j, by rw [upd_ne _ _ (fun e2 => by rw [e, e2] at hij; exact absurd hij (Nat.lt_irrefl _))]; exact h2⟩
          · exact Or.inr ⟨i, by rw [upd_ne _ _ e]; exact h1⟩
        · exact Or.inl h
      have hk2 : ∀ i, (upd k (ix b) ((k (ix b)).del p) i).canon := fun i => by
        unfold upd; split
        · exact g1
        · exact hk i
      refine ⟨narrow_canon hk2 hs, narrow_fits (upd_fits hf g2), fun _ => narrow_nn _ _, fun x => ?_⟩
      rw [Tr.del, get_narrow _ hs]
      cases x with
      | nil => simp [Tr.get]
      | cons c q =>
        simp only [Tr.get, List.cons.injEq]
        by_cases hc : c.toNat ≤ 15
        · rw [if_pos hc]
          by_cases e : ix c = ix b
          · have e2 := ix_inj hc hb1 e
            subst e2
            rw [upd_at, g4, if_pos hc]; simp
          · rw [upd_ne _ _ e, if_neg (fun h => e (by rw [h.1])), if_pos hc]
        · rw [if_neg hc, if_neg hc]; simp
theorem del_items {t : Tr} {p : T} (ht : t.canon) (hf : t.fits) (hp : Nib.fitL p = true) (hg : t.get p ≠ none) : (t.del p).items = del t.items p :=
  look_ext (items_rising _) (del_rising (items_rising _) _) fun x => by
    rw [look_items, (del_good ht hf hp hg).2.2.2 x, look_del (items_rising _), look_items]
theorem TreeOf.del {S : St} {t : Tr} (h : TreeOf S t) (hS : Rising S) {k : T} (hg : Sto.look S k ≠ none) : TreeOf (Tri.del S k) (t.del (Nib.ofL k)) := by
  have hg2 : t.get (Nib.ofL k) ≠ none := by rw [h.get hS]; exact hg
  exact ⟨(del_good h.1 h.2.1 (ofL_fit k) hg2).1, (del_good h.1 h.2.1 (ofL_fit k) hg2).2.1, by rw [del_items h.1 h.2.1 (ofL_fit k) hg2, h.2.2, paths_del]⟩
/-- What the program asks of a tree that it changes: an extension's child is a branch. -/
def Tr.firm : Tr → Prop
  | .nil => True
  | .leaf _ _ => True
  | .ext p t => p ≠ [] ∧ t.isBr ∧ t.firm
  | .br _ k => ∀ i, (k i).firm
theorem canon_firm {t : Tr} (h : t.canon) : t.firm := by
  induction t with
  | nil => trivial
  | leaf p v => trivial
  | ext p t ih => exact ⟨h.1, h.2.1, ih h.2.2⟩
  | br v k ih => exact fun i => ih i (h.1 i)
theorem lay_firm {p : T} {t : Tr} (h : t.firm) : (lay p t).firm := by
  cases t with
  | nil => trivial
  | leaf q v => trivial
  | ext q t => exact ⟨fun e => h.1 (List.append_eq_nil_iff.1 e).2, h.2⟩
  | br v k =>
    rw [lay]
    unfold above
    split
    · exact h
    · rename_i e; exact ⟨e, trivial, h⟩
theorem split_firm {n : Nat} {t : Tr} (h : t.firm) : (splitT n t).firm := by
  cases t with
  | nil => exact fun i => trivial
  | br v k => exact fun i => trivial
  | leaf p v =>
    cases hd : p.drop n with
    | nil => rw [split_leaf0 hd]; exact fun i => trivial
    | cons a r => rw [split_leaf1 hd]; intro i; unfold upd; split <;> trivial
  | ext p t =>
    cases hd : p.drop n with
    | nil => rw [split_ext0 hd]; exact fun i => trivial
    | cons a r =>
      rw [split_ext1 hd]
      intro i
      unfold upd
      split
      · exact lay_firm h.2.2
      · trivial
theorem split_fits {n : Nat} {t : Tr} (h : t.fits) : (splitT n t).fits := by
  cases t with
  | nil => exact fun i => trivial
  | br v k => exact fun i => trivial
  | leaf p v =>
    have h2 := fit_drop n h
    cases hd : p.drop n with
    | nil => rw [split_leaf0 hd]; exact fun i => trivial
    | cons a r => rw [split_leaf1 hd]; exact upd_fits (fun _ => trivial) (fit_cons.1 (hd ▸ h2)).2
  | ext p t =>
    have h2 := fit_drop n h.1
    cases hd : p.drop n with
    | nil => rw [split_ext0 hd]; exact fun i => trivial
    | cons a r => rw [split_ext1 hd]; exact upd_fits (fun _ => trivial) (lay_fits (fit_cons.1 (hd ▸ h2)).2 h.2)
theorem fork_nn (a : UInt8) (t : Tr) (p w : T) : ¬ (fork a t p w).isNil := by cases p <;> exact id
theorem above_nn {p : T} {t : Tr} (h : ¬ t.isNil) : ¬ (above p t).isNil := by unfold above; split; exact h; exact id
theorem put_nn (t : Tr) (p w : T) : ¬ (t.put p w).isNil := by
  cases t with
  | nil => exact id
  | leaf q v =>
    rw [Tr.put]
    split
    · exact id
    · rename_i hne
      obtain ⟨h1, h2, h3⟩ := common_split q p
      have ht2 := common_take q p
      generalize Nib.commonL q p = c at h1 h2 h3 ht2 ⊢
      refine above_nn ?_
      cases hd : q.drop c with
      | cons a r => exact fork_nn _ _ _ _
      | nil =>
        cases he : p.drop c with
        | cons b s => exact id
        | nil => exact absurd (by rw [h1, h2, hd, he, ht2]) hne
  | ext q t =>
    rw [Tr.put]
    split
    · exact id
    · exact above_nn (fork_nn _ _ _ _)
  | br v k => cases p <;> exact id
/-- No path of a node is longer than a key's. -/
def Tr.low : Tr → Prop
  | .nil => True
  | .leaf p _ => p.length ≤ 16
  | .ext p t => p.length ≤ 16 ∧ t.low
  | .br _ k => ∀ i, (k i).low
theorem small_low {t : Tr} (h : t.small) : t.low := by
  induction t with
  | nil => trivial
  | leaf p v => exact h.1
  | ext p t ih => exact ⟨h.1, ih h.2⟩
  | br v k ih => exact fun i => ih i (h.2 i)
structure Trim (t : Tr) : Prop where
  firm : t.firm
  fits : t.fits
  low : t.low
theorem Trim.br {v : T} {k : Fin 16 → Tr} (h : Trim (.br v k)) (i : Fin 16) : Trim (k i) := ⟨h.firm i, h.fits i, h.low i⟩
theorem Trim.ext {p : T} {t : Tr} (h : Trim (.ext p t)) : Trim t := ⟨h.firm.2.2, h.fits.2, h.low.2⟩
theorem low_split {n : Nat} {t : Tr} (h : t.low) (hf : t.firm) : (splitT n t).low := by
  cases t with
  | nil => exact fun i => trivial
  | br v k => exact fun i => trivial
  | leaf p v =>
    cases hd : p.drop n with
    | nil => rw [split_leaf0 hd]; exact fun i => trivial
    | cons a r =>
      rw [split_leaf1 hd]
      have := congrArg List.length hd
      have h2 : p.length ≤ 16 := h
      simp at this
      intro i; unfold upd; split
      · show r.length ≤ 16
        omega
      · trivial
  | ext p t =>
    cases hd : p.drop n with
    | nil => rw [split_ext0 hd]; exact fun i => trivial
    | cons a r =>
      rw [split_ext1 hd, lay_br hf.2.1]
      have := congrArg List.length hd
      have h2 : p.length ≤ 16 := h.1
      simp at this
      intro i; unfold upd; split
      · unfold above; split
        · exact h.2
        · exact ⟨by omega, h.2⟩
      · trivial
theorem Trim.split {n : Nat} {t : Tr} (h : Trim t) : Trim (splitT n t) := ⟨split_firm h.firm, split_fits h.fits, low_split h.low h.firm⟩
theorem Trim.nil : Trim .nil := ⟨trivial, trivial, trivial⟩
/-- What falls from one call of with to the next. -/
def rank : Tr → T → Nat
  | .leaf _ _, p => 2 * p.length + 1
  | .ext _ _, p => 2 * p.length + 1
  | _, p => 2 * p.length
theorem rank_br {t : Tr} (h : t.isBr) (p : T) : rank t p = 2 * p.length := by cases t <;> simp_all [Tr.isBr, rank]
theorem rank_le (t : Tr) (p : T) : rank t p ≤ 2 * p.length + 1 := by cases t <;> simp [rank]
/-- Where a leaf's or an extension's path ends within what it has in common with another one, nothing is split. -/
def splits (t : Tr) (p : T) : Bool := match t with
  | .leaf q _ => decide (Nib.commonL q p < q.length) || decide (Nib.commonL q p < p.length)
  | .ext q _ => decide (Nib.commonL q p < q.length)
  | _ => false
theorem put_leaf_plan {q v p x : T} (hq : Nib.fitL q = true) (hp : Nib.fitL p = true) :
    (Tr.leaf q v).put p x = lay (p.take (Nib.commonL q p)) (((if splits (.leaf q v) p then splitT (Nib.commonL q p) (.leaf q v) else .nil)).put (p.drop (Nib.commonL q p)) x) := by
  have hle := Nib.commonL_le q p
  by_cases h : splits (.leaf q v) p = true
  · rw [if_pos h]
    refine put_leaf_split hq hp fun e => ?_
    subst e
    have : Nib.commonL q q = q.length := by have := common_append q [] []; simpa [Nib.commonL] using this
    simp [splits, this] at h
  · rw [if_neg h]
    simp only [splits, Bool.or_eq_true, decide_eq_true_eq, not_or] at h
    obtain ⟨h1, h2, _⟩ := common_split q p
    have e1 : Nib.commonL q p = q.length := by omega
    have e2 : Nib.commonL q p = p.length := by omega
    have e : q = p := by
      have t2 := common_take q p
      rw [e1, List.take_length] at t2
      rw [t2, ← e1, e2, List.take_length]
    subst e
    rw [put_leaf_same, e1, List.take_length, List.drop_length]
theorem put_ext_plan {q p x : T} {t : Tr} (ht : t.isBr) (hq0 : q ≠ []) (hq : Nib.fitL q = true) (hp : Nib.fitL p = true) :
    (Tr.ext q t).put p x = lay (p.take (Nib.commonL q p)) (((if splits (.ext q t) p then splitT (Nib.commonL q p) (.ext q t) else t)).put (p.drop (Nib.commonL q p)) x) := by
  have hle := Nib.commonL_le q p
  by_cases h : splits (.ext q t) p = true
  · rw [if_pos h]
    exact put_ext_split ht hq hp (by simpa [splits] using h)
  · rw [if_neg h]
    exact put_ext_whole ht hq0 (by simp [splits] at h; omega)
theorem put_br {t : Tr} (h : t.isBr) (p x : T) : (t.put p x).isBr := by
  cases t with
  | br v k => cases p <;> trivial
  | _ => cases h
end Go.Proofs.YtbkanebkobjnnaaGreatDoor.Tri
