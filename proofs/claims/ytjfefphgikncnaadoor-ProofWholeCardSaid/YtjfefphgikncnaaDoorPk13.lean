/- TriRefGet, TriRefPut, TriItems, TriRefDel, TriCount, TriTrie, TriWithT, TriDelT, TriRefOf -/
import Derived.Test.YtjfefphgikncnaaDoorPk12
import Derived.Test.YtjfefphgikncnaaDoorPk07
import Derived.Test.YtjfefphgikncnaaDoorPk02
import Derived.Deep.RegionHeld3
namespace Go.Proofs.YtjfefphgikncnaaDoor
open Go.RowKit
open Go.Proofs.YtjfefphgikncnaaDoor.Sto (St)

def Tri.keyed (x : List UInt8) : Bool := decide (1 ≤ x.length) && decide (x.length ≤ 8)
set_option maxRecDepth 8000 in
theorem rKeyed_all (x : List UInt8) (w : World) :
    Calls Tryd.prog 26 #[.string ⟨x.toArray⟩] w fun e w' => e = .returned (.bool (Tri.keyed x)) ∧ w = w' := by
  unfold Tri.keyed
  go_enter Tryd.func26, Tryd.ntmps26
  by_cases h1 : 1 ≤ x.length
  · have g1 : ((x.length : Int) ≥ 1) := by omega
    by_cases h2 : x.length ≤ 8
    · have g2 : ((x.length : Int) ≤ 8) := by omega
      go_wp2
      go_ret
      exact ⟨by simp [h1, h2], rfl⟩
    · have g2 : ¬ ((x.length : Int) ≤ 8) := by omega
      go_wp2
      go_ret
      exact ⟨by simp, rfl⟩
  · have g1 : ¬ ((x.length : Int) ≥ 1) := by omega
    go_wp2
    go_ret
    exact ⟨by simp, rfl⟩
/-- What Get tells: the value, or what is wrong. -/
def Tri.getC (S : St) (x : List UInt8) : List UInt8 × Nat := if Tri.keyed x then (match Sto.look S x with | some v => (v, 0) | none => ([], 5)) else ([], 1)
theorem Tri.getC_no {S : St} {x : List UInt8} (h : Tri.keyed x = false) : Tri.getC S x = ([], 1) := by simp [Tri.getC, h]
theorem Tri.getC_none {S : St} {x : List UInt8} (h : Tri.keyed x = true) (h2 : Sto.look S x = none) : Tri.getC S x = ([], 5) := by simp [Tri.getC, h, h2]
theorem Tri.getC_some {S : St} {x y : List UInt8} (h : Tri.keyed x = true) (h2 : Sto.look S x = some y) : Tri.getC S x = (y, 0) := by simp [Tri.getC, h, h2]
end Go.Proofs.YtjfefphgikncnaaDoor
namespace Go.Proofs.YtjfefphgikncnaaDoor
open Go.RowKit
open Go.Proofs.YtjfefphgikncnaaDoor.Sto (St)

/-- What Put refuses. -/
def Tri.putC (S : St) (x y : List UInt8) : Nat := if Tri.keyed x then (if 1 ≤ y.length ∧ y.length ≤ 32 ∧ (Tri.at_ S x = true ∨ S.length < 1024) then 0 else 2) else 1
def Tri.putL (S : St) (x y : List UInt8) : St := if Tri.putC S x y = 0 then Tri.put S x y else []
theorem Tri.putC_no {S : St} {x y : List UInt8} (h : Tri.keyed x = false) : Tri.putC S x y = 1 := by simp [Tri.putC, h]
theorem Tri.putC_bad {S : St} {x y : List UInt8} (h : Tri.keyed x = true) (h2 : ¬ (1 ≤ y.length ∧ y.length ≤ 32 ∧ (Tri.at_ S x = true ∨ S.length < 1024))) : Tri.putC S x y = 2 := by rw [Tri.putC, if_pos h, if_neg h2]
theorem Tri.putC_ok {S : St} {x y : List UInt8} (h : Tri.keyed x = true) (h2 : 1 ≤ y.length ∧ y.length ≤ 32 ∧ (Tri.at_ S x = true ∨ S.length < 1024)) : Tri.putC S x y = 0 := by rw [Tri.putC, if_pos h, if_pos h2]
def RtPutPost (S : St) (x y : List UInt8) (w : World) (e : Ending) (w' : World) : Prop :=
  ∃ v', e = .returned (.tuple #[v', .int .i64 (Tri.putC S x y)]) ∧ ItAt w' v' (Tri.putL S x y) ∧ Below w.heap.size w w'
theorem RtPutPost.bad {S : St} {x y : List UInt8} {w w' : World} {c : Nat} (h : Tri.putC S x y = c) (hc : c ≠ 0) (hb : Below w.heap.size w w') : RtPutPost S x y w (.returned (.tuple #[.slice none 0 0, .int .i64 c])) w' := by
  subst h
  exact ⟨_, rfl, by rw [Tri.putL, if_neg hc]; exact RowsAt.nil .., hb⟩
theorem RtPutPost.good {S T R : St} {x y : List UInt8} {w w' : World} {v' : Value} (h : Tri.putC S x y = 0) (hp : Tri.put S x y = T ++ (x, y) :: R) (hv : ItAt w' v' (T ++ (x, y) :: R)) (hb : Below w.heap.size w w') : RtPutPost S x y w (.returned (.tuple #[v', .int .i64 0])) w' := by
  refine ⟨v', by rw [h]; rfl, ?_, hb⟩
  rw [Tri.putL, if_pos h, hp]; exact hv
/-- All of a slice of items behind a row of the call's own. -/
theorem append_it {w : World} {v s : Value} {S : St} {B n : Nat} {xs : List Value} (hv : ItAt w v S) (hs : w.ownsRow B 42 2 s n xs) (hl : n + S.length ≤ 1000000) (hB : B ≤ w.heap.size) :
    ∃ v' w', (Builtin.append_ #[22, 22] 22 #[s, v]).run Tryd.prog w = .ok v' w' ∧ w'.ownsRow B 42 2 v' (n + S.length) (xs ++ rowsL itcl S) ∧ w.grownBy w' s.ownBlock ∧ (v'.ownBlock = s.ownBlock ∨ v'.ownBlock = some w.heap.size) := by
  obtain ⟨i0, hi, hz0, hz1, hz2⟩ := info_parts Tryd.infoItem
  exact append_rows 22 42 i0 _ 32 Tryd.underlying22 Tryd.sizeOf42 hi hz0 hz1 hz2 rfl (by decide) (by decide) itcl_length itcl_one hv hs hl hB
/-- The third append: what was there behind the new one. -/
theorem it_third {w w1 w2 : World} {v1 l2 : Value} {T R : St} {one : List UInt8 × List UInt8} {g' cap' B : Nat} {o : Obj} (hB : B ≤ w.heap.size) (hb : Below w.heap.size w w1) (hB1 : ∀ k, v1.ownBlock = some k → w.heap.size ≤ k)
    (h2 : w2.ownsRow B 42 2 (.slice (some ⟨g', 0, none⟩) (T.length + 1) cap') (T.length + 1) (rowsL itcl T ++ rowsL itcl [one])) (hg : (w1.alloc o).grownBy w2 v1.ownBlock) (hg' : w.heap.size ≤ g') (hs : ItAt w l2 R) (hl : T.length + 1 + R.length ≤ 1000000) :
    ∃ v3 w3, (Builtin.append_ #[22, 22] 22 #[.slice (some ⟨g', 0, none⟩) (T.length + 1) cap', l2]).run Tryd.prog w2 = .ok v3 w3 ∧ ItAt w3 v3 (T ++ one :: R) ∧ Below w.heap.size w w3 := by
  have hb1 := hb.alloc hb.size o
  have hb2 : Below w.heap.size w w2 := hb1.trans ((Out.grown hg (F := fun j => v1.ownBlock = some j) (fun j e => e)).below (fun j hj => hB1 j hj) hb1.size)
  obtain ⟨v3, w3, hrun, hown, hgr, _⟩ := append_it (RowsAt.below hs hb2) h2 hl (Nat.le_trans hB hb2.size)
  refine ⟨v3, w3, hrun, ?_, hb2.trans ((Out.grown hgr (F := fun j => j = g') (fun j e => by simp [Value.ownBlock] at e; exact e.symm)).below (fun j hj => hj ▸ hg') hb2.size)⟩
  have e1 : rowsL itcl (T ++ one :: R) = rowsL itcl T ++ rowsL itcl [one] ++ rowsL itcl R := by
    rw [show T ++ one :: R = (T ++ [one]) ++ R by simp, rowsL_append, rowsL_append]
  have e2 : (T ++ one :: R).length = T.length + 1 + R.length := by simp; omega
  refine RowsAt.own (B := B) itcl_length ?_
  rw [e1, e2]
  exact hown
theorem bel_drewI {B : Nat} {a w w' : World} (h : Below B a w) (hq : ∃ q, w' = w.drewN q) : Below B a w' := by
  obtain ⟨q, rfl⟩ := hq
  exact bel_drewN h q
set_option maxRecDepth 8000 in
set_option maxHeartbeats 2000000 in
theorem rtPut_all (S : St) (v : Value) (x y : List UInt8) (w : World) (hv : ItAt w v S) (hl : S.length ≤ 10000) :
    Calls Tryd.prog 15 #[v, .string ⟨x.toArray⟩, .string ⟨y.toArray⟩] w (RtPutPost S x y w) := by
  have HK := Lib.hid (fun w => rKeyed_all x w)
  have HV := Lib.hid hv
  have HL := Lib.hid hl
  have HA := Lib.hid (rtAt_any S v x w hv hl)
  have HPE := Lib.hid (Tri.put_eq S x y)
  obtain ⟨A, cap, rfl, hcap, hcs⟩ := hv.form
  have HCS := Lib.hid hcs
  have HCAP := Lib.hid hcap
  have HPL := Lib.hid (Tri.pos_le S x)
  have HPT : Hid (Tri.at_ S x = true → Tri.pos S x < S.length) := Lib.hid (fun h => by
    unfold Tri.at_ at h
    rcases Nat.lt_or_ge (Tri.pos S x) S.length with h2 | h2
    · exact h2
    · rw [List.getElem?_eq_none h2] at h; simp at h)
  have HB0 := Lib.hid (Below.refl w.heap.size w)
  obtain ⟨kb, hkb⟩ : ∃ kb, Tri.keyed x = kb := ⟨_, rfl⟩
  have HKB := Lib.hid hkb
  rw [hkb] at HK
  clear hv hl hkb hcs hcap
  go_enter Tryd.func15, Tryd.ntmps15
  go_wp2_with fail
  refine (HK.out w).mono ?_
  rintro e w1 ⟨rfl, rfl⟩
  cases kb with
  | false =>
    go_wp2
    go_ret2
    exact RtPutPost.bad (Tri.putC_no HKB.out) (by decide) HB0.out
  | true =>
    go_wp2_with fail
    refine HA.out.mono ?_
    rintro e w1 ⟨rfl, hq⟩
    have HB1 : Hid (Below w.heap.size w w1) := Lib.hid (bel_drewI HB0.out hq)
    have HV1 := Lib.hid (RowsAt.below HV.out HB1.out)
    have HSZ1 := Lib.hid HB1.out.size
    clear hq
    obtain ⟨b, hb⟩ : ∃ b, Tri.at_ S x = b := ⟨_, rfl⟩
    have HBB := Lib.hid hb
    rw [hb] at HPE HPT ⊢
    obtain ⟨P, hP⟩ : ∃ P, Tri.pos S x = P := ⟨_, rfl⟩
    rw [hP] at HPE HPL HPT ⊢
    clear hb hP
    by_cases hbad : 1 ≤ y.length ∧ y.length ≤ 32 ∧ (b = true ∨ S.length < 1024)
    · have HOK : Hid (Tri.putC S x y = 0) := Lib.hid (Tri.putC_ok HKB.out (by rw [HBB.out]; exact hbad))
      have y1 : decide ((y.length : Int) < 1) = false := decide_eq_false (by omega)
      have y2 : decide ((32 : Int) < (y.length : Int)) = false := decide_eq_false (by omega)
      have h0 : (0 : Int) ≤ (P : Int) := by omega
      have hpc : (P : Int) ≤ (cap : Int) := by have := HCAP.out; have := HPL.out; omega
      have hps : (P : Int) ≤ (S.length : Int) := by have := HPL.out; omega
      have ht := HV1.out.take P HPL.out
      have hTl : (S.take P).length = P := by have := HPL.out; simp; omega
      obtain ⟨T, hT⟩ : ∃ T, S.take P = T := ⟨_, rfl⟩
      rw [hT] at ht hTl HPE
      obtain ⟨v1, w2, hrun1, hown1, hgr1, hat1⟩ := append_it ht (World.ownsRow_nil w1 w1.heap.size 42 2) (by have := HL.out; have := HPL.out; omega) (Nat.le_refl _)
      rw [List.nil_append, Nat.zero_add] at hown1
      have hb2 : Below w1.heap.size w1 w2 := (Out.grown hgr1 (F := fun _ => False) (fun j e => by simp [Value.ownBlock] at e)).below (fun _ hf => hf.elim) (Nat.le_refl _)
      obtain ⟨i0, hi, hz0, hz1, hz2⟩ := info_parts Tryd.infoItem
      obtain ⟨A1, cap1, rfl⟩ := own_form hown1
      have HOW1 := Lib.hid hown1
      have HB2 := Lib.hid hb2
      have HTL : Hid (T.length = P ∧ P ≤ 10000) := Lib.hid ⟨hTl, by have := HL.out; have := HPL.out; omega⟩
      cases b with
      | false =>
        have hs1 : decide ((1024 : Int) ≤ (S.length : Int)) = false := decide_eq_false (by have := hbad.2.2; simp at this; omega)
        have hRl : (S.drop P).length ≤ 10000 := by have := HL.out; simp; omega
        obtain ⟨R, hR⟩ : ∃ R, S.drop P = R := ⟨_, rfl⟩
        simp only [Bool.false_eq_true, if_false, Nat.add_zero] at HPE
        rw [hR] at hRl HPE
        have HTH := Lib.hid (fun w3 g' cap' l2 h2 hg hg' hs => it_third (w2 := w3) (l2 := l2) (T := T) (R := R) (one := (x, y)) (g' := g') (cap' := cap') (o := .cells #[.string ⟨x.toArray⟩, .string ⟨y.toArray⟩] 42) (Nat.le_refl _) hb2 (fun k hk => (World.ownsRow.lt hown1 k hk).1) h2 hg hg' hs (by have := HL.out; have := HPL.out; omega))
        have HFIN : Hid (∀ v3 w3, ItAt w3 v3 (T ++ (x, y) :: R) → Below w1.heap.size w1 w3 → RtPutPost S x y w (.returned (.tuple #[v3, .int .i64 0])) w3) := Lib.hid (fun v3 w3 q1 q2 => RtPutPost.good HOK.out HPE.out q1 (HB1.out.trans (q2.mono HSZ1.out)))
        have HRQ := Lib.hid hR
        clear hgr1 hat1 hb2 hown1 hTl hRl ht hT hR hbad
        rcases HCS.out with ⟨hs0, rfl, rfl⟩ | ⟨b, o, rfl⟩
        · have hSl : S.length = 0 := by rw [hs0]; rfl
          obtain rfl : P = 0 := by have := HPL.out; omega
          have HDR : Hid (ItAt w1 (.slice none 0 0) R) := Lib.hid (by rw [← HRQ.out, hs0]; exact RowsAt.nil ..)
          rw [hSl] at hs1 ⊢
          clear hs0 hSl hps hpc
          go_wp2_with (first | (at_builtin; refine wpList_append_run rfl _ _ _ rfl (.slice none 0 0) (.slice none 0 0) (.slice A1 T.length cap1) (by rfl) (by rfl) hrun1 ?_) | (at_builtin; refine wpList_append_lies _ rfl _ _ _ rfl w1.heap.size 42 i0 (.agg #[.string ⟨#[]⟩, .string ⟨#[]⟩]) 2 32 Tryd.underlying22 hi hz0 hz1 hz2 rfl (by decide) (.slice A1 T.length cap1) T.length (rowsL itcl T) (by rfl) (World.ownsRow.alloc HOW1.out _) ⟨w2.heap.size, 0, none⟩ 1 1 (rowsL itcl [(x, y)]) (by rfl) rfl (World.news_of_block (heap_new_at _ _ _ (by simp))) (by simp [rowsL, itcl, Value.oneCell']) (by decide) (by have := HTL.out; unfold maxLen; omega) (by have := HTL.out; omega) (by have := HB2.out.size; simp at this ⊢; omega) (w2.heap.size + 1) (by simp) ?_; intro g' cap' w3 hown3 hgr3 hat3 hlt3) | (at_builtin; obtain ⟨v4, w4, hrun4, hst4, hb4⟩ := HTH.out w3 g' cap' (.slice none 0 0) hown3 hgr3 (World.ownsRow.lt hown3 g' rfl).1 HDR.out; refine wpList_append_run rfl _ _ _ rfl (.slice (some ⟨g', 0, none⟩) (T.length + 1) cap') (.slice none 0 0) v4 (by rfl) (by rfl) hrun4 ?_))
          go_ret2
          exact HFIN.out _ _ hst4 hb4
        · by_cases hPc : P = cap
          · subst hPc
            have hSP : S.length = P := by have := HCAP.out; have := HPL.out; omega
            have HDR : Hid (ItAt w1 (.slice (some ⟨b, o, none⟩) 0 0) R) := Lib.hid (by
              have h := RowsAt.drop HV1.out P (Nat.le_of_eq hSP.symm) b o (fun h => by omega)
              rw [HRQ.out, hSP, Nat.sub_self] at h
              exact h)
            rw [hSP] at hs1 ⊢
            clear hSP hps hpc
            go_wp2_with (first | (at_builtin; refine wpList_append_run rfl _ _ _ rfl (.slice none 0 0) (.slice (some ⟨b, o, none⟩) P P) (.slice A1 T.length cap1) (by rfl) (by rfl) hrun1 ?_) | (at_builtin; refine wpList_append_lies _ rfl _ _ _ rfl w1.heap.size 42 i0 (.agg #[.string ⟨#[]⟩, .string ⟨#[]⟩]) 2 32 Tryd.underlying22 hi hz0 hz1 hz2 rfl (by decide) (.slice A1 T.length cap1) T.length (rowsL itcl T) (by rfl) (World.ownsRow.alloc HOW1.out _) ⟨w2.heap.size, 0, none⟩ 1 1 (rowsL itcl [(x, y)]) (by rfl) rfl (World.news_of_block (heap_new_at _ _ _ (by simp))) (by simp [rowsL, itcl, Value.oneCell']) (by decide) (by have := HTL.out; unfold maxLen; omega) (by have := HTL.out; omega) (by have := HB2.out.size; simp at this ⊢; omega) (w2.heap.size + 1) (by simp) ?_; intro g' cap' w3 hown3 hgr3 hat3 hlt3) | (at_builtin; obtain ⟨v4, w4, hrun4, hst4, hb4⟩ := HTH.out w3 g' cap' (.slice (some ⟨b, o, none⟩) 0 0) hown3 hgr3 (World.ownsRow.lt hown3 g' rfl).1 HDR.out; refine wpList_append_run rfl _ _ _ rfl (.slice (some ⟨g', 0, none⟩) (T.length + 1) cap') (.slice (some ⟨b, o, none⟩) 0 0) v4 (by rfl) (by rfl) hrun4 ?_))
            go_ret2
            exact HFIN.out _ _ hst4 hb4
          · have hPc2 : ¬ ((cap : Int) - (P : Int) = 0) := by have := HCAP.out; have := HPL.out; omega
            have HDR : Hid (ItAt w1 (.slice (some ⟨b, o + P * 2, none⟩) (S.length - P) (cap - P)) R) := Lib.hid (by rw [← HRQ.out]; exact RowsAt.drop HV1.out P HPL.out b (o + P * 2) (fun _ => ⟨rfl, rfl⟩))
            go_wp2_with (first | (at_builtin; refine wpList_append_run rfl _ _ _ rfl (.slice none 0 0) (.slice (some ⟨b, o, none⟩) P cap) (.slice A1 T.length cap1) (by rfl) (by rfl) hrun1 ?_) | (at_builtin; refine wpList_append_lies _ rfl _ _ _ rfl w1.heap.size 42 i0 (.agg #[.string ⟨#[]⟩, .string ⟨#[]⟩]) 2 32 Tryd.underlying22 hi hz0 hz1 hz2 rfl (by decide) (.slice A1 T.length cap1) T.length (rowsL itcl T) (by rfl) (World.ownsRow.alloc HOW1.out _) ⟨w2.heap.size, 0, none⟩ 1 1 (rowsL itcl [(x, y)]) (by rfl) rfl (World.news_of_block (heap_new_at _ _ _ (by simp))) (by simp [rowsL, itcl, Value.oneCell']) (by decide) (by have := HTL.out; unfold maxLen; omega) (by have := HTL.out; omega) (by have := HB2.out.size; simp at this ⊢; omega) (w2.heap.size + 1) (by simp) ?_; intro g' cap' w3 hown3 hgr3 hat3 hlt3) | (at_builtin; obtain ⟨v4, w4, hrun4, hst4, hb4⟩ := HTH.out w3 g' cap' (.slice (some ⟨b, o + P * 2, none⟩) (S.length - P) (cap - P)) hown3 hgr3 (World.ownsRow.lt hown3 g' rfl).1 HDR.out; refine wpList_append_run rfl _ _ _ rfl (.slice (some ⟨g', 0, none⟩) (T.length + 1) cap') (.slice (some ⟨b, o + P * 2, none⟩) (S.length - P) (cap - P)) v4 (by rfl) (by rfl) hrun4 ?_))
            go_ret2
            exact HFIN.out _ _ hst4 hb4
      | true =>
        have hP1 : ((P : Int) + 1) ≤ (S.length : Int) := by have := HPT.out rfl; omega
        have hP2 : ((P : Int) + 1) ≤ (cap : Int) := by have := HPT.out rfl; have := HCAP.out; omega
        have hP3 : (P : Int) + 1 ≤ 100000 := by have := HL.out; have := HPL.out; omega
        have hP0 : (0 : Int) ≤ (P : Int) + 1 := by omega
        have hRl : (S.drop (P + 1)).length ≤ 10000 := by have := HL.out; simp; omega
        obtain ⟨R, hR⟩ : ∃ R, S.drop (P + 1) = R := ⟨_, rfl⟩
        simp only [if_true] at HPE
        rw [hR] at hRl HPE
        have HTH := Lib.hid (fun w3 g' cap' l2 h2 hg hg' hs => it_third (w2 := w3) (l2 := l2) (T := T) (R := R) (one := (x, y)) (g' := g') (cap' := cap') (o := .cells #[.string ⟨x.toArray⟩, .string ⟨y.toArray⟩] 42) (Nat.le_refl _) hb2 (fun k hk => (World.ownsRow.lt hown1 k hk).1) h2 hg hg' hs (by have := HL.out; have := HPL.out; omega))
        have HFIN : Hid (∀ v3 w3, ItAt w3 v3 (T ++ (x, y) :: R) → Below w1.heap.size w1 w3 → RtPutPost S x y w (.returned (.tuple #[v3, .int .i64 0])) w3) := Lib.hid (fun v3 w3 q1 q2 => RtPutPost.good HOK.out HPE.out q1 (HB1.out.trans (q2.mono HSZ1.out)))
        have HRQ := Lib.hid hR
        clear hgr1 hat1 hb2 hown1 hTl hRl ht hT hR hbad
        rcases HCS.out with ⟨hs0, rfl, rfl⟩ | ⟨b, o, rfl⟩
        · exfalso; have := HPT.out rfl; rw [hs0] at this; simp at this
        · by_cases hPc : (P + 1) = cap
          · subst hPc
            have hSP : S.length = P + 1 := by have := HCAP.out; have := HPT.out rfl; omega
            have HDR : Hid (ItAt w1 (.slice (some ⟨b, o, none⟩) 0 0) R) := Lib.hid (by
              have h := RowsAt.drop HV1.out (P + 1) (Nat.le_of_eq hSP.symm) b o (fun h => by omega)
              rw [HRQ.out, hSP, Nat.sub_self] at h
              exact h)
            rw [hSP]
            clear hSP hps
            go_wp2_with (first | (at_builtin; refine wpList_append_run rfl _ _ _ rfl (.slice none 0 0) (.slice (some ⟨b, o, none⟩) P (P + 1)) (.slice A1 T.length cap1) (by rfl) (by rfl) hrun1 ?_) | (at_builtin; refine wpList_append_lies _ rfl _ _ _ rfl w1.heap.size 42 i0 (.agg #[.string ⟨#[]⟩, .string ⟨#[]⟩]) 2 32 Tryd.underlying22 hi hz0 hz1 hz2 rfl (by decide) (.slice A1 T.length cap1) T.length (rowsL itcl T) (by rfl) (World.ownsRow.alloc HOW1.out _) ⟨w2.heap.size, 0, none⟩ 1 1 (rowsL itcl [(x, y)]) (by rfl) rfl (World.news_of_block (heap_new_at _ _ _ (by simp))) (by simp [rowsL, itcl, Value.oneCell']) (by decide) (by have := HTL.out; unfold maxLen; omega) (by have := HTL.out; omega) (by have := HB2.out.size; simp at this ⊢; omega) (w2.heap.size + 1) (by simp) ?_; intro g' cap' w3 hown3 hgr3 hat3 hlt3) | (at_builtin; obtain ⟨v4, w4, hrun4, hst4, hb4⟩ := HTH.out w3 g' cap' (.slice (some ⟨b, o, none⟩) 0 0) hown3 hgr3 (World.ownsRow.lt hown3 g' rfl).1 HDR.out; refine wpList_append_run rfl _ _ _ rfl (.slice (some ⟨g', 0, none⟩) (T.length + 1) cap') (.slice (some ⟨b, o, none⟩) 0 0) v4 (by rfl) (by rfl) hrun4 ?_))
            go_ret2
            exact HFIN.out _ _ hst4 hb4
          · have hPc2 : ¬ ((cap : Int) - ((P : Int) + 1) = 0) := by have := HCAP.out; have := HPT.out rfl; omega
            have HDR : Hid (ItAt w1 (.slice (some ⟨b, o + (P + 1) * 2, none⟩) (S.length - (P + 1)) (cap - (P + 1))) R) := Lib.hid (by rw [← HRQ.out]; exact RowsAt.drop HV1.out (P + 1) (HPT.out rfl) b (o + (P + 1) * 2) (fun _ => ⟨rfl, rfl⟩))
            go_wp2_with (first | (at_builtin; refine wpList_append_run rfl _ _ _ rfl (.slice none 0 0) (.slice (some ⟨b, o, none⟩) P cap) (.slice A1 T.length cap1) (by rfl) (by rfl) hrun1 ?_) | (at_builtin; refine wpList_append_lies _ rfl _ _ _ rfl w1.heap.size 42 i0 (.agg #[.string ⟨#[]⟩, .string ⟨#[]⟩]) 2 32 Tryd.underlying22 hi hz0 hz1 hz2 rfl (by decide) (.slice A1 T.length cap1) T.length (rowsL itcl T) (by rfl) (World.ownsRow.alloc HOW1.out _) ⟨w2.heap.size, 0, none⟩ 1 1 (rowsL itcl [(x, y)]) (by rfl) rfl (World.news_of_block (heap_new_at _ _ _ (by simp))) (by simp [rowsL, itcl, Value.oneCell']) (by decide) (by have := HTL.out; unfold maxLen; omega) (by have := HTL.out; omega) (by have := HB2.out.size; simp at this ⊢; omega) (w2.heap.size + 1) (by simp) ?_; intro g' cap' w3 hown3 hgr3 hat3 hlt3) | (at_builtin; obtain ⟨v4, w4, hrun4, hst4, hb4⟩ := HTH.out w3 g' cap' (.slice (some ⟨b, o + (P + 1) * 2, none⟩) (S.length - (P + 1)) (cap - (P + 1))) hown3 hgr3 (World.ownsRow.lt hown3 g' rfl).1 HDR.out; refine wpList_append_run rfl _ _ _ rfl (.slice (some ⟨g', 0, none⟩) (T.length + 1) cap') (.slice (some ⟨b, o + (P + 1) * 2, none⟩) (S.length - (P + 1)) (cap - (P + 1))) v4 (by rfl) (by rfl) hrun4 ?_))
            go_ret2
            exact HFIN.out _ _ hst4 hb4
    · have HBAD : Hid (Tri.putC S x y = 2) := Lib.hid (Tri.putC_bad HKB.out (by rw [HBB.out]; exact hbad))
      by_cases c1 : 1 ≤ y.length
      · have y1 : decide ((y.length : Int) < 1) = false := decide_eq_false (by omega)
        by_cases c2 : y.length ≤ 32
        · have y2 : decide ((32 : Int) < (y.length : Int)) = false := decide_eq_false (by omega)
          cases b with
          | true => exact absurd ⟨c1, c2, Or.inl rfl⟩ hbad
          | false =>
            have hs1 : decide ((1024 : Int) ≤ (S.length : Int)) = true := decide_eq_true (by have : ¬ S.length < 1024 := fun h => hbad ⟨c1, c2, Or.inr h⟩; omega)
            clear hbad
            go_wp2
            go_ret2
            exact RtPutPost.bad HBAD.out (by decide) HB1.out
        · have y2 : decide ((32 : Int) < (y.length : Int)) = true := decide_eq_true (by omega)
          clear hbad
          go_wp2
          go_ret2
          exact RtPutPost.bad HBAD.out (by decide) HB1.out
      · have y1 : decide ((y.length : Int) < 1) = true := decide_eq_true (by omega)
        clear hbad
        go_wp2
        go_ret2
        exact RtPutPost.bad HBAD.out (by decide) HB1.out
end Go.Proofs.YtjfefphgikncnaaDoor
namespace Go.Proofs.YtjfefphgikncnaaDoor
open Go.RowKit
open Sto (T St)
open Tri (Tr Ok upd ix hb lay splitT Trim rank)
open Go.Proofs.YtjfefphgikncnaaDoor.Nd (N)

def OwnI (w : World) (B : Nat) (z : Value) (S : St) : Prop := w.ownsRow B 42 2 z S.length (rowsL itcl S)
theorem OwnI.nil (w : World) (B : Nat) : OwnI w B (.slice none 0 0) [] := ⟨rfl, Or.inl ⟨rfl, rfl⟩⟩
theorem OwnI.below {w w' : World} {B : Nat} {s : Value} {L : St} (h : OwnI w B s L) (hb : Below w.heap.size w w') : OwnI w' B s L :=
  row_out (G := fun _ => False) h (Out.of hb) (fun _ _ _ _ hf => hf.elim)
theorem OwnI.lt {w : World} {B : Nat} {s : Value} {L : St} (h : OwnI w B s L) (k : Nat) (hk : s.ownBlock = some k) : B ≤ k ∧ k < w.heap.size := World.ownsRow.lt h k hk
theorem OwnI.at_ {w : World} {B : Nat} {s : Value} {L : St} (h : OwnI w B s L) : ItAt w s L := RowsAt.own itcl_length h
theorem OwnI.low {w : World} {B B' : Nat} {s : Value} {L : St} (h : OwnI w B s L) (hB : B' ≤ B) : OwnI w B' s L := by
  refine ⟨h.1, ?_⟩
  rcases h.2 with hn | ⟨k, cap, cur, hv, hb, hk, hr⟩
  · exact Or.inl hn
  · exact Or.inr ⟨k, cap, cur, hv, Nat.le_trans hB hb, hk, hr⟩
end Go.Proofs.YtjfefphgikncnaaDoor
namespace Go.Proofs.YtjfefphgikncnaaDoor
open Go.RowKit
open Go.Proofs.YtjfefphgikncnaaDoor.Sto (St)

def Tri.delL (S : St) (x : List UInt8) : St := if (Tri.getC S x).2 = 0 then Tri.del S x else []
def RtDelPost (S : St) (x : List UInt8) (w : World) (e : Ending) (w' : World) : Prop :=
  ∃ v', e = .returned (.tuple #[v', .int .i64 (Tri.getC S x).2]) ∧ ItAt w' v' (Tri.delL S x) ∧ Below w.heap.size w w'
theorem RtDelPost.bad {S : St} {x : List UInt8} {w w' : World} {c : Nat} (h : (Tri.getC S x).2 = c) (hc : c ≠ 0) (hb : Below w.heap.size w w') : RtDelPost S x w (.returned (.tuple #[.slice none 0 0, .int .i64 c])) w' := by
  subst h
  exact ⟨_, rfl, by rw [Tri.delL, if_neg hc]; exact RowsAt.nil .., hb⟩
theorem RtDelPost.good {S L : St} {x : List UInt8} {w w' : World} {v' : Value} (h : (Tri.getC S x).2 = 0) (hp : Tri.del S x = L) (hv : ItAt w' v' L) (hb : Below w.heap.size w w') : RtDelPost S x w (.returned (.tuple #[v', .int .i64 0])) w' := by
  refine ⟨v', by rw [h]; rfl, ?_, hb⟩
  rw [Tri.delL, if_pos h, hp]; exact hv
end Go.Proofs.YtjfefphgikncnaaDoor
namespace Go.Proofs.YtjfefphgikncnaaDoor.Tri
open Sto (T St Rising keys)
open Go.Proofs.YtjfefphgikncnaaDoor.Nd (N)

theorem pair_sub : ∀ i j : Fin 16, i < j → [i, j].Sublist (List.finRange 16) := by decide +kernel
theorem one_sub : ∀ i : Fin 16, [i].Sublist (List.finRange 16) := by decide +kernel
theorem spots_len (dg : N → T) {t : Tr} (h : t.canon) (hn : ¬ t.isNil) (p : T) : (t.spots dg p).length + 2 ≤ 3 * t.items.length ∧ (t.isBr → (t.spots dg p).length + 3 ≤ 3 * t.items.length) := by
  induction t generalizing p with
  | nil => exact absurd trivial hn
  | leaf q v => exact ⟨by simp [Tr.spots, Tr.items], fun h => h.elim⟩
  | ext q t ih =>
    have n1 : ¬ t.isNil := by have := h.2.1; cases t <;> simp_all [Tr.isBr, Tr.isNil]
    have := (ih h.2.2 n1 (p ++ q)).2 h.2.1
    refine ⟨?_, fun h => h.elim⟩
    rw [Tr.spots, Tr.items, behind, List.length_map, List.length_cons]
    omega
  | br v k ih =>
    have all : ∀ l : List (Fin 16), (l.flatMap fun i => (k i).spots dg (p ++ [hb i])).length + 2 * l.countP (fun i => !(k i).nilB) ≤ 3 * (l.flatMap fun i => behind [hb i] (k i).items).length := by
      intro l
      induction l with
      | nil => simp
      | cons i l ihl =>
        rw [List.flatMap_cons, List.flatMap_cons, List.length_append, List.length_append, List.countP_cons]
        have hb1 : (behind [hb i] (k i).items).length = (k i).items.length := by rw [behind, List.length_map]
        by_cases e : (k i).isNil
        · have e2 := (nilB_iff _).2 e
          have e3 : (k i).spots dg (p ++ [hb i]) = [] := by cases hk : k i with
            | nil => rfl
            | _ => rw [hk] at e; exact e.elim
          rw [e3, e2]
          simp only [Bool.not_true, Bool.false_eq_true, if_false, List.length_nil]
          omega
        · have e2 : (k i).nilB = false := by cases hk : (k i).nilB with
            | false => rfl
            | true => exact absurd ((nilB_iff _).1 hk) e
          have := (ih i (h.1 i) e (p ++ [hb i])).1
          rw [e2, hb1]
          simp only [Bool.not_false, if_true]
          omega
    have h1 := all (List.finRange 16)
    have h2 : 4 ≤ 3 * (own v).length + 2 * (List.finRange 16).countP (fun i => !(k i).nilB) := by
      have ne : ∀ i, ¬ (k i).isNil → (!(k i).nilB) = true := fun i hi => by
        cases hk : (k i).nilB with
        | false => rfl
        | true => exact absurd ((nilB_iff _).1 hk) hi
      rcases h.2 with ⟨i, j, hij, hi, hj⟩ | ⟨hv, i, hi⟩
      · have := (pair_sub i j hij).countP_le (p := fun i => !(k i).nilB)
        simp only [List.countP_cons, ne i hi, ne j hj, if_true, List.countP_nil] at this
        omega
      · have := (one_sub i).countP_le (p := fun i => !(k i).nilB)
        simp only [List.countP_cons, ne i hi, if_true, List.countP_nil] at this
        rw [own, if_neg hv, List.length_singleton]
        omega
    have h3 : (Tr.spots dg p (.br v k)).length + 3 ≤ 3 * (Tr.br v k).items.length := by
      rw [Tr.spots, Tr.items, List.length_cons, List.length_append]
      omega
    exact ⟨by omega, fun _ => h3⟩
end Go.Proofs.YtjfefphgikncnaaDoor.Tri
namespace Go.Proofs.YtjfefphgikncnaaDoor
open Go.RowKit
open Sto (T St)
open Tri (Tr Ok upd ix hb lay splitT Trim rank)
open Go.Proofs.YtjfefphgikncnaaDoor.Nd (N)

/-- Items as a trie may have them, with their tree. -/
structure TrS (S : St) (t : Tr) : Prop where
  tree : Tri.TreeOf S t
  rise : Sto.Rising S
  fair : ∀ x ∈ S, 1 ≤ x.1.length ∧ x.1.length ≤ 8 ∧ 1 ≤ x.2.length ∧ x.2.length ≤ 32
  few : S.length ≤ 1024
theorem TrS.within {S : St} {t : Tr} (h : TrS S t) : within t := fun x hx => by
  rw [h.tree.2.2] at hx
  obtain ⟨y, hy, rfl⟩ := List.mem_map.1 hx
  have := (h.fair y hy).2.1
  rw [Nib.ofL_length]; omega
theorem TrS.ok {S : St} {t : Tr} (h : TrS S t) : Ok t := ⟨h.tree.1, h.tree.2.1, Tri.small_of h.tree.1 fun x hx => ⟨h.within x hx, by
  rw [h.tree.2.2] at hx
  obtain ⟨y, hy, rfl⟩ := List.mem_map.1 hx
  exact (h.fair y hy).2.2.2⟩⟩
theorem TrS.trim {S : St} {t : Tr} (h : TrS S t) : Trim t := ⟨Tri.canon_firm h.tree.1, h.tree.2.1, Tri.small_low h.ok.small⟩
theorem TrS.spots {S : St} {t : Tr} (h : TrS S t) (p : T) : (t.spots Nd.sumS p).length ≤ 100000 := by
  by_cases hn : t.isNil
  · rw [Tri.isNil_eq hn]; simp [Tri.Tr.spots]
  · have h1 := (Tri.spots_len Nd.sumS h.tree.1 hn p).1
    have h2 : t.items.length = S.length := by rw [h.tree.2.2]; simp [Tri.paths]
    have := h.few
    omega
theorem TrS.sealed {S : St} {t : Tr} {w : World} {v : Value} (h : TrS S t) (hp : PAt w (Fm.from 0) true t v) : Sealed w t v := ⟨hp, h.ok, h.within, h.spots⟩
theorem TrS.empty : TrS [] .nil := ⟨⟨trivial, trivial, rfl⟩, List.Pairwise.nil, fun x hx => (by cases hx), by simp⟩
theorem TrS.find {S : St} {t : Tr} (h : TrS S t) (k : T) : findT t (Nib.ofL k) = (Sto.look S k).getD [] := by
  unfold findT; rw [h.tree.get h.rise]
theorem TrS.look_ne {S : St} {t : Tr} (h : TrS S t) {k v : T} (hl : Sto.look S k = some v) : v ≠ [] := fun e => by
  have := (h.fair _ ((Sto.look_mem h.rise k v).1 hl)).2.2.1
  rw [e] at this; simp at this
theorem TrS.put {S : St} {t : Tr} (h : TrS S t) {k v : T} (hk : Tri.putC S k v = 0) : TrS (Tri.put S k v) (t.put (Nib.ofL k) v) := by
  unfold Tri.putC at hk
  split at hk
  · rename_i hkk
    split at hk
    · rename_i hv
      obtain ⟨v1, v2, v3⟩ := hv
      have hkk2 : 1 ≤ k.length ∧ k.length ≤ 8 := by simpa [Tri.keyed] using hkk
      refine ⟨h.tree.put (fun e => by subst e; simp at v1), Tri.put_rising h.rise _ _, fun x hx => ?_, ?_⟩
      · rcases Tri.put_mem hx with hx | rfl
        · exact h.fair x hx
        · exact ⟨hkk2.1, hkk2.2, v1, v2⟩
      · have hf := h.few
        rw [Tri.put_eq]
        have hp := Tri.pos_le S k
        rcases v3 with v3 | v3
        · rw [if_pos v3]
          have hp2 : Tri.pos S k < S.length := (Tri.look_pos h.rise k v3).1
          simp; omega
        · simp; omega
    · cases hk
  · cases hk
theorem TrS.del {S : St} {t : Tr} (h : TrS S t) {k : T} (hk : Sto.look S k ≠ none) : TrS (Tri.del S k) (t.del (Nib.ofL k)) := by
  refine ⟨h.tree.del h.rise hk, Tri.del_rising h.rise _, fun x hx => h.fair x (Tri.del_mem hx), ?_⟩
  have hf := h.few
  have ha : Tri.at_ S k = true := by rw [Tri.at_look h.rise]; cases hl : Sto.look S k with | none => exact absurd hl hk | some v => rfl
  rw [Tri.del_eq h.rise k ha]
  simp; omega
/-- A trie in block g. -/
def TRow (w : World) (g : Nat) (top : Value) (n : Nat) : Prop := w.heap[g]? = some (.cells #[top, .int .i64 n] 54 (0, 0))
theorem TRow.below {w w' : World} {g n : Nat} {top : Value} (h : TRow w g top n) (hb : Below w.heap.size w w') : TRow w' g top n := (hb.block g (lt_of_heap h)).trans h
theorem TRow.top {w : World} {g n : Nat} {top : Value} (h : TRow w g top n) : w.cell? ⟨g, 0, none⟩ = some top := by rw [cell_of_row _ _ _ _ _ _ h]; rfl
theorem TRow.num {w : World} {g n : Nat} {top : Value} (h : TRow w g top n) : w.cell? ⟨g, 1, none⟩ = some (.int .i64 n) := by rw [cell_of_row _ _ _ _ _ _ h]; rfl
/-- A trie whose parts may be without their sums. -/
def OpenAt (w : World) (F : Fm) (g : Nat) (S : St) : Prop := ∃ top t, TRow w g top S.length ∧ PAt w F false t top ∧ TrS S t
def TrAt (w : World) (g : Nat) (S : St) : Prop := ∃ top t, TRow w g top S.length ∧ PAt w (Fm.from 0) true t top ∧ TrS S t
theorem TrAt.below {w w' : World} {g : Nat} {S : St} (h : TrAt w g S) (hb : Below w.heap.size w w') : TrAt w' g S := by
  obtain ⟨top, t, h1, h2, h3⟩ := h
  exact ⟨top, t, h1.below hb, h2.below hb, h3⟩
theorem TrAt.open {w : World} {g : Nat} {S : St} (h : TrAt w g S) (B : Nat) : OpenAt w (Fm.from B) g S := by
  obtain ⟨top, t, h1, h2, h3⟩ := h
  exact ⟨top, t, h1, h2.sealed (fun _ _ e => by cases e) false, h3⟩
theorem OpenAt.below {w w' : World} {F : Fm} {g : Nat} {S : St} (h : OpenAt w F g S) (hb : Below w.heap.size w w') : OpenAt w' F g S := by
  obtain ⟨top, t, h1, h2, h3⟩ := h
  exact ⟨top, t, h1.below hb, h2.below hb, h3⟩
theorem TrAt.rise {w : World} {g : Nat} {S : St} (h : TrAt w g S) : Sto.Rising S := by
  obtain ⟨_, _, _, _, h3⟩ := h; exact h3.rise
theorem TrAt.few {w : World} {g : Nat} {S : St} (h : TrAt w g S) : S.length ≤ 1024 := by
  obtain ⟨_, _, _, _, h3⟩ := h; exact h3.few

set_option maxRecDepth 100000 in
theorem tnew_any (w : World) : Calls Tryd.prog 14 #[] w fun e w' => ∃ g, e = .returned (ptr g) ∧ TrAt w' g [] ∧ w.heap.size ≤ g ∧ Below w.heap.size w w' := by
  go_enter Tryd.func14, Tryd.ntmps14
  go_wp2
  go_ret
  exact ⟨w.heap.size, rfl, ⟨nilp, .nil, heap_alloc_new w _, PAt.nil _ _ _, TrS.empty⟩, Nat.le_refl _, (Below.refl _ w).alloc (Nat.le_refl _) _⟩
set_option maxRecDepth 100000 in
theorem iskey_any (x : T) (w : World) :
    Calls Tryd.prog 22 #[.string ⟨x.toArray⟩] w fun e w' => e = .returned (.bool (Tri.keyed x)) ∧ w = w' := by
  by_cases h0 : x = []
  · subst h0
    go_enter Tryd.func22, Tryd.ntmps22
    go_wp2
    go_ret
    exact ⟨rfl, rfl⟩
  · have h1 : (x == []) = false := by rw [beq_eq_false_iff_ne]; exact h0
    have h2 : 1 ≤ x.length := List.length_pos_iff.2 h0
    by_cases h8 : x.length ≤ 8
    · have h3 : (x.length : Int) ≤ 8 := by omega
      have e : Tri.keyed x = true := by simp [Tri.keyed, h2, h8]
      rw [e]
      clear e h2 h8 h0
      go_enter Tryd.func22, Tryd.ntmps22
      go_wp2
      go_ret
      exact ⟨rfl, rfl⟩
    · have h3 : ¬ ((x.length : Int) ≤ 8) := by omega
      have e : Tri.keyed x = false := by simp [Tri.keyed]; omega
      rw [e]
      clear e h2 h8 h0
      go_enter Tryd.func22, Tryd.ntmps22
      go_wp2
      go_ret
      exact ⟨rfl, rfl⟩
set_option maxRecDepth 100000 in
set_option maxHeartbeats 1000000 in
theorem tget_any {g : Nat} {S : St} (x : T) (w : World) (h : TrAt w g S) :
    Calls Tryd.prog 10 #[ptr g, .string ⟨x.toArray⟩] w fun e w' => e = .returned (.tuple #[.string ⟨(Tri.getC S x).1.toArray⟩, .int .i64 (Tri.getC S x).2]) ∧ Below w.heap.size w w' := by
  obtain ⟨top, t, h1, h2, h3⟩ := h
  have HK := Lib.hid (fun w => iskey_any x w)
  unfold ptr
  cases hk : Tri.keyed x with
  | false =>
    rw [Tri.getC_no hk]
    rw [hk] at HK
    clear h1 h2 h3 hk
    go_enter Tryd.func10, Tryd.ntmps10
    go_wp2_with fail
    refine (HK.out _).mono ?_
    rintro e w1 ⟨rfl, rfl⟩
    go_wp2
    go_ret2
    exact ⟨rfl, Below.refl _ _⟩
  | true =>
    rw [hk] at HK
    have hx8 : x.length ≤ 8 := by simp [Tri.keyed] at hk; omega
    have HOF := Lib.hid (fun w => of_any x w (by omega))
    have HFI : Hid (∀ w', Below w.heap.size w w' → Calls Tryd.prog 23 #[top, .string ⟨(Nib.ofL x).toArray⟩] w' fun e w'' => e = .returned (.string ⟨((Sto.look S x).getD []).toArray⟩) ∧ Below w'.heap.size w' w'') := Lib.hid (fun w' hb => by
      have := find_any (Nib.ofL x) w' (h2.below hb) h3.trim.firm (Tri.ofL_fit x) (by rw [Nib.ofL_length]; omega)
      rw [h3.find] at this
      exact this)
    have HT : Hid (∀ w', Below w.heap.size w w' → w'.cell? ⟨g, 0, none⟩ = some top) := Lib.hid (fun w' hb => (h1.below hb).top)
    obtain ⟨P, hP⟩ : ∃ P, Nib.ofL x = P := ⟨_, rfl⟩
    rw [hP] at HOF HFI
    cases hl : Sto.look S x with
    | none =>
      rw [Tri.getC_none hk hl]
      rw [hl, Option.getD_none] at HFI
      have BD : Below w.heap.size w w.drew := (Below.refl _ _).drew
      have c0 := HT.out _ BD
      clear h1 h2 h3 hk hl hP
      go_enter Tryd.func10, Tryd.ntmps10
      go_wp2_with fail
      refine (HK.out _).mono ?_
      rintro e w1 ⟨rfl, rfl⟩
      go_upto_region 3 with fail
      go_region_held3 (fun w' => w'.cell? ⟨g, 0, none⟩ = some top)
        ((first | (with_reducible assumption) | (refine HT.out _ ?_; with_reducible assumption)))
        (first | (go_at_call 20; refine (HOF.out _).mono ?_; rintro e w6 ⟨rfl, hb6⟩; have hb6' := bchain BD hb6) | (go_at_call 23; refine (HFI.out _ ?_).mono ?_; (with_reducible exact hb6'); rintro e w7 ⟨rfl, hb7⟩; have hb7' := bchain hb6' hb7))
      all_goals
        go_wp2
        go_ret2
        exact ⟨rfl, hb7'⟩
    | some y =>
      have hye : (y == []) = false := by rw [beq_eq_false_iff_ne]; exact h3.look_ne hl
      have hyl : y.length ≤ 32 := (h3.fair _ ((Sto.look_mem h3.rise x y).1 hl)).2.2.2
      have HCL := Lib.hid (fun w => dclone_any y w (by omega))
      rw [Tri.getC_some hk hl]
      rw [hl, Option.getD_some] at HFI
      have BD : Below w.heap.size w w.drew := (Below.refl _ _).drew
      have c0 := HT.out _ BD
      clear h1 h2 h3 hk hl hP hyl
      go_enter Tryd.func10, Tryd.ntmps10
      go_wp2_with fail
      refine (HK.out _).mono ?_
      rintro e w1 ⟨rfl, rfl⟩
      go_upto_region 3 with fail
      go_region_held3 (fun w' => w'.cell? ⟨g, 0, none⟩ = some top)
        ((first | (with_reducible assumption) | (refine HT.out _ ?_; with_reducible assumption)))
        (first | (go_at_call 20; refine (HOF.out _).mono ?_; rintro e w6 ⟨rfl, hb6⟩; have hb6' := bchain BD hb6) | (go_at_call 23; refine (HFI.out _ ?_).mono ?_; (with_reducible exact hb6'); rintro e w7 ⟨rfl, hb7⟩; have hb7' := bchain hb6' hb7))
      all_goals
        go_wp2_with fail
        refine (HCL.out _).mono ?_
        rintro e w8 ⟨rfl, hb8⟩
        go_wp2
        go_ret2
        exact ⟨rfl, bchain hb7' hb8⟩
end Go.Proofs.YtjfefphgikncnaaDoor
namespace Go.Proofs.YtjfefphgikncnaaDoor
open Go.RowKit
open Sto (T St)
open Tri (Tr Ok upd ix hb lay splitT Trim rank)
open Go.Proofs.YtjfefphgikncnaaDoor.Nd (N)

/-- What with of a trie answers. -/
def TWithPost (S : St) (k v : T) (F : Fm) (w : World) (e : Ending) (w' : World) : Prop :=
  ∃ z, e = .returned (.tuple #[z, .int .i64 (Tri.putC S k v)]) ∧ (Tri.putC S k v = 0 → ∃ g', z = ptr g' ∧ w.heap.size ≤ g' ∧ OpenAt w' F g' (Tri.put S k v)) ∧ (Tri.putC S k v ≠ 0 → z = nilp) ∧ Below w.heap.size w w'
theorem TWithPost.bad {S : St} {k v : T} {F : Fm} {w w' : World} {c : Nat} (h : Tri.putC S k v = c) (hc : c ≠ 0) (hb : Below w.heap.size w w') : TWithPost S k v F w (.returned (.tuple #[.pointer none, .int .i64 c])) w' := by
  subst h
  exact ⟨_, rfl, fun e => absurd e hc, fun _ => rfl, hb⟩
theorem TWithPost.good {S : St} {k v : T} {F : Fm} {w w' : World} {g' n : Nat} {top : Value} {t : Tr} (h : Tri.putC S k v = 0) (hg : w.heap.size ≤ g') (hr : TRow w' g' top n) (hn : n = (Tri.put S k v).length) (hp : PAt w' F false t top) (hs : TrS (Tri.put S k v) t) (hb : Below w.heap.size w w') : TWithPost S k v F w (.returned (.tuple #[.pointer (some ⟨g', 0, none⟩), .int .i64 0])) w' := by
  subst hn
  exact ⟨_, by rw [h]; rfl, fun _ => ⟨g', rfl, hg, top, t, hr, hp, hs⟩, fun e => absurd h e, hb⟩
set_option maxRecDepth 100000 in
set_option maxHeartbeats 1000000 in
theorem twith_good {g : Nat} {S : St} (k v : T) (w : World) (F : Fm) (hF : F.fresh w) (h : OpenAt w F g S) (hc : Tri.putC S k v = 0) :
    Calls Tryd.prog 24 #[ptr g, .string ⟨k.toArray⟩, .string ⟨v.toArray⟩] w (TWithPost S k v F w) := by
  obtain ⟨top, t, h1, h2, h3⟩ := h
  have hc0 := hc
  unfold Tri.putC at hc
  split at hc
  · rename_i hkk
    split at hc
    · rename_i hv
      obtain ⟨v1, v2, v3⟩ := hv
      have hkk2 : 1 ≤ k.length ∧ k.length ≤ 8 := by simpa [Tri.keyed] using hkk
      have HK := Lib.hid (fun w => iskey_any k w)
      rw [hkk] at HK
      have HOF := Lib.hid (fun w => of_any k w (by omega))
      have HFI : Hid (∀ w', Below w.heap.size w w' → Calls Tryd.prog 23 #[top, .string ⟨(Nib.ofL k).toArray⟩] w' fun e w'' => e = .returned (.string ⟨((Sto.look S k).getD []).toArray⟩) ∧ Below w'.heap.size w' w'') := Lib.hid (fun w' hb => by
        have := find_any (Nib.ofL k) w' (h2.below hb) h3.trim.firm (Tri.ofL_fit k) (by rw [Nib.ofL_length]; omega)
        rw [h3.find] at this
        exact this)
      have HCL := Lib.hid (fun w => dclone_any v w (by omega))
      have HWI : Hid (∀ w', Below w.heap.size w w' → Calls Tryd.prog 35 #[top, .string ⟨(Nib.ofL k).toArray⟩, .string ⟨v.toArray⟩] w' fun e w'' => ∃ g9, e = .returned (.pointer (some ⟨g9, 0, none⟩)) ∧ PAt w'' F false (t.put (Nib.ofL k) v) (.pointer (some ⟨g9, 0, none⟩)) ∧ Below w'.heap.size w' w'') := Lib.hid (fun w' hb =>
        (with_any (Nib.ofL k) v w' F (hF.size hb.size) (h2.below hb) h3.trim (Tri.ofL_fit k) (by rw [Nib.ofL_length]; omega)).mono fun e w'' ⟨v9, e1, hp, hb9⟩ => by
          obtain ⟨g9, rfl⟩ := hp.ptr (Tri.put_nn _ _ _)
          exact ⟨g9, e1, hp, hb9⟩)
      have HTS := Lib.hid (h3.put hc0)
      have HCC := Lib.hid hc0
      have HPN := Lib.hid (Tri.put_len S k v)
      have HAL := Lib.hid (Tri.at_look h3.rise k)
      have HT : Hid (∀ w', Below w.heap.size w w' → w'.cell? ⟨g, 0, none⟩ = some top ∧ w'.cell? ⟨g, 1, none⟩ = some (.int .i64 S.length)) := Lib.hid (fun w' hb => ⟨(h1.below hb).top, (h1.below hb).num⟩)
      obtain ⟨P, hP⟩ : ∃ P, Nib.ofL k = P := ⟨_, rfl⟩
      rw [hP] at HOF HFI HWI HTS
      have hve : (v == []) = false := by rw [beq_eq_false_iff_ne]; intro e; subst e; simp at v1
      have hvl : ¬ ((v.length : Int) > 32) := by omega
      have hvl2 : decide ((32 : Int) < (v.length : Int)) = false := decide_eq_false (by omega)
      have hvl3 : decide (32 < v.length) = false := decide_eq_false (by omega)
      unfold ptr
      have BD : Below w.heap.size w w.drew := (Below.refl _ _).drew
      obtain ⟨c0, c1⟩ := HT.out _ BD
      have hfew := h3.few
      have hlen : ∀ (n : Nat), n = (Tri.put S k v).length → n ≤ 1024 := fun n hn => by rw [hn]; exact HTS.out.few
      cases hl : Sto.look S k with
      | some y =>
        have hye : (y == []) = false := by rw [beq_eq_false_iff_ne]; exact h3.look_ne hl
        have hpl : S.length = (Tri.put S k v).length := by
          rw [HPN.out, if_pos (by rw [HAL.out, hl]; rfl)]; omega
        have HPL := Lib.hid hpl
        have hgt : ¬ ((S.length : Int) > 1024) := by omega
        have hgt2 : ¬ ((1024 : Int) < (S.length : Int)) := by omega
        rw [hl, Option.getD_some] at HFI
        clear h1 h2 h3 hkk hP hkk2 v1 v2 v3 hc hc0 HPN HAL hl hfew hlen hpl
        go_enter Tryd.func24, Tryd.ntmps24
        go_wp2_with fail
        refine (HK.out _).mono ?_
        rintro e w1 ⟨rfl, rfl⟩
        go_upto_region 5 with fail
        go_region_held3 (fun w' => w'.cell? ⟨g, 1, none⟩ = some (.int .i64 S.length))
          ((first | (with_reducible assumption) | (refine (HT.out _ ?_).2; with_reducible assumption)))
          ((go_at_call 20; refine (HOF.out _).mono ?_; rintro e w6 ⟨rfl, hb6⟩; have hb6' := bchain BD hb6))
        all_goals
          obtain ⟨d0, d1⟩ := HT.out _ hb6'
          go_wp2_with fail
          refine (HFI.out _ hb6').mono ?_
          rintro e w7 ⟨rfl, hb7⟩
          have hb7' := bchain hb6' hb7
          have BD7 : Below w.heap.size w w7.drew := hb7'.drew
          go_upto_region 10 with fail
          obtain ⟨e0, e1⟩ := HT.out _ BD7
          clear c0 c1 d0 d1
          go_region_held3 (fun w' => w'.cell? ⟨g, 0, none⟩ = some top)
            ((first | (with_reducible assumption) | (refine (HT.out _ ?_).1; with_reducible assumption) | (refine (HT.out _ ?_).1; refine Below.alloc ?_ ?_ _; (with_reducible assumption); (with_reducible exact hs9))))
            (first | (go_at_call 21; refine (HCL.out _).mono ?_; rintro e w8 ⟨rfl, hb8⟩; have hb8' := bchain BD7 hb8) | (go_at_call 35; refine (HWI.out _ ?_).mono ?_; (with_reducible exact hb8'); rintro e w9 ⟨g9, rfl, hp9, hb9⟩; have hb9' := bchain hb8' hb9; have hs9 := hb9'.size))
          all_goals
            go_wp2
            go_ret2
            have hba := hb9'.alloc hs9 (.cells #[.pointer (some ⟨g9, 0, none⟩), .int .i64 S.length] 54)
            exact TWithPost.good HCC.out hs9 (heap_alloc_new w9 _) HPL.out (hp9.below ((Below.refl _ w9).alloc (Nat.le_refl _) _)) HTS.out hba
      | none =>
        have hpl : S.length + 1 = (Tri.put S k v).length := by
          rw [HPN.out, if_neg (by rw [HAL.out, hl]; simp)]
        have z8 : IntKind.i64.wrap ((S.length : Int) + 1) = (S.length : Int) + 1 := IntWalk.i64_in _ (by omega)
        have hl1 := hlen _ hpl
        have HPL := Lib.hid hpl
        have hgt : ¬ ((S.length : Int) + 1 > 1024) := by omega
        have hgt2 : ¬ ((1024 : Int) < (S.length : Int) + 1) := by omega
        rw [hl, Option.getD_none] at HFI
        clear hl1 h1 h2 h3 hkk hP hkk2 v1 v2 v3 hc hc0 HPN HAL hl hfew hlen hpl
        go_enter Tryd.func24, Tryd.ntmps24
        go_wp2_with fail
        refine (HK.out _).mono ?_
        rintro e w1 ⟨rfl, rfl⟩
        go_upto_region 5 with fail
        go_region_held3 (fun w' => w'.cell? ⟨g, 1, none⟩ = some (.int .i64 S.length))
          ((first | (with_reducible assumption) | (refine (HT.out _ ?_).2; with_reducible assumption)))
          ((go_at_call 20; refine (HOF.out _).mono ?_; rintro e w6 ⟨rfl, hb6⟩; have hb6' := bchain BD hb6))
        all_goals
          obtain ⟨d0, d1⟩ := HT.out _ hb6'
          go_wp2_with fail
          refine (HFI.out _ hb6').mono ?_
          rintro e w7 ⟨rfl, hb7⟩
          have hb7' := bchain hb6' hb7
          have BD7 : Below w.heap.size w w7.drew := hb7'.drew
          go_upto_region 10 with fail
          obtain ⟨e0, e1⟩ := HT.out _ BD7
          clear c0 c1 d0 d1
          go_region_held3 (fun w' => w'.cell? ⟨g, 0, none⟩ = some top)
            ((first | (with_reducible assumption) | (refine (HT.out _ ?_).1; with_reducible assumption) | (refine (HT.out _ ?_).1; refine Below.alloc ?_ ?_ _; (with_reducible assumption); (with_reducible exact hs9))))
            (first | (go_at_call 21; refine (HCL.out _).mono ?_; rintro e w8 ⟨rfl, hb8⟩; have hb8' := bchain BD7 hb8) | (go_at_call 35; refine (HWI.out _ ?_).mono ?_; (with_reducible exact hb8'); rintro e w9 ⟨g9, rfl, hp9, hb9⟩; have hb9' := bchain hb8' hb9; have hs9 := hb9'.size))
          all_goals
            go_wp2
            go_ret2
            have hba := hb9'.alloc hs9 (.cells #[.pointer (some ⟨g9, 0, none⟩), .int .i64 ((S.length + 1 : Nat) : Int)] 54)
            exact TWithPost.good HCC.out hs9 (heap_alloc_new w9 _) HPL.out (hp9.below ((Below.refl _ w9).alloc (Nat.le_refl _) _)) HTS.out hba
    · cases hc
  · cases hc
set_option maxRecDepth 100000 in
set_option maxHeartbeats 1000000 in
theorem twith_any {g : Nat} {S : St} (k v : T) (w : World) (F : Fm) (hF : F.fresh w) (h : OpenAt w F g S) :
    Calls Tryd.prog 24 #[ptr g, .string ⟨k.toArray⟩, .string ⟨v.toArray⟩] w (TWithPost S k v F w) := by
  have HK := Lib.hid (fun w => iskey_any k w)
  cases hk : Tri.keyed k with
  | false =>
    rw [hk] at HK
    have HC := Lib.hid (Tri.putC_no (S := S) (y := v) hk)
    unfold ptr
    clear h hk
    go_enter Tryd.func24, Tryd.ntmps24
    go_wp2_with fail
    refine (HK.out _).mono ?_
    rintro e w1 ⟨rfl, rfl⟩
    go_wp2
    go_ret2
    exact TWithPost.bad HC.out (by decide) (Below.refl _ _)
  | true =>
    rw [hk] at HK
    by_cases hok : 1 ≤ v.length ∧ v.length ≤ 32 ∧ (Tri.at_ S k = true ∨ S.length < 1024)
    · exact twith_good k v w F hF h (Tri.putC_ok hk hok)
    · have HC := Lib.hid (Tri.putC_bad (S := S) (y := v) hk hok)
      by_cases hv0 : v = []
      · subst hv0
        unfold ptr
        clear h hk hok
        go_enter Tryd.func24, Tryd.ntmps24
        go_wp2_with fail
        refine (HK.out _).mono ?_
        rintro e w1 ⟨rfl, rfl⟩
        go_wp2
        go_ret2
        exact TWithPost.bad HC.out (by decide) (Below.refl _ _)
      · have hve : (v == []) = false := by rw [beq_eq_false_iff_ne]; exact hv0
        have hv1 : 1 ≤ v.length := List.length_pos_iff.2 hv0
        by_cases hv2 : v.length ≤ 32
        · obtain ⟨top, t, h1, h2, h3⟩ := h
          have hno : ¬ (Tri.at_ S k = true ∨ S.length < 1024) := fun e => hok ⟨hv1, hv2, e⟩
          have hl : Sto.look S k = none := by
            have := Tri.at_look h3.rise k
            cases hl : Sto.look S k with
            | none => rfl
            | some y => exact absurd (Or.inl (by rw [this, hl]; rfl)) hno
          have hfew : S.length = 1024 := by
            have := h3.few
            have : ¬ S.length < 1024 := fun e => hno (Or.inr e)
            omega
          have hx8 : k.length ≤ 8 := by simp [Tri.keyed] at hk; omega
          have HOF := Lib.hid (fun w => of_any k w (by omega))
          have HFI : Hid (∀ w', Below w.heap.size w w' → Calls Tryd.prog 23 #[top, .string ⟨(Nib.ofL k).toArray⟩] w' fun e w'' => e = .returned (.string ⟨#[]⟩) ∧ Below w'.heap.size w' w'') := Lib.hid (fun w' hb => by
            have := find_any (Nib.ofL k) w' (h2.below hb) h3.trim.firm (Tri.ofL_fit k) (by rw [Nib.ofL_length]; omega)
            rw [h3.find, hl] at this
            exact this)
          have HT : Hid (∀ w', Below w.heap.size w w' → w'.cell? ⟨g, 0, none⟩ = some top ∧ w'.cell? ⟨g, 1, none⟩ = some (.int .i64 1024)) := Lib.hid (fun w' hb => ⟨(h1.below hb).top, by have := (h1.below hb).num; rw [hfew] at this; exact this⟩)
          obtain ⟨P, hP⟩ : ∃ P, Nib.ofL k = P := ⟨_, rfl⟩
          rw [hP] at HOF HFI
          have BD : Below w.heap.size w w.drew := (Below.refl _ _).drew
          obtain ⟨c0, c1⟩ := HT.out _ BD
          have hvl2 : decide ((32 : Int) < (v.length : Int)) = false := decide_eq_false (by omega)
          have hvl3 : decide (32 < v.length) = false := decide_eq_false (by omega)
          have hvl : ¬ ((v.length : Int) > 32) := by omega
          unfold ptr
          clear h1 h2 h3 hk hP hl hno hok hfew hv0 hv1 hv2 hx8
          go_enter Tryd.func24, Tryd.ntmps24
          go_wp2_with fail
          refine (HK.out _).mono ?_
          rintro e w1 ⟨rfl, rfl⟩
          go_upto_region 5 with fail
          go_region_held3 (fun w' => w'.cell? ⟨g, 1, none⟩ = some (.int .i64 1024))
            ((first | (with_reducible assumption) | (refine (HT.out _ ?_).2; with_reducible assumption)))
            ((go_at_call 20; refine (HOF.out _).mono ?_; rintro e w6 ⟨rfl, hb6⟩; have hb6' := bchain BD hb6))
          all_goals
            obtain ⟨d0, d1⟩ := HT.out _ hb6'
            go_wp2_with fail
            refine (HFI.out _ hb6').mono ?_
            rintro e w7 ⟨rfl, hb7⟩
            have hb7' := bchain hb6' hb7
            go_wp2
            go_ret2
            exact TWithPost.bad HC.out (by decide) hb7'
        · have hvl : (v.length : Int) > 32 := by omega
          have hvl2 : decide ((32 : Int) < (v.length : Int)) = true := decide_eq_true (by omega)
          have hvl3 : decide (32 < v.length) = true := decide_eq_true (by omega)
          unfold ptr
          clear h hk hok hv0 hv1 hv2
          go_enter Tryd.func24, Tryd.ntmps24
          go_wp2_with fail
          refine (HK.out _).mono ?_
          rintro e w1 ⟨rfl, rfl⟩
          go_wp2
          go_ret2
          exact TWithPost.bad HC.out (by decide) (Below.refl _ _)
def TPutPost (S : St) (k v : T) (w : World) (e : Ending) (w' : World) : Prop :=
  ∃ z, e = .returned (.tuple #[z, .int .i64 (Tri.putC S k v)]) ∧ (Tri.putC S k v = 0 → ∃ g', z = ptr g' ∧ TrAt w' g' (Tri.put S k v)) ∧ (Tri.putC S k v ≠ 0 → z = nilp) ∧ Below w.heap.size w w'
theorem TPutPost.bad {S : St} {k v : T} {w w' : World} {c : Nat} (h : Tri.putC S k v = c) (hc : c ≠ 0) (hb : Below w.heap.size w w') : TPutPost S k v w (.returned (.tuple #[.pointer none, .int .i64 c])) w' := by
  subst h
  exact ⟨_, rfl, fun e => absurd e hc, fun _ => rfl, hb⟩
theorem TPutPost.good {S : St} {k v : T} {w w' : World} {g' : Nat} (h : Tri.putC S k v = 0) (ht : TrAt w' g' (Tri.put S k v)) (hb : Below w.heap.size w w') : TPutPost S k v w (.returned (.tuple #[.pointer (some ⟨g', 0, none⟩), .int .i64 0])) w' :=
  ⟨_, by rw [h]; rfl, fun _ => ⟨g', rfl, ht⟩, fun e => absurd h e, hb⟩
set_option maxRecDepth 100000 in
set_option maxHeartbeats 1000000 in
theorem tput_any {g : Nat} {S : St} (k v : T) (w : World) (h : TrAt w g S) (hT : Tab w) :
    Calls Tryd.prog 16 #[ptr g, .string ⟨k.toArray⟩, .string ⟨v.toArray⟩] w (TPutPost S k v w) := by
  have HW := Lib.hid (twith_any k v w (Fm.from w.heap.size) (fun g hg _ => hg) (h.open w.heap.size))
  have HT := Lib.hid hT
  unfold TWithPost ptr at HW
  unfold ptr
  obtain ⟨c, hc⟩ : ∃ c, Tri.putC S k v = c := ⟨_, rfl⟩
  rw [hc] at HW
  have HCC := Lib.hid hc
  clear h hT hc
  go_enter Tryd.func16, Tryd.ntmps16
  go_wp2_with fail
  refine HW.out.mono ?_
  rintro e w1 ⟨z, rfl, hz1, hz0, hb1⟩
  have HB1 := Lib.hid hb1
  by_cases hc0 : c = 0
  · obtain ⟨g', rfl, hg', top, t, hr, hp, hs⟩ := hz1 hc0
    subst hc0
    have HSE := Lib.hid (seal_to t top w1 w.heap.size HT.out.pos hb1.size (HT.out.below hb1) hs.ok hp)
    have HR := Lib.hid hr
    have HS := Lib.hid hs
    have m0 := hr.top
    clear hz1 hz0 hb1 hr hp hs hg'
    go_wp2_with fail
    refine HSE.out.mono ?_
    rintro e w2 ⟨rfl, hp2, hk2, hb2⟩
    have HP2 := Lib.hid hp2
    have HR2 : Hid (TRow w2 g' top (Tri.put S k v).length) := Lib.hid (hk2.2.2 _ _ _ _ (by decide) HR.out)
    have HB2 := Lib.hid (HB1.out.trans hb2)
    clear hp2 hk2 hb2
    go_wp2
    go_ret2
    exact TPutPost.good HCC.out ⟨top, t, HR2.out, HP2.out.sealed (fun _ _ e => by cases e) true, HS.out⟩ HB2.out
  · have e0 : ((c : Int) == 0) = false := by rw [beq_eq_false_iff_ne]; omega
    have e1 : z = .pointer none := hz0 hc0
    subst e1
    have HC := Lib.hid hc0
    clear hz1 hz0 hb1 hc0
    go_wp2
    go_ret2
    exact TPutPost.bad HCC.out HC.out HB1.out
end Go.Proofs.YtjfefphgikncnaaDoor
namespace Go.Proofs.YtjfefphgikncnaaDoor
open Go.RowKit
open Sto (T St)
open Tri (Tr Ok upd ix hb lay splitT Trim rank)
open Go.Proofs.YtjfefphgikncnaaDoor.Nd (N)

def TDelPost (S : St) (k : T) (w : World) (e : Ending) (w' : World) : Prop :=
  ∃ z, e = .returned (.tuple #[z, .int .i64 (Tri.getC S k).2]) ∧ ((Tri.getC S k).2 = 0 → ∃ g', z = ptr g' ∧ TrAt w' g' (Tri.del S k)) ∧ ((Tri.getC S k).2 ≠ 0 → z = nilp) ∧ Below w.heap.size w w'
theorem TDelPost.bad {S : St} {k : T} {w w' : World} (hc : (Tri.getC S k).2 ≠ 0) (hb : Below w.heap.size w w') : TDelPost S k w (.returned (.tuple #[.pointer none, .int .i64 (Tri.getC S k).2])) w' := ⟨_, rfl, fun e => absurd e hc, fun _ => rfl, hb⟩
theorem TDelPost.good {S : St} {k : T} {w w' : World} {g' : Nat} (h : (Tri.getC S k).2 = 0) (ht : TrAt w' g' (Tri.del S k)) (hb : Below w.heap.size w w') : TDelPost S k w (.returned (.tuple #[.pointer (some ⟨g', 0, none⟩), .int .i64 0])) w' :=
  ⟨_, by rw [h]; rfl, fun _ => ⟨g', rfl, ht⟩, fun e => absurd h e, hb⟩
set_option maxRecDepth 100000 in
theorem troot_any {g n : Nat} {top : Value} {t : Tr} (w : World) (hr : TRow w g top n) (hp : PAt w (Fm.from 0) true t top) (ho : Ok t) :
    Calls Tryd.prog 9 #[ptr g] w fun e w' => e = .returned (.string ⟨(t.sum Nd.sumS).toArray⟩) ∧ Below w.heap.size w w' := by
  have m0 := hr.top
  by_cases hn : t.isNil
  · rw [Tri.isNil_eq hn] at hp ⊢
    have e : top = .pointer none := hp
    subst e
    unfold ptr
    clear hr hp
    go_enter Tryd.func9, Tryd.ntmps9
    go_wp2
    go_ret
    exact ⟨rfl, Below.refl _ _⟩
  · obtain ⟨g2, s', K, rfl, hs, -, h2, -⟩ := hp.row hn
    obtain rfl := hs rfl
    have m1 := h2.sum
    have HCL := Lib.hid (fun w => dclone_any (t.sum Nd.sumS) w (by rw [ho.sum_len hn]; omega))
    obtain ⟨X, hX⟩ : ∃ X, t.sum Nd.sumS = X := ⟨_, rfl⟩
    rw [if_pos rfl, hX] at m1
    rw [hX] at HCL ⊢
    unfold ptr at *
    clear hr h2 hX hn ho
    go_enter Tryd.func9, Tryd.ntmps9
    go_wp2_with fail
    refine (HCL.out _).mono ?_
    rintro e w1 ⟨rfl, hb⟩
    go_wp2
    go_ret
    exact ⟨rfl, hb⟩
end Go.Proofs.YtjfefphgikncnaaDoor
namespace Go.Proofs.YtjfefphgikncnaaDoor
open Go.RowKit
open Go.Proofs.YtjfefphgikncnaaDoor.Sto (St)

def Tri.ofR : St → St → St × Nat
  | S, [] => (S, 0)
  | S, a :: r => if Tri.putC S a.1 a.2 = 0 then Tri.ofR (Tri.put S a.1 a.2) r else ([], Tri.putC S a.1 a.2)
theorem Tri.ofR_step {S L : St} {k : Nat} (hk : k < L.length) (h : Tri.putC S L[k].1 L[k].2 = 0) : Tri.ofR S (L.drop k) = Tri.ofR (Tri.put S L[k].1 L[k].2) (L.drop (k + 1)) := by
  rw [List.drop_eq_getElem_cons hk, Tri.ofR, if_pos h]
theorem Tri.ofR_bad {S L : St} {k : Nat} (hk : k < L.length) (h : Tri.putC S L[k].1 L[k].2 ≠ 0) : Tri.ofR S (L.drop k) = ([], Tri.putC S L[k].1 L[k].2) := by
  rw [List.drop_eq_getElem_cons hk, Tri.ofR, if_neg h]
def RtOfPost (L : St) (w : World) (e : Ending) (w' : World) : Prop :=
  ∃ v', e = .returned (.tuple #[v', .int .i64 (Tri.ofR [] L).2]) ∧ ItAt w' v' (Tri.ofR [] L).1 ∧ Below w.heap.size w w'
theorem RtOfPost.of {L S : St} {c : Nat} {w w' : World} {v' : Value} (h : Tri.ofR [] L = (S, c)) (hv : ItAt w' v' S) (hb : Below w.heap.size w w') : RtOfPost L w (.returned (.tuple #[v', .int .i64 c])) w' :=
  ⟨v', by rw [h], by rw [h]; exact hv, hb⟩
end Go.Proofs.YtjfefphgikncnaaDoor
