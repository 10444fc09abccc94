/- The document's answer: Sign. -/
import Derived.Test.YteolephlajhghaaOraRef
import Derived.Test.YteolephlajhghaaOraArgs
import Derived.Maps.AppendAt
namespace Go.Proofs.Yteolephlajhghaa
open Go.RowKit
open Go.Proofs.Yteolephlajhghaa.Ora (K Sig)

/-- 'append(s, x...)', by an equation of the run. -/
theorem wpList_append_eq {P : Program} {w w' : World} {ops : Array Oper} {rest : List Oper} {o : Oper} {a : Act} {Q : Exit → Act → World → Prop} (hg : o.guard = none) (s x : Operand) (t : TypeId) (hop : o.op = Op.call { callee := Callee.builtin Builtin.append, args := #[s, x], argTypes := #[t, t] })
    (sv xv r : Value) (hs : a.eval s = sv) (hx : a.eval x = xv) (hrun : (Builtin.append_ #[t, t] o.type #[sv, xv]).run P w = .ok r w') (hK : wpList P ops Q rest (a.put o.dst r) w') :
    wpList P ops Q (o :: rest) a w := by
  refine wpList_plain hg fun K' hK' => ?_
  unfold Oper.wp
  simp [execOp, hop, resolve, invoke, builtin, hs, hx, hrun, Result.andThen]
  exact hK' _ _ hK
theorem run_append_nothing_sg (w : World) (v : Value) (n c B : Nat) (xs : List Value) (h : w.ownsRow B 40 3 v n xs) (ty : TypeId) : (Builtin.append_ #[25, 25] ty #[v, .slice none 0 c]).run Try.prog w = .ok v w := by
  rcases h.2 with ⟨rfl, rfl⟩ | ⟨g, cap, cur, rfl, hB, hh, hn, _⟩
  · simp [Builtin.append_, run_underlying Try.underlying25, Try.sizeOf40, Builtin.lenOf, Builtin.firstCells, Result.andThen]
  · simp [Builtin.append_, run_underlying Try.underlying25, Try.sizeOf40, Builtin.lenOf, Builtin.firstCells, Result.andThen, hn, storeCells]
theorem grown_same (w : World) (r : Option Nat) : w.grownBy w r := ⟨rfl, rfl, rfl, Nat.le_refl _, fun _ _ _ => rfl⟩
theorem append_sgs {w : World} {v s : Value} {L : List Sig} {B n : Nat} {xs : List Value} (hv : Sgs w v L) (hs : w.ownsRow B 40 3 s n xs) (hl : n + L.length ≤ 1000000) (hB : B ≤ w.heap.size) :
    ∃ v' w', (Builtin.append_ #[25, 25] 25 #[s, v]).run Try.prog w = .ok v' w' ∧ w'.ownsRow B 40 3 v' (n + L.length) (xs ++ sgrows L) ∧ w.grownBy w' s.ownBlock ∧ (v'.ownBlock = s.ownBlock ∨ v'.ownBlock = some w.heap.size) := by
  obtain ⟨i0, hi, hz0, hz1, hz2⟩ := info_parts Try.infoSigned
  obtain ⟨A, cap, rfl, -, hc⟩ := hv
  cases A with
  | none =>
    have h0 : L.length = 0 := by
      by_cases h : L.length = 0
      · exact h
      · obtain ⟨b, o, ha, _⟩ := hc (by omega)
        cases ha
    obtain rfl : L = [] := List.eq_nil_of_length_eq_zero h0
    exact ⟨s, w, run_append_nothing_sg w s n cap B xs hs _, by simpa [sgrows] using hs, grown_same _ _, Or.inl rfl⟩
  | some a =>
    obtain ⟨v', w', h1, h2, h3, _, h5⟩ := run_append_own_at (P := Try.prog) w B 25 25 40 i0 (.agg #[.string ⟨#[]⟩, .string ⟨#[]⟩, .bool false]) 3 40 Try.underlying25 hi hz0 hz1 hz2 rfl (by decide) s n xs hs a L.length cap (sgrows L) (sgrows_length L)
      (fun j u hu => by
        have hj : j < L.length * 3 := by
          have := (List.getElem?_eq_some_iff.1 hu).1
          rwa [sgrows_length] at this
        obtain ⟨b, o, hb, _, hcell⟩ := hc (by omega)
        cases hb
        obtain ⟨i, r, hr, rfl⟩ : ∃ i r, r < 3 ∧ j = i * 3 + r := ⟨j / 3, j % 3, by omega, by omega⟩
        have hi' : i < L.length := by omega
        have e := sgrows_at L i r hi' hr
        rw [hu] at e
        obtain ⟨h1, h2, h3⟩ := hcell i hi'
        rw [Addr.add_mid]
        have hr3 : r = 0 ∨ r = 1 ∨ r = 2 := by omega
        rcases hr3 with rfl | rfl | rfl
        · simp only [scl, List.getElem?_cons_zero, Option.some.injEq] at e
          rw [e]; exact h1
        · simp only [scl, List.getElem?_cons_succ, List.getElem?_cons_zero, Option.some.injEq] at e
          rw [e]; exact h2
        · simp only [scl, List.getElem?_cons_succ, List.getElem?_cons_zero, Option.some.injEq] at e
          rw [e]; exact h3) (by
        intro u hu
        obtain ⟨m, _, hm⟩ := List.mem_flatMap.1 hu
        simp only [scl, List.mem_cons, List.not_mem_nil, or_false] at hm
        rcases hm with rfl | rfl | rfl <;> rfl) (by unfold maxLen; omega) (by omega) hB
    exact ⟨v', w', h1, h2, h3, h5⟩
/-- The beginning and the end of a slice of signatures. -/
theorem Sgs.take {w : World} {A : Option Addr} {n cap : Nat} {L : List Sig} (h : Sgs w (.slice A n cap) L) (k : Nat) (hk : k ≤ L.length) : Sgs w (.slice A k cap) (L.take k) := by
  obtain ⟨A0, cap0, hv0, hcap, hc0⟩ := h
  obtain ⟨rfl, rfl, rfl⟩ : A = A0 ∧ n = L.length ∧ cap = cap0 := by simpa using hv0
  have hl : (L.take k).length = k := by simp; omega
  refine ⟨A, cap, by rw [hl], by omega, fun h0 => ?_⟩
  obtain ⟨b, o, rfl, hlt, hcell⟩ := hc0 (by omega)
  refine ⟨b, o, rfl, hlt, fun i hi => ?_⟩
  rw [hl] at hi
  have := hcell i (by omega)
  simpa using this
theorem Sgs.drop {w : World} {b o n cap : Nat} {L : List Sig} (h : Sgs w (.slice (some ⟨b, o, none⟩) n cap) L) (k : Nat) (hk : k ≤ L.length) : Sgs w (.slice (some ⟨b, o + k * 3, none⟩) (n - k) (cap - k)) (L.drop k) := by
  obtain ⟨A0, cap0, hv0, hcap, hc0⟩ := h
  obtain ⟨rfl, rfl, rfl⟩ : some ⟨b, o, none⟩ = A0 ∧ n = L.length ∧ cap = cap0 := by simpa using hv0
  have hl : (L.drop k).length = L.length - k := by simp
  refine ⟨_, _, by rw [hl], by omega, fun h0 => ?_⟩
  rw [hl] at h0
  obtain ⟨b', o', he, hlt, hcell⟩ := hc0 (by omega)
  cases he
  refine ⟨b, o + k * 3, rfl, hlt, fun i hi => ?_⟩
  rw [hl] at hi
  have := hcell (k + i) (by omega)
  have e : o + (k + i) * 3 = o + k * 3 + i * 3 := by omega
  rw [e] at this
  simpa using this

theorem slice_len {A A' : Option Addr} {n n' c c' : Nat} (h : Value.slice A n c = .slice A' n' c') : n = n' := by injection h
theorem sign_third {w w1 w2 : World} {v1 l2 : Value} {T R : List Sig} {one : Sig} {g' cap' : Nat} {o : Obj} (hb : Below w.heap.size w w1) (h1 : w1.ownsRow w.heap.size 40 3 v1 T.length (sgrows T))
    (h2 : w2.ownsRow w.heap.size 40 3 (.slice (some ⟨g', 0, none⟩) (T.length + 1) cap') (T.length + 1) (sgrows T ++ sgrows [one])) (hg : (w1.alloc o).grownBy w2 v1.ownBlock) (hs : Sgs w l2 R) (hl : T.length + 1 + R.length ≤ 1000000) :
    ∃ v3 w3, (Builtin.append_ #[25, 25] 25 #[.slice (some ⟨g', 0, none⟩) (T.length + 1) cap', l2]).run Try.prog w2 = .ok v3 w3 ∧ OwnS w3 w.heap.size v3 (T ++ one :: R) ∧ Below w.heap.size w w3 := by
  have hb1 := hb.alloc hb.size o
  have hb2 : Below w.heap.size w w2 := hb1.trans ((Out.grown hg (F := fun j => v1.ownBlock = some j) (fun j e => e)).below (fun j hj => (World.ownsRow.lt h1 j hj).1) hb1.size)
  obtain ⟨v3, w3, hrun, hown, hgr, _⟩ := append_sgs (hs.below hb2) h2 hl hb2.size
  refine ⟨v3, w3, hrun, ?_, hb2.trans ((Out.grown hgr (F := fun j => j = g') (fun j e => by simp [Value.ownBlock] at e; exact e.symm)).below (fun j hj => ?_) hb2.size)⟩
  · unfold OwnS
    have e1 : sgrows (T ++ one :: R) = sgrows T ++ sgrows [one] ++ sgrows R := by
      rw [show T ++ one :: R = (T ++ [one]) ++ R by simp, sgrows_append, sgrows_append]
    have e2 : (T ++ one :: R).length = T.length + 1 + R.length := by simp; omega
    rw [e1, e2]
    exact hown
  · exact (World.ownsRow.lt h2 j (by rw [hj]; rfl)).1

def RSignPost (S : List Sig) (k : K) (h : Bool) (w : World) (e : Ending) (w' : World) : Prop :=
  ∃ v, e = .returned (.tuple #[v, .int .i64 (Ora.signP S k h).2]) ∧ Sgs w' v (Ora.signP S k h).1 ∧ ((Ora.signP S k h).1 = [] → v = .slice none 0 0) ∧ Below w.heap.size w w'

set_option maxRecDepth 8000 in
set_option maxHeartbeats 2000000 in
theorem rSign_any (S : List Sig) (v : Value) (k : K) (h : Bool) (w : World) (hv : Sgs w v S) (hn : S = [] → v = .slice none 0 0) (hS : Ora.Rising S) (hl : S.length ≤ 2000) :
    Calls Try.prog 10 #[v, .string ⟨k.1.toArray⟩, .string ⟨k.2.toArray⟩, .bool h] w (RSignPost S k h w) := by
  have HA := Lib.hid (rAt_any S v k w hv (by omega))
  have HPUT := Lib.hid (Ora.at_put S k h)
  have HLK := Lib.hid (Ora.at_look hS k)
  have HLE := Lib.hid (Ora.at_le S k)
  obtain ⟨x, d⟩ := k
  have HV := Lib.hid hv
  have HN := Lib.hid hn
  obtain ⟨A, cap, rfl, hcap⟩ := hv.form
  have HSAME : Hid (∀ c, Ora.signP S (x, d) h = (S, c) → ∀ e, e = .returned (.tuple #[.slice A S.length cap, .int .i64 c]) → RSignPost S (x, d) h w e w) := Lib.hid (fun c hc e he => by
    unfold RSignPost
    rw [hc]
    exact ⟨_, he, HV.out, HN.out, Below.refl _ w⟩)
  by_cases h1 : x.length < 1 ∨ 6 < x.length
  case pos =>
    have HS : Hid (Ora.signP S (x, d) h = (S, 1)) := Lib.hid (if_pos h1)
    dsimp only
    by_cases h2 : x.length < 1
    · have h2' : (x.length : Int) < 1 := by omega
      clear hv hn h1 h2
      go_enter Try.func10, Try.ntmps10
      go_wp2
      go_ret2
      exact HSAME.out _ HS.out _ rfl
    · have h2' : ¬ ((x.length : Int) < 1) := by omega
      have h3' : (6 : Int) < (x.length : Int) := by omega
      clear hv hn h1 h2
      go_enter Try.func10, Try.ntmps10
      go_wp2
      go_ret2
      exact HSAME.out _ HS.out _ rfl
  have h2' : ¬ ((x.length : Int) < 1) := by omega
  have h3' : ¬ ((6 : Int) < (x.length : Int)) := by omega
  by_cases h4 : d.length = 32
  case neg =>
    have HS : Hid (Ora.signP S (x, d) h = (S, 3)) := Lib.hid (by unfold Ora.signP; rw [if_neg h1, if_pos h4])
    have h4' : ¬ ((d.length : Int) = 32) := by omega
    dsimp only
    clear hv hn h1 h4
    go_enter Try.func10, Try.ntmps10
    go_wp2
    go_ret2
    exact HSAME.out _ HS.out _ rfl
  have h4' : ((d.length : Int) = 32) := by omega
  have HSP : Hid (Ora.signP S (x, d) h = if Ora.look S (x, d) = none ∧ 1024 ≤ S.length then (S, 2) else (Ora.put S (x, d) h, 0)) := Lib.hid (by unfold Ora.signP; rw [if_neg h1, if_neg (by simpa using h4)])
  obtain ⟨⟨P, T⟩, hP⟩ : ∃ z, Ora.atP S (x, d) = z := ⟨_, rfl⟩
  rw [hP] at HA HPUT HLK HLE
  dsimp only at HA HPUT HLK HLE ⊢
  clear hP h1 h4
  cases T with
  | false =>
    by_cases hl4 : 1024 ≤ S.length
    · have hl' : (1024 : Int) ≤ (S.length : Int) := by omega
      have HS : Hid (Ora.signP S (x, d) h = (S, 2)) := Lib.hid (by
        have := HLK.out
        rw [HSP.out, if_pos ⟨by cases hq : Ora.look S (x, d) with | none => rfl | some b => (rw [hq] at this; cases this), hl4⟩])
      clear hv hn hl4
      go_enter Try.func10, Try.ntmps10
      go_wp2_with fail
      refine HA.out.mono ?_
      rintro e w1 ⟨rfl, rfl⟩
      go_wp2
      go_ret2
      exact HSAME.out _ HS.out _ rfl
    · have hl' : ¬ ((1024 : Int) ≤ (S.length : Int)) := by omega
      have HS : Hid (Ora.signP S (x, d) h = (Ora.put S (x, d) h, 0)) := Lib.hid (by rw [HSP.out, if_neg (fun q => hl4 q.2)])
      have hpc : (P : Int) ≤ (cap : Int) := by have := HLE.out; omega
      have hps : (P : Int) ≤ (S.length : Int) := by have := HLE.out; omega
      have HPE := HPUT.out.2 rfl
      have ht := hv.take P HLE.out
      have hTl : (S.take P).length = P := by have := HLE.out; simp; omega
      have hRl : (S.drop P).length ≤ 2000 := by simp; omega
      have hdr : ∀ b o, A = some ⟨b, o, none⟩ → Sgs w (.slice (some ⟨b, o + P * 3, none⟩) (S.length - P) (cap - P)) (S.drop P) := fun b o q => by subst q; exact hv.drop P HLE.out
      have hdn : S = [] → S.drop P = [] ∧ S.take P = [] := fun q => by simp [q]
      obtain ⟨T, hT⟩ : ∃ T, S.take P = T := ⟨_, rfl⟩
      obtain ⟨R, hR⟩ : ∃ R, S.drop P = R := ⟨_, rfl⟩
      rw [hT] at ht hTl HPE hdn
      rw [hR] at hRl hdr HPE hdn
      obtain ⟨v1, w1, hrun1, hown1, hgr1, hat1⟩ := append_sgs ht (World.ownsRow_nil w w.heap.size 40 3) (by have := HLE.out; omega) (Nat.le_refl _)
      rw [List.nil_append, Nat.zero_add] at hown1
      have hb1 : Below w.heap.size w w1 := (Out.grown hgr1 (F := fun _ => False) (fun j e => by simp [Value.ownBlock] at e)).below (fun _ hf => hf.elim) (Nat.le_refl _)
      obtain ⟨i0, hi, hz0, hz1, hz2⟩ := info_parts Try.infoSigned
      obtain ⟨A1, cap1, rfl⟩ := own_form hown1
      have HOW1 := Lib.hid hown1
      have HB1 := Lib.hid hb1
      have HTL : Hid (T.length = P ∧ P ≤ 2000 ∧ R.length ≤ 2000) := Lib.hid ⟨hTl, by have := HLE.out; omega, hRl⟩
      have HTH := Lib.hid (fun w2 g' cap' l2 h2 hg hs => sign_third (w2 := w2) (l2 := l2) (R := R) (one := ((x, d), h)) (g' := g') (cap' := cap') (o := .cells #[.string ⟨x.toArray⟩, .string ⟨d.toArray⟩, .bool h] 40) hb1 hown1 h2 hg hs (by omega))
      have HFIN : Hid (∀ v3 w3, OwnS w3 w.heap.size v3 (T ++ ((x, d), h) :: R) → Below w.heap.size w w3 → RSignPost S (x, d) h w (.returned (.tuple #[v3, .int .i64 0])) w3) := Lib.hid (fun v3 w3 q1 q2 => by
        unfold RSignPost
        rw [HS.out]
        dsimp only
        rw [HPE]
        exact ⟨v3, rfl, q1.sgs, fun q => by simp at q, q2⟩)
      have HDN := Lib.hid hdn
      have hcases : (S = [] ∧ A = none ∧ cap = 0) ∨ ∃ b o, A = some ⟨b, o, none⟩ := by
        by_cases q : S = []
        · have := hn q
          simp at this
          exact Or.inl ⟨q, this.1, this.2.2⟩
        · obtain ⟨A0, cap0, hv0, _, hc⟩ := hv
          obtain ⟨rfl, _⟩ : A = A0 ∧ _ := by simpa using hv0
          obtain ⟨b, o, rfl, _⟩ := hc (List.length_pos_iff.2 q)
          exact Or.inr ⟨b, o, rfl⟩
      clear hl4 hgr1 hat1 HPE HPUT hb1 hown1 hdn hT hR hTl hRl ht hn
      rcases hcases with ⟨hs0, rfl, rfl⟩ | ⟨b, o, rfl⟩
      · have hSl : S.length = 0 := by rw [hs0]; rfl
        obtain rfl : P = 0 := by have := HLE.out; omega
        have HDR : Hid (Sgs w (.slice none 0 0) R) := Lib.hid (by rw [(HDN.out hs0).1]; exact Sgs.nil w)
        rw [hSl] at HA hl' ⊢
        clear hv hdr hs0 hSl HSAME HV HN hps hpc
        go_enter Try.func10, Try.ntmps10
        go_wp2_with fail
        refine HA.out.mono ?_
        rintro e w0 ⟨rfl, rfl⟩
        go_wp2_with (first | (at_builtin; refine wpList_append_eq rfl _ _ _ rfl (.slice none 0 0) (.slice none 0 0) (.slice A1 T.length cap1) (by rfl) (by rfl) hrun1 ?_) | (at_builtin; refine wpList_append_lies _ rfl _ _ _ rfl w0.heap.size 40 i0 (.agg #[.string ⟨#[]⟩, .string ⟨#[]⟩, .bool false]) 3 40 Try.underlying25 hi hz0 hz1 hz2 rfl (by decide) (.slice A1 T.length cap1) T.length (sgrows T) (by rfl) (World.ownsRow.alloc HOW1.out _) ⟨w1.heap.size, 0, none⟩ 1 1 (sgrows [((x, d), h)]) (by rfl) rfl (World.news_of_block (heap_new_at _ _ _ (by simp))) (by simp [sgrows, scl, Value.oneCell']) (by decide) (by have := HTL.out; unfold maxLen; omega) (by have := HTL.out; omega) (by have := HB1.out.size; simp at this ⊢; omega) (w1.heap.size + 1) (by simp) ?_; intro g' cap' w2 hown2 hgr2 hat2 hlt2) | (at_builtin; obtain ⟨v3, w3, hrun3, hown3, hb3⟩ := HTH.out w2 g' cap' (.slice none 0 0) hown2 hgr2 HDR.out; refine wpList_append_eq rfl _ _ _ rfl (.slice (some ⟨g', 0, none⟩) (T.length + 1) cap') (.slice none 0 0) v3 (by rfl) (by rfl) hrun3 ?_))
        go_ret2
        exact HFIN.out _ _ hown3 hb3
      · have HDR' := Lib.hid (hdr b o rfl)
        clear hv hdr
        by_cases hPc : P = cap
        · subst hPc
          have hSP : S.length = P := by have := HLE.out; omega
          have HDR : Hid (Sgs w (.slice (some ⟨b, o, none⟩) 0 0) R) := Lib.hid (by
            obtain ⟨A0, c0, hv0, _, _⟩ := HDR'.out
            have hR0 : R.length = 0 := by
              have : S.length - P = R.length := slice_len hv0
              omega
            exact ⟨some ⟨b, o, none⟩, 0, by rw [hR0], by omega, fun q => by omega⟩)
          rw [hSP] at HA hl' ⊢
          clear HSAME HV HN hps hpc HDR' hSP
          go_enter Try.func10, Try.ntmps10
          go_wp2_with fail
          refine HA.out.mono ?_
          rintro e w0 ⟨rfl, rfl⟩
          go_wp2_with (first | (at_builtin; refine wpList_append_eq rfl _ _ _ rfl (.slice none 0 0) (.slice (some ⟨b, o, none⟩) P P) (.slice A1 T.length cap1) (by rfl) (by rfl) hrun1 ?_) | (at_builtin; refine wpList_append_lies _ rfl _ _ _ rfl w0.heap.size 40 i0 (.agg #[.string ⟨#[]⟩, .string ⟨#[]⟩, .bool false]) 3 40 Try.underlying25 hi hz0 hz1 hz2 rfl (by decide) (.slice A1 T.length cap1) T.length (sgrows T) (by rfl) (World.ownsRow.alloc HOW1.out _) ⟨w1.heap.size, 0, none⟩ 1 1 (sgrows [((x, d), h)]) (by rfl) rfl (World.news_of_block (heap_new_at _ _ _ (by simp))) (by simp [sgrows, scl, Value.oneCell']) (by decide) (by have := HTL.out; unfold maxLen; omega) (by have := HTL.out; omega) (by have := HB1.out.size; simp at this ⊢; omega) (w1.heap.size + 1) (by simp) ?_; intro g' cap' w2 hown2 hgr2 hat2 hlt2) | (at_builtin; obtain ⟨v3, w3, hrun3, hown3, hb3⟩ := HTH.out w2 g' cap' (.slice (some ⟨b, o, none⟩) 0 0) hown2 hgr2 HDR.out; refine wpList_append_eq rfl _ _ _ rfl (.slice (some ⟨g', 0, none⟩) (T.length + 1) cap') (.slice (some ⟨b, o, none⟩) 0 0) v3 (by rfl) (by rfl) hrun3 ?_))
          go_ret2
          exact HFIN.out _ _ hown3 hb3
        · have hPc2 : ¬ ((cap : Int) - (P : Int) = 0) := by omega
          have HDR := HDR'
          go_enter Try.func10, Try.ntmps10
          go_wp2_with fail
          refine HA.out.mono ?_
          rintro e w0 ⟨rfl, rfl⟩
          go_wp2_with (first | (at_builtin; refine wpList_append_eq rfl _ _ _ rfl (.slice none 0 0) (.slice (some ⟨b, o, none⟩) P cap) (.slice A1 T.length cap1) (by rfl) (by rfl) hrun1 ?_) | (at_builtin; refine wpList_append_lies _ rfl _ _ _ rfl w0.heap.size 40 i0 (.agg #[.string ⟨#[]⟩, .string ⟨#[]⟩, .bool false]) 3 40 Try.underlying25 hi hz0 hz1 hz2 rfl (by decide) (.slice A1 T.length cap1) T.length (sgrows T) (by rfl) (World.ownsRow.alloc HOW1.out _) ⟨w1.heap.size, 0, none⟩ 1 1 (sgrows [((x, d), h)]) (by rfl) rfl (World.news_of_block (heap_new_at _ _ _ (by simp))) (by simp [sgrows, scl, Value.oneCell']) (by decide) (by have := HTL.out; unfold maxLen; omega) (by have := HTL.out; omega) (by have := HB1.out.size; simp at this ⊢; omega) (w1.heap.size + 1) (by simp) ?_; intro g' cap' w2 hown2 hgr2 hat2 hlt2) | (at_builtin; obtain ⟨v3, w3, hrun3, hown3, hb3⟩ := HTH.out w2 g' cap' (.slice (some ⟨b, o + P * 3, none⟩) (S.length - P) (cap - P)) hown2 hgr2 HDR.out; refine wpList_append_eq rfl _ _ _ rfl (.slice (some ⟨g', 0, none⟩) (T.length + 1) cap') (.slice (some ⟨b, o + P * 3, none⟩) (S.length - P) (cap - P)) v3 (by rfl) (by rfl) hrun3 ?_))
          go_ret2
          exact HFIN.out _ _ hown3 hb3
  | true =>
    obtain ⟨hlt, hkk, HPE⟩ := HPUT.out.1 rfl
    have HS : Hid (Ora.signP S (x, d) h = (Ora.put S (x, d) h, 0)) := Lib.hid (by
      rw [HSP.out, if_neg (fun q => by have := HLK.out; rw [q.1] at this; cases this)])
    have hpc : (P : Int) ≤ (cap : Int) := by omega
    have hpc1 : (P : Int) + 1 ≤ (cap : Int) := by omega
    have hps : (P : Int) ≤ (S.length : Int) := by omega
    have hps' : (P : Int) < (S.length : Int) := by omega
    have hps1 : (P : Int) + 1 ≤ (S.length : Int) := by omega
    have hp0 : (0 : Int) ≤ (P : Int) := by omega
    have hbig : (P : Int) ≤ 2000 := by omega
    obtain ⟨b, o, rfl, -, -, c2⟩ := hv.at (Below.refl _ w) P hlt
    obtain ⟨b0, hb0⟩ : ∃ b0, S[P].2 = b0 := ⟨_, rfl⟩
    rw [hb0] at c2 HPE
    clear hb0
    cases b0 with
    | false =>
      simp only [Bool.false_and] at HPE
      have ht := hv.take P HLE.out
      have hTl : (S.take P).length = P := by have := HLE.out; simp; omega
      have hRl : (S.drop (P + 1)).length ≤ 2000 := by simp; omega
      have hdr := hv.drop (P + 1) hlt
      obtain ⟨T, hT⟩ : ∃ T, S.take P = T := ⟨_, rfl⟩
      obtain ⟨R, hR⟩ : ∃ R, S.drop (P + 1) = R := ⟨_, rfl⟩
      rw [hT] at ht hTl HPE
      rw [hR] at hRl hdr HPE
      obtain ⟨v1, w1, hrun1, hown1, hgr1, hat1⟩ := append_sgs ht (World.ownsRow_nil w w.heap.size 40 3) (by have := HLE.out; omega) (Nat.le_refl _)
      rw [List.nil_append, Nat.zero_add] at hown1
      have hb1 : Below w.heap.size w w1 := (Out.grown hgr1 (F := fun _ => False) (fun j e => by simp [Value.ownBlock] at e)).below (fun _ hf => hf.elim) (Nat.le_refl _)
      obtain ⟨i0, hi, hz0, hz1, hz2⟩ := info_parts Try.infoSigned
      obtain ⟨A1, cap1, rfl⟩ := own_form hown1
      have HOW1 := Lib.hid hown1
      have HB1 := Lib.hid hb1
      have c2' := (hb1.cell (World.block_lt_of_cell? _ _ c2)).trans c2
      have HTL : Hid (T.length = P ∧ P ≤ 2000 ∧ R.length ≤ 2000) := Lib.hid ⟨hTl, by have := HLE.out; omega, hRl⟩
      have HTH := Lib.hid (fun w2 g' cap' l2 h2 hg hs => sign_third (w2 := w2) (l2 := l2) (R := R) (one := ((x, d), false)) (g' := g') (cap' := cap') (o := .cells #[.string ⟨x.toArray⟩, .string ⟨d.toArray⟩, .bool false] 40) hb1 hown1 h2 hg hs (by omega))
      have HFIN : Hid (∀ v3 w3, OwnS w3 w.heap.size v3 (T ++ ((x, d), false) :: R) → Below w.heap.size w w3 → RSignPost S (x, d) h w (.returned (.tuple #[v3, .int .i64 0])) w3) := Lib.hid (fun v3 w3 q1 q2 => by
        unfold RSignPost
        rw [HS.out]
        dsimp only
        rw [HPE]
        exact ⟨v3, rfl, q1.sgs, fun q => by simp at q, q2⟩)
      clear hgr1 hat1 HPE HPUT hb1 hown1 hT hR hTl hRl ht hn hkk
      have HDR' := Lib.hid hdr
      clear hv hdr
      by_cases hPc : P + 1 = cap
      · subst hPc
        have hSP : S.length = P + 1 := by omega
        have HDR : Hid (Sgs w (.slice (some ⟨b, o, none⟩) 0 0) R) := Lib.hid (by
          obtain ⟨A0, c0, hv0, _, _⟩ := HDR'.out
          have hR0 : R.length = 0 := by
            have : S.length - (P + 1) = R.length := slice_len hv0
            omega
          exact ⟨some ⟨b, o, none⟩, 0, by rw [hR0], by omega, fun q => by omega⟩)
        rw [hSP] at HA hps' ⊢
        clear HSAME HV HN hps hpc HDR' hSP
        go_enter Try.func10, Try.ntmps10
        go_wp2_with fail
        refine HA.out.mono ?_
        rintro e w0 ⟨rfl, rfl⟩
        go_wp2_with (first | (at_builtin; refine wpList_append_eq rfl _ _ _ rfl (.slice none 0 0) (.slice (some ⟨b, o, none⟩) P (P + 1)) (.slice A1 T.length cap1) (by rfl) (by rfl) hrun1 ?_) | (at_builtin; refine wpList_append_lies _ rfl _ _ _ rfl w0.heap.size 40 i0 (.agg #[.string ⟨#[]⟩, .string ⟨#[]⟩, .bool false]) 3 40 Try.underlying25 hi hz0 hz1 hz2 rfl (by decide) (.slice A1 T.length cap1) T.length (sgrows T) (by rfl) (World.ownsRow.alloc HOW1.out _) ⟨w1.heap.size, 0, none⟩ 1 1 (sgrows [((x, d), false)]) (by rfl) rfl (World.news_of_block (heap_new_at _ _ _ (by simp))) (by simp [sgrows, scl, Value.oneCell']) (by decide) (by have := HTL.out; unfold maxLen; omega) (by have := HTL.out; omega) (by have := HB1.out.size; simp at this ⊢; omega) (w1.heap.size + 1) (by simp) ?_; intro g' cap' w2 hown2 hgr2 hat2 hlt2) | (at_builtin; obtain ⟨v3, w3, hrun3, hown3, hb3⟩ := HTH.out w2 g' cap' (.slice (some ⟨b, o, none⟩) 0 0) hown2 hgr2 HDR.out; refine wpList_append_eq rfl _ _ _ rfl (.slice (some ⟨g', 0, none⟩) (T.length + 1) cap') (.slice (some ⟨b, o, none⟩) 0 0) v3 (by rfl) (by rfl) hrun3 ?_))
        go_ret2
        exact HFIN.out _ _ hown3 hb3
      · have hPc2 : ¬ ((cap : Int) - ((P : Int) + 1) = 0) := by omega
        have HDR := HDR'
        go_enter Try.func10, Try.ntmps10
        go_wp2_with fail
        refine HA.out.mono ?_
        rintro e w0 ⟨rfl, rfl⟩
        go_wp2_with (first | (at_builtin; refine wpList_append_eq rfl _ _ _ rfl (.slice none 0 0) (.slice (some ⟨b, o, none⟩) P cap) (.slice A1 T.length cap1) (by rfl) (by rfl) hrun1 ?_) | (at_builtin; refine wpList_append_lies _ rfl _ _ _ rfl w0.heap.size 40 i0 (.agg #[.string ⟨#[]⟩, .string ⟨#[]⟩, .bool false]) 3 40 Try.underlying25 hi hz0 hz1 hz2 rfl (by decide) (.slice A1 T.length cap1) T.length (sgrows T) (by rfl) (World.ownsRow.alloc HOW1.out _) ⟨w1.heap.size, 0, none⟩ 1 1 (sgrows [((x, d), false)]) (by rfl) rfl (World.news_of_block (heap_new_at _ _ _ (by simp))) (by simp [sgrows, scl, Value.oneCell']) (by decide) (by have := HTL.out; unfold maxLen; omega) (by have := HTL.out; omega) (by have := HB1.out.size; simp at this ⊢; omega) (w1.heap.size + 1) (by simp) ?_; intro g' cap' w2 hown2 hgr2 hat2 hlt2) | (at_builtin; obtain ⟨v3, w3, hrun3, hown3, hb3⟩ := HTH.out w2 g' cap' (.slice (some ⟨b, o + (P + 1) * 3, none⟩) (S.length - (P + 1)) (cap - (P + 1))) hown2 hgr2 HDR.out; refine wpList_append_eq rfl _ _ _ rfl (.slice (some ⟨g', 0, none⟩) (T.length + 1) cap') (.slice (some ⟨b, o + (P + 1) * 3, none⟩) (S.length - (P + 1)) (cap - (P + 1))) v3 (by rfl) (by rfl) hrun3 ?_))
        go_ret2
        exact HFIN.out _ _ hown3 hb3
    | true =>
      simp only [Bool.true_and] at HPE
      have ht := hv.take P HLE.out
      have hTl : (S.take P).length = P := by have := HLE.out; simp; omega
      have hRl : (S.drop (P + 1)).length ≤ 2000 := by simp; omega
      have hdr := hv.drop (P + 1) hlt
      obtain ⟨T, hT⟩ : ∃ T, S.take P = T := ⟨_, rfl⟩
      obtain ⟨R, hR⟩ : ∃ R, S.drop (P + 1) = R := ⟨_, rfl⟩
      rw [hT] at ht hTl HPE
      rw [hR] at hRl hdr HPE
      obtain ⟨v1, w1, hrun1, hown1, hgr1, hat1⟩ := append_sgs ht (World.ownsRow_nil w w.heap.size 40 3) (by have := HLE.out; omega) (Nat.le_refl _)
      rw [List.nil_append, Nat.zero_add] at hown1
      have hb1 : Below w.heap.size w w1 := (Out.grown hgr1 (F := fun _ => False) (fun j e => by simp [Value.ownBlock] at e)).below (fun _ hf => hf.elim) (Nat.le_refl _)
      obtain ⟨i0, hi, hz0, hz1, hz2⟩ := info_parts Try.infoSigned
      obtain ⟨A1, cap1, rfl⟩ := own_form hown1
      have HOW1 := Lib.hid hown1
      have HB1 := Lib.hid hb1
      have c2' := (hb1.cell (World.block_lt_of_cell? _ _ c2)).trans c2
      have HTL : Hid (T.length = P ∧ P ≤ 2000 ∧ R.length ≤ 2000) := Lib.hid ⟨hTl, by have := HLE.out; omega, hRl⟩
      have HTH := Lib.hid (fun w2 g' cap' l2 h2 hg hs => sign_third (w2 := w2) (l2 := l2) (R := R) (one := ((x, d), h)) (g' := g') (cap' := cap') (o := .cells #[.string ⟨x.toArray⟩, .string ⟨d.toArray⟩, .bool h] 40) hb1 hown1 h2 hg hs (by omega))
      have HFIN : Hid (∀ v3 w3, OwnS w3 w.heap.size v3 (T ++ ((x, d), h) :: R) → Below w.heap.size w w3 → RSignPost S (x, d) h w (.returned (.tuple #[v3, .int .i64 0])) w3) := Lib.hid (fun v3 w3 q1 q2 => by
        unfold RSignPost
        rw [HS.out]
        dsimp only
        rw [HPE]
        exact ⟨v3, rfl, q1.sgs, fun q => by simp at q, q2⟩)
      clear hgr1 hat1 HPE HPUT hb1 hown1 hT hR hTl hRl ht hn hkk
      have HDR' := Lib.hid hdr
      clear hv hdr
      by_cases hPc : P + 1 = cap
      · subst hPc
        have hSP : S.length = P + 1 := by omega
        have HDR : Hid (Sgs w (.slice (some ⟨b, o, none⟩) 0 0) R) := Lib.hid (by
          obtain ⟨A0, c0, hv0, _, _⟩ := HDR'.out
          have hR0 : R.length = 0 := by
            have : S.length - (P + 1) = R.length := slice_len hv0
            omega
          exact ⟨some ⟨b, o, none⟩, 0, by rw [hR0], by omega, fun q => by omega⟩)
        rw [hSP] at HA hps' ⊢
        clear HSAME HV HN hps hpc HDR' hSP
        go_enter Try.func10, Try.ntmps10
        go_wp2_with fail
        refine HA.out.mono ?_
        rintro e w0 ⟨rfl, rfl⟩
        go_wp2_with (first | (at_builtin; refine wpList_append_eq rfl _ _ _ rfl (.slice none 0 0) (.slice (some ⟨b, o, none⟩) P (P + 1)) (.slice A1 T.length cap1) (by rfl) (by rfl) hrun1 ?_) | (at_builtin; refine wpList_append_lies _ rfl _ _ _ rfl w0.heap.size 40 i0 (.agg #[.string ⟨#[]⟩, .string ⟨#[]⟩, .bool false]) 3 40 Try.underlying25 hi hz0 hz1 hz2 rfl (by decide) (.slice A1 T.length cap1) T.length (sgrows T) (by rfl) (World.ownsRow.alloc HOW1.out _) ⟨w1.heap.size, 0, none⟩ 1 1 (sgrows [((x, d), h)]) (by rfl) rfl (World.news_of_block (heap_new_at _ _ _ (by simp))) (by simp [sgrows, scl, Value.oneCell']) (by decide) (by have := HTL.out; unfold maxLen; omega) (by have := HTL.out; omega) (by have := HB1.out.size; simp at this ⊢; omega) (w1.heap.size + 1) (by simp) ?_; intro g' cap' w2 hown2 hgr2 hat2 hlt2) | (at_builtin; obtain ⟨v3, w3, hrun3, hown3, hb3⟩ := HTH.out w2 g' cap' (.slice (some ⟨b, o, none⟩) 0 0) hown2 hgr2 HDR.out; refine wpList_append_eq rfl _ _ _ rfl (.slice (some ⟨g', 0, none⟩) (T.length + 1) cap') (.slice (some ⟨b, o, none⟩) 0 0) v3 (by rfl) (by rfl) hrun3 ?_))
        go_ret2
        exact HFIN.out _ _ hown3 hb3
      · have hPc2 : ¬ ((cap : Int) - ((P : Int) + 1) = 0) := by omega
        have HDR := HDR'
        go_enter Try.func10, Try.ntmps10
        go_wp2_with fail
        refine HA.out.mono ?_
        rintro e w0 ⟨rfl, rfl⟩
        go_wp2_with (first | (at_builtin; refine wpList_append_eq rfl _ _ _ rfl (.slice none 0 0) (.slice (some ⟨b, o, none⟩) P cap) (.slice A1 T.length cap1) (by rfl) (by rfl) hrun1 ?_) | (at_builtin; refine wpList_append_lies _ rfl _ _ _ rfl w0.heap.size 40 i0 (.agg #[.string ⟨#[]⟩, .string ⟨#[]⟩, .bool false]) 3 40 Try.underlying25 hi hz0 hz1 hz2 rfl (by decide) (.slice A1 T.length cap1) T.length (sgrows T) (by rfl) (World.ownsRow.alloc HOW1.out _) ⟨w1.heap.size, 0, none⟩ 1 1 (sgrows [((x, d), h)]) (by rfl) rfl (World.news_of_block (heap_new_at _ _ _ (by simp))) (by simp [sgrows, scl, Value.oneCell']) (by decide) (by have := HTL.out; unfold maxLen; omega) (by have := HTL.out; omega) (by have := HB1.out.size; simp at this ⊢; omega) (w1.heap.size + 1) (by simp) ?_; intro g' cap' w2 hown2 hgr2 hat2 hlt2) | (at_builtin; obtain ⟨v3, w3, hrun3, hown3, hb3⟩ := HTH.out w2 g' cap' (.slice (some ⟨b, o + (P + 1) * 3, none⟩) (S.length - (P + 1)) (cap - (P + 1))) hown2 hgr2 HDR.out; refine wpList_append_eq rfl _ _ _ rfl (.slice (some ⟨g', 0, none⟩) (T.length + 1) cap') (.slice (some ⟨b, o + (P + 1) * 3, none⟩) (S.length - (P + 1)) (cap - (P + 1))) v3 (by rfl) (by rfl) hrun3 ?_))
        go_ret2
        exact HFIN.out _ _ hown3 hb3
end Go.Proofs.Yteolephlajhghaa
