/- VerCommit, VerCommitT, VerSift, VerPrune -/
import Derived.Test.YtkfadijcjjdlcaaGreatDoorPk19
import Derived.Deep.RegionHeld3
import Derived.Test.YtkfadijcjjdlcaaGreatDoorPk18
import Derived.Test.YtkfadijcjjdlcaaGreatDoorPk03
import Derived.Test.YtkfadijcjjdlcaaGreatDoorPk13
namespace Go.Proofs.YtkfadijcjjdlcaaGreatDoor
open Go.RowKit
open Sto (T St)

def ChPost (S : St) (x : T × T) (w : World) (e : Ending) (w' : World) : Prop :=
  ∃ z, e = .returned (.tuple #[z, .int .i64 (Ver.chC S x)]) ∧ (Ver.chC S x = 0 → ∃ g', z = .pointer (some ⟨g', 0, none⟩) ∧ TrAt w' g' (Ver.chS S x)) ∧ Below w.heap.size w w'
theorem ChPost.mk {S : St} {x : T × T} {w w' : World} {z : Value} {c : Nat} (hc : Ver.chC S x = c) (h : c = 0 → ∃ g', z = .pointer (some ⟨g', 0, none⟩) ∧ TrAt w' g' (Ver.chS S x)) (hb : Below w.heap.size w w') : ChPost S x w (.returned (.tuple #[z, .int .i64 c])) w' := by
  subst hc
  exact ⟨z, rfl, h, hb⟩
set_option maxRecDepth 100000 in
set_option maxHeartbeats 2000000 in
theorem vchanged_any {g : Nat} {S : St} (x : T × T) (w : World) (h : TrAt w g S) (hT : Tab w) :
    Calls Tryz.prog 40 #[.pointer (some ⟨g, 0, none⟩), .agg #[.string ⟨x.1.toArray⟩, .string ⟨x.2.toArray⟩]] w (ChPost S x w) := by
  obtain ⟨k, y⟩ := x
  dsimp only
  have hA : Below w.heap.size w (w.alloc (.cells #[.string ⟨k.toArray⟩, .string ⟨y.toArray⟩] 39)) := (Below.refl _ w).alloc (Nat.le_refl _) _
  have HA := Lib.hid hA
  have ra := heap_alloc_new w (.cells #[.string ⟨k.toArray⟩, .string ⟨y.toArray⟩] 39)
  have a0 : (w.alloc (.cells #[.string ⟨k.toArray⟩, .string ⟨y.toArray⟩] 39)).cell? ⟨w.heap.size, 0, none⟩ = some (.string ⟨k.toArray⟩) := by rw [cell_of_row _ _ 0 _ _ _ ra]; rfl
  have a1 : (w.alloc (.cells #[.string ⟨k.toArray⟩, .string ⟨y.toArray⟩] 39)).cell? ⟨w.heap.size, 1, none⟩ = some (.string ⟨y.toArray⟩) := by rw [cell_of_row _ _ 1 _ _ _ ra]; rfl
  have HOLD := Lib.hid (h.below hA)
  by_cases hy : y = []
  · subst hy
    have HD := Lib.hid (tdel_any k _ (h.below hA) (hT.below hA))
    unfold TDelPost at HD
    have E1 : Hid (Ver.chC S (k, []) = if (Tri.getC S k).2 = 5 then 0 else (Tri.getC S k).2) := Lib.hid (by simp [Ver.chC])
    have E2 : Hid (Ver.chS S (k, []) = if (Tri.getC S k).2 = 0 then Tri.del S k else S) := Lib.hid (by simp [Ver.chS])
    obtain ⟨c, hc⟩ : ∃ c, (Tri.getC S k).2 = c := ⟨_, rfl⟩
    rw [hc] at HD E1 E2
    unfold ptr nilp at HD
    clear hc hT h ra
    go_enter Tryz.func40, Tryz.ntmps40
    go_wp2_with fail
    refine HD.out.mono ?_
    rintro e w1 ⟨z, rfl, h1, h2, hb1⟩
    have H1 := Lib.hid h1
    have HB1 := Lib.hid (bchain HA.out hb1)
    have HO1 := Lib.hid (HOLD.out.below hb1)
    clear h1 h2 hb1
    by_cases h5 : c = 5
    · subst h5
      go_wp2
      go_ret2
      exact ChPost.mk (c := 0) (by rw [E1.out]; rfl) (fun _ => ⟨g, rfl, by rw [E2.out]; exact HO1.out⟩) HB1.out
    · have q5 : ((c : Int) == 5) = false := by rw [beq_eq_false_iff_ne]; omega
      have E3 := Lib.hid h5
      clear h5
      go_wp2
      go_ret2
      exact ChPost.mk (c := c) (by rw [E1.out, if_neg E3.out]) (fun e => by rw [E2.out, if_pos e]; exact H1.out e) HB1.out
  · have HD := Lib.hid (tput_any k y _ (h.below hA) (hT.below hA))
    unfold TPutPost at HD
    have e1 : Ver.chC S (k, y) = Tri.putC S k y := by simp [Ver.chC, hy]
    have e2 : Ver.chS S (k, y) = Tri.put S k y := by simp [Ver.chS, hy]
    unfold ChPost
    rw [e1, e2]
    obtain ⟨c, hc⟩ : ∃ c, Tri.putC S k y = c := ⟨_, rfl⟩
    rw [hc] at HD ⊢
    have q1 : (y == []) = false := beq_eq_false_iff_ne.2 hy
    have q2 : y.isEmpty = false := by cases y <;> simp_all
    unfold ptr nilp at HD
    clear e1 e2 hc hT h ra hy
    go_enter Tryz.func40, Tryz.ntmps40
    go_wp2_with fail
    refine HD.out.mono ?_
    rintro e w1 ⟨z, rfl, h1, h2, hb1⟩
    have H1 := Lib.hid h1
    have HB1 := Lib.hid (bchain HA.out hb1)
    clear h1 h2 hb1
    go_wp2
    go_ret2
    exact ⟨z, rfl, H1.out, HB1.out⟩
theorem VHeld.over {w : World} {g gs ms mr : Nat} {lo : Int} {m : Ver.M} (h : VHeld w g gs ms mr lo m) {x : Int} (hx : 0 ≤ x) : (∃ y ∈ m.vs, x ≤ y.1) ↔ x ≤ m.newest := by
  rw [Ver.above_last h.good]
  unfold Ver.M.newest
  cases hl : m.last with
  | none => simp; omega
  | some y => simp
theorem Tab.outside {F : Nat → Prop} {w w' : World} (h : Tab w) (ho : Out F w w') (hF : ¬ F 0) : Tab w' := fun i hi => ho.cell (h i hi) hF
theorem VHeld.tab {w : World} {g gs ms mr : Nat} {lo : Int} {m : Ver.M} (h : VHeld w g gs ms mr lo m) (hT : Tab w) : ¬ held g gs ms mr 0 := by
  intro hk
  have h63 := hT 63 (by omega)
  rcases hk with e | e | e | e
  · have h1 := h.head
    rw [← e] at h1
    rw [cell_of_row _ _ _ _ _ _ h1] at h63
    simp at h63
  · have h1 := h.store.head
    rw [← e] at h1
    rw [cell_of_row _ _ _ _ _ _ h1] at h63
    simp at h63
  · obtain ⟨es, c, he, _⟩ := h.store.map
    rw [← e] at he
    simp [World.cell?, he] at h63
  · obtain ⟨es, c, he, _⟩ := h.roots
    rw [← e] at he
    simp [World.cell?, he] at h63
theorem chs_step {S C : St} {k : Nat} (h : k < C.length) : (Ver.chC S C[k] = 0 → Ver.chsC S (C.drop k) = Ver.chsC (Ver.chS S C[k]) (C.drop (k + 1)) ∧ Ver.chsS S (C.drop k) = Ver.chsS (Ver.chS S C[k]) (C.drop (k + 1))) ∧ (Ver.chC S C[k] ≠ 0 → Ver.chsC S (C.drop k) = Ver.chC S C[k]) := by
  rw [List.drop_eq_getElem_cons h]
  refine ⟨fun h0 => ⟨?_, rfl⟩, fun h0 => ?_⟩
  · rw [Ver.chsC, if_pos h0]
  · rw [Ver.chsC, if_neg h0]
/-- What the changes come to, on what is loaded of the newest version. -/
def WithPost (m : Ver.M) (C : St) (w : World) (e : Ending) (w' : World) : Prop :=
  ∃ (z : Value) (c : Int), e = .returned (.tuple #[z, .int .i64 c]) ∧ Below w.heap.size w w' ∧
    ((c = 0 ∧ ∃ I g', m.Tells I ∧ Ver.chsC I C = 0 ∧ z = .pointer (some ⟨g', 0, none⟩) ∧ TrAt w' g' (Ver.chsS I C)) ∨ (c ≠ 0 ∧ ((∃ I, m.Tells I ∧ Ver.chsC I C ≠ 0) ∨ ∀ D, m.Has D → ¬ Clash D → False)))
/-- Between two rounds. -/
def WithAt (m : Ver.M) (C : St) (w : World) (k : Nat) (tv : Value) (c : Int) (wr : World) : Prop :=
  Below w.heap.size w wr ∧
    ((c = 0 ∧ ∃ I g' S, m.Tells I ∧ tv = .pointer (some ⟨g', 0, none⟩) ∧ TrAt wr g' S ∧ Ver.chsC I C = Ver.chsC S (C.drop k) ∧ Ver.chsS I C = Ver.chsS S (C.drop k)) ∨ (c ≠ 0 ∧ ((∃ I, m.Tells I ∧ Ver.chsC I C ≠ 0) ∨ ∀ D, m.Has D → ¬ Clash D → False)))
theorem WithAt.load {m : Ver.M} (g : m.Good) (C : St) {w w1 : World} {z : Value} {c : Int} (hb : Below w.heap.size w w1)
    (h : (c = 0 ∧ ∃ g S t, z = ptr g ∧ TrAt w1 g S ∧ TrS S t ∧ t.sum Nd.sumS = rootS m.top ∧ t.inS m.st) ∨ (c ≠ 0 ∧ z = nilp ∧ ∀ S t, TrS S t → t.inS m.st → t.sum Nd.sumS = rootS m.top → False)) : WithAt m C w 0 z c w1 := by
  refine ⟨hb, ?_⟩
  rcases h with ⟨rfl, g', S, t, rfl, h1, h2, h3, h4⟩ | ⟨h0, _, hbad⟩
  · exact Or.inl ⟨rfl, S, g', S, Ver.M.Tells.load g h2 h4 h3, rfl, h1, rfl, rfl⟩
  · exact Or.inr ⟨h0, Or.inr (Ver.M.Tells.lost g hbad)⟩
theorem WithAt.end_ {m : Ver.M} {C : St} {w wr : World} {k : Nat} {tv : Value} {c : Int} (h : WithAt m C w k tv c wr) (hk : k = C.length ∨ c ≠ 0) : WithPost m C w (.returned (.tuple #[tv, .int .i64 c])) wr := by
  refine ⟨tv, c, rfl, h.1, ?_⟩
  rcases h.2 with ⟨rfl, I, g', S, h1, h2, h3, h4, h5⟩ | hb
  · rcases hk with rfl | hk
    · rw [List.drop_length] at h4 h5
      exact Or.inl ⟨rfl, I, g', h1, h4, h2, by rw [h5]; exact h3⟩
    · exact absurd rfl hk
  · exact Or.inr hb
set_option maxRecDepth 100000 in
set_option maxHeartbeats 4000000 in
theorem vmade_any {w : World} {g gs ms mr : Nat} {lo : Int} {m : Ver.M} (h : VHeld w g gs ms mr lo m) (z : Value) (C : St) (hT : Tab w) (hz : ItLo w z C) (hl : C.length ≤ 100) :
    Calls Tryz.prog 24 #[ptr g, z] w (WithPost m C w) := by
  have HG := Lib.hid h.good
  have HT := Lib.hid hT
  have HZ := Lib.hid hz
  have HL := Lib.hid hl
  have hrt := Ver.newest_find h.good
  have hsh := findR_short h.good m.newest
  obtain ⟨R, hR⟩ : ∃ R, m.findR m.newest = R := ⟨_, rfl⟩
  have HLK : Hid (∀ w', Below w.heap.size w w' → w'.cell? ⟨g, 0, none⟩ = some (.pointer (some ⟨gs, 0, none⟩)) ∧ w'.cell? ⟨g, 1, none⟩ = some (.map (some mr)) ∧ w'.cell? ⟨g, 2, none⟩ = some (.int .i64 m.newest) ∧ (Instr.lookup 56 (.map (some mr)) (.int .i64 m.newest) false).run Tryz.prog w' = .ok (.agg #[.string ⟨R.toArray⟩]) w') := Lib.hid (fun w' hb => by
    have h' := h.below hb
    refine ⟨h'.c0, h'.c1, h'.c2, ?_⟩
    rw [← hR]
    exact h'.roots.look1 _ (Ver.newest_wf h.good))
  have HLD : Hid (∀ w', Below w.heap.size w w' → Calls Tryz.prog 33 #[.pointer (some ⟨gs, 0, none⟩), .string ⟨R.toArray⟩] w' fun e w'' => ∃ z c, e = .returned (.tuple #[z, .int .i64 c]) ∧ Below w.heap.size w w'' ∧ WithAt m C w 0 z c w'') := Lib.hid (fun w' hb => by
    rw [hR] at hsh hrt
    refine (tload_any R w' (h.below hb).store h.good.own hsh).mono ?_
    rintro e w'' ⟨z, c, rfl, hb2, hq⟩
    rw [hrt] at hq
    exact ⟨z, c, rfl, bchain hb hb2, WithAt.load h.good C (bchain hb hb2) hq⟩)
  obtain ⟨nw, hnw⟩ : ∃ nw, m.newest = nw := ⟨_, rfl⟩
  rw [hnw] at HLK
  obtain ⟨A, cap, rfl⟩ := hz.form
  unfold ptr
  have BD : Below w.heap.size w w.drew := (Below.refl _ _).drew
  have cD := HLK.out _ BD
  have BR : Below w.heap.size w w := Below.refl _ _
  have hfd : ∀ w, (Instr.field 63 (.agg #[.string ⟨R.toArray⟩]) 0).run Tryz.prog w = .ok (.string ⟨R.toArray⟩) w := fun w => by kernel_rfl
  clear h hT hz hl hrt hsh hR hnw
  go_enter Tryz.func24, Tryz.ntmps24
  go_upto_region 1 with fail
  go_cut [6, 7] from 8 to 26 (fun tv cv wx => ∃ (z : Value) (c : Int), tv = z ∧ cv = .int .i64 c ∧ WithAt m C w 0 z c wx)
  case first =>
    go_region_held3 (fun w' => w'.cell? ⟨g, 0, none⟩ = some (.pointer (some ⟨gs, 0, none⟩)) ∧ w'.cell? ⟨g, 1, none⟩ = some (.map (some mr)) ∧ w'.cell? ⟨g, 2, none⟩ = some (.int .i64 nw) ∧ (Instr.lookup 56 (.map (some mr)) (.int .i64 nw) false).run Tryz.prog w' = .ok (.agg #[.string ⟨R.toArray⟩]) w')
      ((first | (refine HLK.out _ ?_; with_reducible assumption) | (with_reducible assumption)))
      (first | (go_at_call 33; refine (HLD.out _ ?_).mono ?_; (with_reducible assumption); rintro e wa ⟨za, ca, rfl, hbb, ha⟩))
    all_goals
      go_wp2_with fail
      go_meet
      exact ⟨za, ca, rfl, rfl, ha⟩
  case rest =>
    obtain ⟨z1, c1, rfl, rfl, hat⟩ := hcut
    have HAT := Lib.hid hat
    clear hat BD cD BR HLK HLD
    go_wp2
    go_loopw [6, 7, 8] (fun tv cv iv wr => ∃ (k : Nat) (c : Int), cv = .int .i64 c ∧ iv = .int .i64 k ∧ k ≤ C.length ∧ WithAt m C w k tv c wr) (fun _ _ i _ => C.length - (intOf i).toNat)
    case atStart => exact ⟨0, c1, rfl, rfl, Nat.zero_le _, HAT.out⟩
    case round =>
      rename_i tv cv iv
      obtain ⟨k, c, rfl, rfl, hk, hat⟩ := hrel
      have HA := Lib.hid hat
      have h0 : (0 : Int) ≤ (k : Int) := by omega
      have hnb : (k : Int) ≤ 100 := by have := HL.out; omega
      by_cases hlt : k < C.length
      · have h1 : (k : Int) < (C.length : Int) := by omega
        have h1d : decide ((k : Int) < (C.length : Int)) = true := decide_eq_true h1
        by_cases hc0 : c = 0
        · subst hc0
          obtain ⟨hb, ⟨_, I, gk, S, hte, rfl, htr, hcc, hcs⟩ | ⟨hbad, _⟩⟩ := hat
          · have HTE := Lib.hid hte
            have HCC := Lib.hid hcc
            have HCS := Lib.hid hcs
            have HZW := Lib.hid (HZ.out.below hb)
            obtain ⟨b, o, rfl, n0, n1⟩ := ItLo.at HZW.out k hlt
            obtain ⟨X, hX⟩ : ∃ X, C[k] = X := ⟨_, rfl⟩
            have HST := Lib.hid (chs_step (S := S) hlt)
            rw [hX] at HST n0 n1
            have HCH := Lib.hid (vchanged_any X wr htr (HT.out.below hb))
            have HB := Lib.hid hb
            unfold ChPost at HCH
            have HLT := Lib.hid hlt
            clear htr hcc hcs hb hX hte hlt
            go_wp2_with fail
            refine HCH.out.mono ?_
            rintro e w2 ⟨z, rfl, hz1, hb2⟩
            have HB2 := Lib.hid (bchain HB.out hb2)
            obtain ⟨c, hc⟩ : ∃ c, Ver.chC S X = c := ⟨_, rfl⟩
            rw [hc] at HST hz1 ⊢
            have HZ1 := Lib.hid hz1
            clear hz1 hb2 hc
            go_wp2
            refine ⟨⟨k + 1, c, rfl, by go_num, HLT.out, HB2.out, ?_⟩, by have := HLT.out; simp [intOf]; omega⟩
            by_cases hc0 : c = 0
            · obtain ⟨g', hz', ht2⟩ := HZ1.out hc0
              obtain ⟨e1, e2⟩ := HST.out.1 hc0
              exact Or.inl ⟨by omega, I, g', Ver.chS S X, HTE.out, hz', ht2, by rw [HCC.out, e1], by rw [HCS.out, e2]⟩
            · exact Or.inr ⟨by omega, Or.inl ⟨I, HTE.out, by rw [HCC.out, HST.out.2 hc0]; exact hc0⟩⟩
          · exact absurd rfl hbad
        · have hcb : (c == 0) = false := beq_eq_false_iff_ne.2 hc0
          have HC0 := Lib.hid hc0
          clear hat hc0
          go_wp2
          go_ret2
          exact HA.out.end_ (Or.inr HC0.out)
      · obtain rfl : k = C.length := by omega
        have h1 : ¬ ((C.length : Int) < (C.length : Int)) := by omega
        have h1d : decide ((C.length : Int) < (C.length : Int)) = false := decide_eq_false h1
        clear hat
        go_wp2
        go_ret2
        exact HA.out.end_ (Or.inl rfl)
end Go.Proofs.YtkfadijcjjdlcaaGreatDoor
namespace Go.Proofs.YtkfadijcjjdlcaaGreatDoor
open Go.RowKit
open Sto (T St)

def CmPost (w : World) (g gs ms mr : Nat) (lo : Int) (m : Ver.M) (x : Int) (C : St) (e : Ending) (w' : World) : Prop :=
  ∃ m' c r, m.Com x C m' c r ∧ e = .returned (.tuple #[.string ⟨r.toArray⟩, .int .i64 c]) ∧ VHeld w' g gs ms mr lo m' ∧ Out (held g gs ms mr) w w' ∧ Tab w'
theorem CmPost.bad {w : World} {g gs ms mr : Nat} {lo : Int} {m : Ver.M} {x : Int} {C : St} {c : Int} (h : VHeld w g gs ms mr lo m) (hT : Tab w) (h0 : c ≠ 0)
    (why : (∀ I, m.comCI x C I ≠ 0) ∨ (∃ I, m.Tells I ∧ m.comCI x C I ≠ 0) ∨ ∀ D, m.Has D → ¬ Clash D → False) {w' : World} (hb : Below w.heap.size w w') : CmPost w g gs ms mr lo m x C (.returned (.tuple #[.string ⟨#[]⟩, .int .i64 c])) w' :=
  ⟨m, c, [], .bad c h0 why, rfl, h.below hb, Out.of hb, hT.below hb⟩
set_option maxRecDepth 100000 in
set_option maxHeartbeats 4000000 in
theorem vcommit_any {w : World} {g gs ms mr : Nat} {lo : Int} {m : Ver.M} (h : VHeld w g gs ms mr lo m) (x : Int) (z : Value) (C : St) (hT : Tab w) (hz : ItLo w z C) (hl : C.length ≤ 100) :
    Calls Tryz.prog 11 #[ptr g, .int .i64 x, z] w (CmPost w g gs ms mr lo m x C) := by
  have c2 := h.c2
  have c3 := h.c3
  have HV := Lib.hid h
  have HT := Lib.hid hT
  have HOV := Lib.hid (fun hx : 0 ≤ x => h.over hx)
  have HUN := Lib.hid (fun hx : 0 ≤ x => h.under hx)
  have HWI := Lib.hid (vmade_any h z C hT hz hl)
  unfold WithPost at HWI
  obtain ⟨A, cap, rfl⟩ := hz.form
  unfold ptr at HWI ⊢
  clear h hT hz hl
  by_cases hr1 : x < 0
  · have HC : Hid (∀ I, m.comCI x C I ≠ 0) := Lib.hid (fun I => by unfold Ver.M.comCI; rw [if_pos (Or.inl hr1)]; decide)
    clear c2 c3 HWI
    go_enter Tryz.func11, Tryz.ntmps11
    go_wp2
    go_ret2
    exact CmPost.bad HV.out HT.out (by decide) (Or.inl HC.out) (Below.refl _ _)
  by_cases hr2 : (1048576 : Int) < x
  · have HC : Hid (∀ I, m.comCI x C I ≠ 0) := Lib.hid (fun I => by unfold Ver.M.comCI Ver.maxH; rw [if_pos (Or.inr hr2)]; decide)
    clear c2 c3 HWI
    go_enter Tryz.func11, Tryz.ntmps11
    go_wp2
    go_ret2
    exact CmPost.bad HV.out HT.out (by decide) (Or.inl HC.out) (Below.refl _ _)
  have hov := HOV.out (by omega)
  have hun := HUN.out (by omega)
  obtain ⟨nw, hnw⟩ : ∃ nw, m.newest = nw := ⟨_, rfl⟩
  rw [hnw] at c2 hov
  by_cases hr3 : x ≤ nw
  · have HC : Hid (∀ I, m.comCI x C I ≠ 0) := Lib.hid (fun I => by unfold Ver.M.comCI Ver.maxH; rw [if_neg (by omega), if_pos (Or.inl (hov.2 hr3))]; decide)
    clear hov hun hnw HWI
    go_enter Tryz.func11, Tryz.ntmps11
    go_wp2
    go_ret2
    exact CmPost.bad HV.out HT.out (by decide) (Or.inl HC.out) (Below.refl _ _)
  by_cases hr4 : x < lo
  · have HC : Hid (∀ I, m.comCI x C I ≠ 0) := Lib.hid (fun I => by unfold Ver.M.comCI Ver.maxH; rw [if_neg (by omega), if_pos (Or.inr (hun.2 hr4))]; decide)
    clear hov hun hnw HWI
    go_enter Tryz.func11, Tryz.ntmps11
    go_wp2
    go_ret2
    exact CmPost.bad HV.out HT.out (by decide) (Or.inl HC.out) (Below.refl _ _)
  have HC : Hid (∀ I, m.comCI x C I = Ver.chsC I C) := Lib.hid (fun I => by unfold Ver.M.comCI Ver.maxH; rw [if_neg (by omega), if_neg (fun hh => hh.elim (fun q => hr3 (hov.1 q)) (fun q => hr4 (hun.1 q)))])
  have HX : Hid ((Lit.int .i64 x).wf = true) := Lib.hid (wf_height ⟨by omega, by unfold Ver.maxH; omega⟩)
  clear hov hun hnw
  go_enter Tryz.func11, Tryz.ntmps11
  go_wp2_with fail
  refine HWI.out.mono ?_
  rintro e w1 ⟨z1, c, rfl, hb1, hcase⟩
  have HB1 := Lib.hid hb1
  rcases hcase with ⟨rfl, I, gt, hte, hc0, rfl, htr⟩ | ⟨h0, hbad⟩
  · have HCC : Hid (m.comCI x C I = 0) := Lib.hid (by rw [HC.out]; exact hc0)
    have HTE := Lib.hid hte
    have HV1 := Lib.hid (HV.out.below hb1)
    have HSV := Lib.hid (tsave_any w1 htr (HV.out.below hb1).store (HT.out.below hb1))
    have d0 := (HV.out.below hb1).c0
    obtain ⟨t0, ht0⟩ := Ver.chsS_good C hte.1 hc0
    have hrl := root_short ht0
    obtain ⟨R, hR⟩ : ∃ R, rootS (Ver.chsS I C) = R := ⟨_, rfl⟩
    have HRR := Lib.hid hR
    rw [hR] at HSV hrl
    have HRL := Lib.hid hrl
    clear c2 c3 HWI hb1 hte hc0 htr ht0 hR hrl
    go_wp2_with fail
    refine HSV.out.mono ?_
    rintro e w2 ⟨rfl, hs2, ho2⟩
    have hgm : g ≠ ms := fun e => HV1.out.store.map.no_cells g _ _ _ e HV1.out.head
    have hgr : g ≠ mr := fun e => FnAt.no_cells HV1.out.roots g _ _ _ e HV1.out.head
    have HD2 := Lib.hid (ho2.heap HV1.out.head hgm)
    have HS2 := Lib.hid hs2
    have HO2 : Hid (Out (held g gs ms mr) w w2) := Lib.hid ((Out.of HB1.out).trans (ho2.mono fun k _ e => Or.inr (Or.inr (Or.inl e))))
    have HR2 : Hid (RootsAt w2 mr m) := Lib.hid (HV1.out.roots.out ho2 HV1.out.apart)
    have HCL : Hid (∀ w', Below w2.heap.size w2 w' → Calls Tryz.prog 26 #[.string ⟨R.toArray⟩] w' fun e w'' => e = .returned (.string ⟨R.toArray⟩) ∧ Below w2.heap.size w2 w'') := Lib.hid (fun w' hb => (dclone_any R w' (by have := HRL.out; omega)).mono fun e w'' q => ⟨q.1, hb.trans (q.2.mono hb.size)⟩)
    have HCE : Hid (∀ w', Below w2.heap.size w2 w' → w'.cell? ⟨g, 1, none⟩ = some (.map (some mr))) := Lib.hid (fun w' hb => by rw [hb.cell (lt_of_heap HD2.out), cell_of_row _ _ _ _ _ _ HD2.out]; rfl)
    have HPU : Hid (∀ w', Below w2.heap.size w2 w' → ∃ w4, (Instr.mapUpdate 56 (.map (some mr)) (.int .i64 x) (.agg #[.string ⟨R.toArray⟩])).run Tryz.prog w' = .ok () w4 ∧ RootsAt w4 mr (m.comI x C I) ∧ Out (fun i => i = mr) w2 w4 ∧ w4.cell? ⟨g, 1, none⟩ = some (.map (some mr))) := Lib.hid (fun w' hb => by
      obtain ⟨w4, r1, r2, r3⟩ := (HR2.out.out (F := fun _ => False) (Out.of hb) id).put HCC.out
      rw [HRR.out] at r1
      exact ⟨w4, r1, r2, (Out.of hb).trans r3, r3.cell (HCE.out w' hb) hgr⟩)
    have BD : Below w2.heap.size w2 w2.drew := (Below.refl _ _).drew
    have cD := HCE.out _ BD
    clear d0 hs2 ho2 HSV HCL
    have HCL : Hid (∀ w', Below w2.heap.size w2 w' → Calls Tryz.prog 26 #[.string ⟨R.toArray⟩] w' fun e w'' => e = .returned (.string ⟨R.toArray⟩) ∧ Below w2.heap.size w2 w'') := Lib.hid (fun w' hb => (dclone_any R w' (by have := HRL.out; omega)).mono fun e w'' q => ⟨q.1, hb.trans (q.2.mono hb.size)⟩)
    go_upto_region 9 with fail
    go_region_held3 (fun w' => w'.cell? ⟨g, 1, none⟩ = some (.map (some mr)))
      ((first | (refine HCE.out _ ?_; with_reducible assumption) | (with_reducible assumption)))
      (first | (go_at_call 26; refine (HCL.out _ ?_).mono ?_; (with_reducible assumption); rintro e wa ⟨rfl, ha⟩; obtain ⟨wa4, hra, hpa, hca, hcd⟩ := HPU.out _ ha))
    all_goals
      have hd4 := hca.heap HD2.out hgr
      have f2 := frozen_of_row wa4 g 2 _ _ hd4
      have e2 : wa4.cell? ⟨g, 2, none⟩ = some (.int .i64 m.newest) := by rw [cell_of_row _ _ _ _ _ _ hd4]; rfl
      have HD4 := Lib.hid hd4
      have HPA := Lib.hid hpa
      have HCA := Lib.hid hca
      clear hd4 hpa hca hra ha hcd
      go_wp2
      go_ret2
      have ho5 : Out (fun k => k = g) wa4 (wa4.setCell ⟨g, 2, none⟩ (.int .i64 x)) := Out.setCell (F := fun k => k = g) (Out.refl _ wa4) (p := ⟨g, 2, none⟩) rfl _
      have hoA : Out (held g gs ms mr) w (wa4.setCell ⟨g, 2, none⟩ (.int .i64 x)) := (HO2.out.trans (HCA.out.mono fun k _ e => Or.inr (Or.inr (Or.inr e)))).trans (ho5.mono fun k _ e => Or.inl e)
      refine ⟨m.comI x C I, 0, rootS (Ver.chsS I C), .good I HTE.out HCC.out, by rw [HRR.out]; rfl, ⟨?_, ?_, ?_, HV.out.low, ?_, HV.out.apart⟩, hoA, HT.out.outside hoA (HV.out.tab HT.out)⟩
      · have h1 := heap_setCell_same _ _ 2 _ _ (.int .i64 x) HD4.out
        rw [Ver.newest_comI]
        exact h1
      · have h1 : StoreAt wa4 gs ms (m.comI x C I).st := HS2.out.out HCA.out (fun e => FnAt.no_cells HR2.out gs _ _ _ e HS2.out.head) (fun e => HV.out.apart e.symm)
        exact h1.out ho5 (fun e => by have h2 := h1.head; rw [e, HD4.out] at h2; cases h2) (fun e => h1.map.no_cells g _ _ _ e.symm HD4.out)
      · exact HPA.out.out ho5 (fun e => hgr e.symm)
      · exact (Ver.M.Com.good I HTE.out HCC.out : m.Com x C _ _ _).good' HV.out.good
  · have HW : Hid ((∃ I, m.Tells I ∧ m.comCI x C I ≠ 0) ∨ ∀ D, m.Has D → ¬ Clash D → False) := Lib.hid (hbad.imp (fun ⟨I, h1, h2⟩ => ⟨I, h1, by rw [HC.out]; exact h2⟩) id)
    have hcn : (c != 0) = true := by rw [bne_iff_ne]; exact h0
    have H0 := Lib.hid h0
    clear c2 c3 HWI hb1 hbad h0
    go_wp2
    go_ret2
    exact CmPost.bad HV.out HT.out H0.out (Or.inr HW.out) HB1.out
end Go.Proofs.YtkfadijcjjdlcaaGreatDoor
namespace Go.Proofs.YtkfadijcjjdlcaaGreatDoor
open Sto (T St)
namespace Ver

/-- The height goes. -/
def goesB (m : M) (b x : Int) : Bool := decide (x < b ∧ m.last ≠ some x)
/-- The map of roots behind the heights of done. -/
def pruneF (m : M) (b : Int) (done : List Int) (x : Int) : Option T := if x ∈ done ∧ goesB m b x = true then none else (m.find x).map rootS
theorem pruneF_nil (m : M) (b x : Int) : pruneF m b [] x = (m.find x).map rootS := by simp [pruneF]
theorem pruneF_in (m : M) (b : Int) (done : List Int) (s : Int) (h : goesB m b s = false) (x : Int) : pruneF m b done x = pruneF m b (done ++ [s]) x := by
  unfold pruneF
  by_cases hx : x = s
  · subst hx; simp [h]
  · simp [hx]
theorem pruneF_out (m : M) (b : Int) (done : List Int) (s : Int) (h : goesB m b s = true) (x : Int) : updF (pruneF m b done) s none x = pruneF m b (done ++ [s]) x := by
  unfold updF pruneF
  by_cases hx : x = s
  · subst hx; simp [h]
  · simp [hx]
theorem pruneF_le {m : M} {b : Int} {done : List Int} {x : Int} (h : pruneF m b done x ≠ none) : m.find x ≠ none := fun e => by
  apply h
  unfold pruneF
  rw [e]
  split <;> rfl
theorem filter_sum (p : Int → Bool) : ∀ l : List Int, l.length = (l.filter p).length + (l.filter fun x => !p x).length
  | [] => rfl
  | x :: r => by
    have := filter_sum p r
    by_cases h : p x = true
    · simp [h]; omega
    · simp [h]; omega
theorem heights_nodup {m : M} (g : m.Good) : (m.vs.map (·.1)).Nodup := (List.pairwise_map.2 g.rise).imp fun {a b} hab e => by omega
theorem mem_heights {m : M} (g : m.Good) (x : Int) : x ∈ m.vs.map (·.1) ↔ m.find x ≠ none := by
  rw [List.mem_map]
  constructor
  · rintro ⟨⟨y, I⟩, hy, rfl⟩
    rw [(find_iff g).2 hy]
    simp
  · intro hx
    cases hf : m.find x with
    | none => exact absurd hf hx
    | some I => exact ⟨(x, I), (find_iff g).1 hf, rfl⟩
/-- All have come: the map, how many went, what is kept. -/
theorem sift_end {m : M} (g : m.Good) {b : Int} {done : List Int} (hn : done.Nodup) (hd : ∀ x ∈ done, m.find x ≠ none) (ha : ∀ x, pruneF m b done x ≠ none → x ∈ done) :
    (∀ x, pruneF m b done x = ((m.prune b).find x).map rootS) ∧ (done.filter (goesB m b)).length = m.vs.length - (m.prune b).vs.length ∧ Sto.keepL m.st ((done.filter fun x => !goesB m b x).map m.findR) = (m.prune b).st := by
  have hall : ∀ x, x ∈ done ↔ m.find x ≠ none := fun x => ⟨hd x, fun hx => by
    by_cases h : x ∈ done
    · exact h
    · refine ha x ?_
      unfold pruneF
      rw [if_neg (fun e => h e.1)]
      cases hf : m.find x with
      | none => exact absurd hf hx
      | some I => simp⟩
  have hp : ∀ x, (m.prune b).find x = if goesB m b x = true then none else m.find x := fun x => by
    rw [find_prune g]
    unfold goesB
    simp only [decide_eq_true_eq]
  have gp := g.prune b
  refine ⟨fun x => ?_, ?_, ?_⟩
  · rw [hp]
    unfold pruneF
    by_cases hg : goesB m b x = true
    · rw [if_pos hg]
      by_cases hx : x ∈ done
      · rw [if_pos ⟨hx, hg⟩]; rfl
      · rw [if_neg (fun e => hx e.1)]
        have : m.find x = none := by
          cases hf : m.find x with
          | none => rfl
          | some I => exact absurd ((hall x).2 (by rw [hf]; simp)) hx
        rw [this]
        try rfl
    · rw [if_neg hg, if_neg (fun e => hg e.2)]
  · have p1 : done.Perm (m.vs.map (·.1)) := (List.perm_ext_iff_of_nodup hn (heights_nodup g)).2 fun x => (hall x).trans (mem_heights g x).symm
    have p2 : (done.filter fun x => !goesB m b x).Perm ((m.prune b).vs.map (·.1)) := (List.perm_ext_iff_of_nodup (hn.filter _) (heights_nodup gp)).2 fun x => by
      rw [mem_heights gp, hp, List.mem_filter, hall]
      by_cases hg : goesB m b x = true <;> simp [hg]
    have e1 := p1.length_eq
    have e2 := p2.length_eq
    have e3 := filter_sum (goesB m b) done
    simp only [List.length_map] at e1 e2
    omega
  · show _ = Sto.keepL m.st ((m.prune b).vs.map fun x => rootS x.2)
    refine keepL_set g.sto fun r => ?_
    rw [List.mem_map, List.mem_map]
    constructor
    · rintro ⟨x, hx, rfl⟩
      obtain ⟨h1, h2⟩ := List.mem_filter.1 hx
      cases hf : m.find x with
      | none => exact absurd hf (hd x h1)
      | some I =>
        refine ⟨(x, I), (find_iff gp).1 ?_, ?_⟩
        · rw [hp, if_neg (by simpa using h2), hf]
        · unfold M.findR; rw [hf]
    · rintro ⟨⟨x, I⟩, hx, rfl⟩
      have h1 := (find_iff gp).2 hx
      rw [hp] at h1
      by_cases hg : goesB m b x = true
      · rw [if_pos hg] at h1; cases h1
      · rw [if_neg hg] at h1
        refine ⟨x, List.mem_filter.2 ⟨(hall x).2 (by rw [h1]; simp), by simp [hg]⟩, ?_⟩
        unfold M.findR; rw [h1]
end Ver
end Go.Proofs.YtkfadijcjjdlcaaGreatDoor
namespace Go.Proofs.YtkfadijcjjdlcaaGreatDoor
open Go.RowKit
open Sto (T St)

theorem goes_of {m : Ver.M} {b s la : Int} (h0 : 0 ≤ s) (hla : m.newest = la) : Ver.goesB m b s = true ↔ s < b ∧ s ≠ la := by
  unfold Ver.goesB
  rw [decide_eq_true_eq, ← hla]
  unfold Ver.M.newest
  cases m.last with
  | none => simp; omega
  | some y =>
    simp only [Option.getD_some, ne_eq, Option.some.injEq]
    exact ⟨fun h => ⟨h.1, fun e => h.2 e.symm⟩, fun h => ⟨h.1, fun e => h.2 e.symm⟩⟩
def heightsL (m : Ver.M) : List Int := m.vs.map (·.1)
def keptL (m : Ver.M) (b : Int) (done : List Int) : List T := (done.filter fun x => !Ver.goesB m b x).map m.findR
def goneN (m : Ver.M) (b : Int) (done : List Int) : Nat := (done.filter (Ver.goesB m b)).length
/-- Between two rounds. -/
structure PrAt (m : Ver.M) (b lo : Int) (done : List Int) (w wr : World) (g gs ms mr : Nat) (hz z : Value) : Prop where
  map : FnAt rootsMap wr mr (Ver.pruneF m b done)
  head : wr.heap[g]? = some (.cells #[.pointer (some ⟨gs, 0, none⟩), .map (some mr), .int .i64 m.newest, .int .i64 (max lo b)] 58 (0, 0))
  store : StoreAt wr gs ms m.st
  ints : IntsO wr w.heap.size hz (heightsL m)
  own : Own wr w.heap.size z (keptL m b done)
  frame : Out (held g gs ms mr) w wr
/-- A text is appended: only the row's own block changes. -/
theorem app_oneF {w : World} {B : Nat} {z : Value} {L : List T} (x : T) (h : Own w B z L) (hl : L.length ≤ 100000) (hB : B ≤ w.heap.size) :
    ∃ g c w', (Builtin.append_ #[28, 28] 28 #[z, .slice (some ⟨w.heap.size, 0, none⟩) 1 1]).run Tryz.prog (w.alloc (.cells #[.string ⟨x.toArray⟩] 9)) = .ok (.slice (some ⟨g, 0, none⟩) (L.length + 1) c) w' ∧
      Own w' B (.slice (some ⟨g, 0, none⟩) (L.length + 1) c) (L ++ [x]) ∧ Out (fun k => z.ownBlock = some k) w w' := by
  have hv : Strs (w.alloc (.cells #[.string ⟨x.toArray⟩] 9)) (.slice (some ⟨w.heap.size, 0, none⟩) 1 1) [x] := by
    refine ⟨some ⟨w.heap.size, 0, none⟩, 1, rfl, fun i hi => ?_⟩
    obtain rfl : i = 0 := by simpa using hi
    refine ⟨_, rfl, ?_⟩
    exact cell_of_row _ _ 0 _ _ _ (heap_alloc_new w _)
  have hs : (w.alloc (.cells #[.string ⟨x.toArray⟩] 9)).ownsRow B 9 1 z L.length (scells L) := World.ownsRow.alloc h _
  obtain ⟨v', w', h1, h2, h3, _⟩ := append_strs hv hs (by simp; omega) (by simp; omega)
  have ho : Own w' B v' (L ++ [x]) := by
    unfold Own
    rw [List.length_append, scells_append]
    exact h2
  obtain ⟨g, c, e, _, _⟩ := World.ownsRow.form h2 (by simp)
  subst e
  exact ⟨g, c, w', h1, ho, (Out.alloc (Out.refl _ w) _).trans (Out.grown h3 (fun k e => e.symm ▸ rfl))⟩
theorem ints_keep {F : Nat → Prop} {w w' : World} {B : Nat} {z : Value} {L : List Int} (h : IntsO w B z L) (ho : Out F w w') (hF : ∀ k, F k → B ≤ k → ∀ cur, w.heap[k]? ≠ some (.cells cur 3 (0, 0))) : IntsO w' B z L := by
  refine ⟨h.1, ?_⟩
  rcases h.2 with h0 | ⟨g, cap, cur, hv, hB, hh, hr⟩
  · exact Or.inl h0
  · exact Or.inr ⟨g, cap, cur, hv, hB, ho.heap hh (fun e => hF g e hB cur hh), hr⟩
theorem kept_in {m : Ver.M} {b s : Int} {done : List Int} (h : Ver.goesB m b s = false) : keptL m b (done ++ [s]) = keptL m b done ++ [m.findR s] := by
  unfold keptL
  simp [h]
theorem kept_out {m : Ver.M} {b s : Int} {done : List Int} (h : Ver.goesB m b s = true) : keptL m b (done ++ [s]) = keptL m b done := by
  unfold keptL
  simp [h]
theorem gone_in {m : Ver.M} {b s : Int} {done : List Int} (h : Ver.goesB m b s = false) : goneN m b (done ++ [s]) = goneN m b done := by
  unfold goneN
  simp [h]
theorem gone_out {m : Ver.M} {b s : Int} {done : List Int} (h : Ver.goesB m b s = true) : goneN m b (done ++ [s]) = goneN m b done + 1 := by
  unfold goneN
  simp [h]
theorem goneN_le (m : Ver.M) (b : Int) (done : List Int) : goneN m b done ≤ done.length := List.length_filter_le _ _
theorem keptL_len (m : Ver.M) (b : Int) (done : List Int) : (keptL m b done).length ≤ done.length := by
  unfold keptL
  rw [List.length_map]
  exact List.length_filter_le _ _
/-- A height is kept: its root is appended. -/
theorem PrAt.kept {m : Ver.M} {b lo s : Int} {done : List Int} {w wr w5 : World} {g gs ms mr : Nat} {hz z z' : Value} (h : PrAt m b lo done w wr g gs ms mr hz z)
    (hold : ∀ k, held g gs ms mr k → k < w.heap.size) (hg : Ver.goesB m b s = false)
    (own5 : Own w5 w.heap.size z' (keptL m b done ++ [m.findR s])) (ho : Out (fun k => z.ownBlock = some k) wr w5) : PrAt m b lo (done ++ [s]) w w5 g gs ms mr hz z' := by
  have hb := own_blk h.own
  have hc := own_cells h.own
  have hn : ∀ k, held g gs ms mr k → ¬ (z.ownBlock = some k) := fun k hk e => by have := hold k hk; have := (hb k e).1; omega
  refine ⟨(FnAt.out h.map ho (hn mr (Or.inr (Or.inr (Or.inr rfl))))).congr (Ver.pruneF_in m b done s hg), ho.heap h.head (hn g (Or.inl rfl)), h.store.out ho (hn gs (Or.inr (Or.inl rfl))) (hn ms (Or.inr (Or.inr (Or.inl rfl)))), ints_keep h.ints ho (fun k e _ cur he => ?_), by rw [kept_in hg]; exact own5, ?_⟩
  · obtain ⟨cur2, q⟩ := hc k e
    rw [q] at he
    have := congrArg (fun o => o.map fun x => match x with | .cells _ t _ => t | _ => 0) he
    simp at this
  · exact ⟨ho.os.trans h.frame.os, ho.tape.trans h.frame.tape, ho.output.trans h.frame.output, Nat.le_trans h.frame.size ho.size, fun i hi hF => (ho.block i (Nat.lt_of_lt_of_le hi h.frame.size) (fun e => by have := (hb i e).1; omega)).trans (h.frame.block i hi hF)⟩
/-- A height goes. -/
theorem PrAt.drop {m : Ver.M} {b lo s : Int} {done : List Int} {w wr : World} {g gs ms mr : Nat} {hz z : Value} (h : PrAt m b lo done w wr g gs ms mr hz z)
    (hh : VHeld w g gs ms mr lo m) (hs : (Lit.int .i64 s).wf = true) (hg : Ver.goesB m b s = true) :
    ∃ w', (∀ ty, (Builtin.delete_ #[56, 3] ty #[.map (some mr), .int .i64 s]).run Tryz.prog wr = .ok (.tuple #[]) w') ∧ PrAt m b lo (done ++ [s]) w w' g gs ms mr hz z := by
  obtain ⟨w', r1, r2, r3, _⟩ := FnAt.drop h.map Tryz.underlying56 (s := s) hs
  have hnc := FnAt.no_cells h.map
  refine ⟨w', r1, ⟨r2.congr (Ver.pruneF_out m b done s hg), r3.heap h.head (fun e => hnc g _ _ _ e h.head), h.store.out r3 (fun e => hnc gs _ _ _ e h.store.head) (fun e => hh.apart e.symm), ints_keep h.ints r3 (fun k e _ cur => hnc k cur _ _ e), by rw [kept_out hg]; exact row_out h.own r3 (fun k cs t f e => hnc k cs t f e), h.frame.trans (r3.mono fun k _ e => Or.inr (Or.inr (Or.inr e)))⟩⟩
theorem heights_take {m : Ver.M} {k : Nat} (h : k < (heightsL m).length) : (heightsL m).take (k + 1) = (heightsL m).take k ++ [(heightsL m)[k]] := List.take_succ_eq_append_getElem h
theorem height_new {m : Ver.M} (g : m.Good) {k : Nat} (h : k < (heightsL m).length) : (heightsL m)[k] ∉ (heightsL m).take k := fun e => by
  obtain ⟨i, hi, he⟩ := List.mem_iff_getElem.1 e
  rw [List.getElem_take] at he
  have hi' : i < k := by simp at hi; omega
  have hp := List.pairwise_iff_getElem.1 (Ver.heights_nodup g) i k (by exact Nat.lt_trans hi' h) h hi'
  exact hp he
set_option maxRecDepth 100000 in
set_option maxHeartbeats 2000000 in
theorem vprune_any {w : World} {g gs ms mr : Nat} {lo : Int} {m : Ver.M} (h : VHeld w g gs ms mr lo m) (b : Int) (hT : Tab w) (hl : m.vs.length ≤ 100) (hs : m.st.length ≤ 40000) :
    Calls Tryz.prog 10 #[ptr g, .int .i64 b] w fun e w' => e = .returned (.int .i64 ((m.vs.length - (m.prune b).vs.length : Nat) : Int)) ∧ VHeld w' g gs ms mr (max lo b) (m.prune b) ∧ Out (held g gs ms mr) w w' := by
  have c3 := h.c3
  have HH := Lib.hid h
  have hfz := frozen_of_row w g 3 _ _ h.head
  have hA := heap_setCell_same _ _ 3 _ _ (.int .i64 (max lo b)) h.head
  obtain ⟨wA, hwA⟩ : ∃ wA, w.setCell ⟨g, 3, none⟩ (.int .i64 (max lo b)) = wA := ⟨_, rfl⟩
  have hoA : Out (fun k => k = g) w wA := by rw [← hwA]; exact Out.setCell (F := fun k => k = g) (Out.refl _ w) (p := ⟨g, 3, none⟩) rfl _
  rw [hwA] at hA
  have hgs : gs ≠ g := fun e => by have h1 := h.store.head; rw [e, h.head] at h1; cases h1
  have hms : ms ≠ g := fun e => h.store.map.no_cells g _ _ _ e.symm h.head
  have hmr : mr ≠ g := fun e => FnAt.no_cells h.roots g _ _ _ e.symm h.head
  have hvA : VHeld wA g gs ms mr (max lo b) { m with low := max m.low b } := ⟨hA, h.store.out hoA hgs hms, h.roots.out hoA hmr, by show max (max lo b) 0 = max m.low b; have := h.low; omega, ⟨h.good.rise, h.good.tree, h.good.fit, h.good.own, h.good.sto⟩, h.apart⟩
  have HHT := Lib.hid (vheights_any hvA hl)
  have HOA := Lib.hid hoA
  have HVA := Lib.hid hvA
  have HSL := Lib.hid hs
  have HVL := Lib.hid hl
  have HTT := Lib.hid hT
  unfold ptr at HHT
  unfold ptr
  clear h hT hA hoA hgs hms hmr hvA hs hl
  subst hwA
  go_enter Tryz.func10, Tryz.ntmps10
  go_wp2_with fail
  refine HHT.out.mono ?_
  rintro e w2 ⟨hz, rfl, hi2, hb2⟩
  have HK0 : Hid (PrAt m b lo [] w w2 g gs ms mr hz (.slice none 0 0)) := Lib.hid ⟨FnAt.congr (HVA.out.below hb2).roots (fun s => (Ver.pruneF_nil m b s).symm), (HVA.out.below hb2).head, (HVA.out.below hb2).store, ⟨by have := hi2.1; exact this, by
      rcases hi2.2 with q | ⟨g0, cap, cur, q1, q2, q3⟩
      · exact Or.inl q
      · exact Or.inr ⟨g0, cap, cur, q1, Nat.le_trans HOA.out.size q2, q3⟩⟩, Own.nil _ _, (HOA.out.mono fun k _ hk => Or.inl hk).trans (Out.of hb2)⟩
  obtain ⟨AH, capH, rfl⟩ := hi2.form
  have hln : (m.vs.map (·.1)).length = (heightsL m).length := rfl
  have hHL : (heightsL m).length = m.vs.length := List.length_map ..
  clear hi2 hb2 HHT hfz c3 HVA
  go_wp2
  go_loopw [5, 6, 21] (fun z s iv wr => ∃ k : Nat, k ≤ (heightsL m).length ∧ iv = .int .i64 k ∧ PrAt m b lo ((heightsL m).take k) w wr g gs ms mr (.slice AH (heightsL m).length capH) z ∧ s = .int .i64 (goneN m b ((heightsL m).take k) : Nat)) (fun _ _ i _ => (heightsL m).length - (intOf i).toNat)
  case atStart => exact ⟨0, Nat.zero_le _, rfl, HK0.out, rfl⟩
  case round =>
    obtain ⟨k, hk, rfl, hp, rfl⟩ := hrel
    have HP := Lib.hid hp
    have hHL : (heightsL m).length = m.vs.length := List.length_map ..
    have hnb : (heightsL m).length ≤ 100 := by have := HVL.out; omega
    have g0 : (0 : Int) ≤ (k : Int) := by omega
    have g2 : (k : Int) ≤ 100000 := by omega
    have hG : goneN m b ((heightsL m).take k) ≤ 100 := by have := goneN_le m b ((heightsL m).take k); have := List.length_take_le k (heightsL m); omega
    obtain ⟨G, hGe⟩ : ∃ G, goneN m b ((heightsL m).take k) = G := ⟨_, rfl⟩
    have HG := Lib.hid hGe
    rw [hGe] at hG
    rw [hGe]
    have hGb : (G : Int) ≤ 900000 := by omega
    have hG0 : (0 : Int) ≤ (G : Int) := by omega
    have HNB := Lib.hid hnb
    have hkd := hp.head
    clear HK0 hGe hHL
    by_cases hlt : k < (heightsL m).length
    · have g1 : (k : Int) < ((heightsL m).length : Int) := by omega
      obtain ⟨bb, oo, rfl, -, -, n0⟩ := hp.ints.at k hlt
      have HNW := Lib.hid (height_new HH.out.good hlt)
      have HTK := Lib.hid (heights_take hlt)
      have hmem : (heightsL m)[k] ∈ heightsL m := List.getElem_mem hlt
      obtain ⟨s, hse⟩ : ∃ s, (heightsL m)[k] = s := ⟨_, rfl⟩
      rw [hse] at HNW HTK n0 hmem
      obtain ⟨⟨y, I⟩, hy, hys⟩ := List.mem_map.1 hmem
      dsimp only at hys
      subst hys
      have hfit := HH.out.good.fit _ hy
      have hfind := (Ver.find_iff HH.out.good).2 hy
      have HWF := Lib.hid (wf_height hfit)
      obtain ⟨nw, hnw⟩ : ∃ nw, m.newest = nw := ⟨_, rfl⟩
      have HGO := Lib.hid (goes_of (b := b) hfit.1 hnw)
      rw [hnw] at hkd
      have d1 : wr.cell? ⟨g, 1, none⟩ = some (.map (some mr)) := by rw [cell_of_row _ _ _ _ _ _ hkd]; rfl
      have d2 : wr.cell? ⟨g, 2, none⟩ = some (.int .i64 nw) := by rw [cell_of_row _ _ _ _ _ _ hkd]; rfl
      have hlk : (Instr.lookup 56 (.map (some mr)) (.int .i64 y) false).run Tryz.prog wr = .ok (.agg #[.string ⟨(m.findR y).toArray⟩]) wr := by
        have h1 := FnAt.look hp.map Tryz.underlying56 (s := y) HWF.out false (zeroRoot wr)
        have h2 : Ver.pruneF m b ((heightsL m).take k) y = (m.find y).map rootS := by
          unfold Ver.pruneF
          rw [if_neg (fun e => HNW.out e.1)]
        rw [h2, findR_eq] at h1
        exact h1
      have HLT := Lib.hid hlt
      have HAP := Lib.hid (app_oneF (m.findR y) hp.own (by have := keptL_len m b ((heightsL m).take k); have := List.length_take_le k (heightsL m); omega) hp.frame.size)
      obtain ⟨R, hR⟩ : ∃ R, m.findR y = R := ⟨_, rfl⟩
      have HRR := Lib.hid hR
      have hfd : ∀ w, (Instr.field 63 (.agg #[.string ⟨R.toArray⟩]) 0).run Tryz.prog w = .ok (.string ⟨R.toArray⟩) w := fun w => by kernel_rfl
      rw [hR] at hlk HAP
      clear hp hkd hse hmem hy hfit hfind hnw hR hlt hnb hG
      by_cases hlb : y < b
      · by_cases hsl : y = nw
        · have HGF : Hid (Ver.goesB m b y = false) := Lib.hid (by
            rw [Bool.eq_false_iff]
            intro e
            exact (HGO.out.1 e).2 hsl)
          subst hsl
          have hsb : (y != y) = false := by simp
          obtain ⟨g5, c5, w5, r5, o5, b5⟩ := HAP.out
          have HR5 := Lib.hid r5
          have HP5 := Lib.hid (HP.out.kept HH.out.old HGF.out (by rw [HRR.out]; exact o5) b5)
          clear r5 o5 b5 HAP
          go_wp2_with (at_builtin; refine wpList_append_run rfl _ _ _ rfl u5 (.slice (some ⟨wr.heap.size, 0, none⟩) 1 1) _ (by rfl) (by rfl) HR5.out ?_)
          refine ⟨⟨k + 1, HLT.out, by go_num, by rw [HTK.out]; exact HP5.out, ?_⟩, by have := HLT.out; simp [intOf]; omega⟩
          rw [HTK.out, gone_in HGF.out, HG.out]
        · have hsb : (y != nw) = true := by rw [bne_iff_ne]; exact hsl
          have HGT : Hid (Ver.goesB m b y = true) := Lib.hid (HGO.out.2 ⟨hlb, hsl⟩)
          have hdr : ∃ w', (∀ ty, (Builtin.delete_ #[56, 3] ty #[.map (some mr), .int .i64 y]).run Tryz.prog wr = .ok (.tuple #[]) w') ∧ PrAt m b lo ((heightsL m).take k ++ [y]) w w' g gs ms mr (.slice (some ⟨bb, oo, none⟩) (heightsL m).length capH) u5 := HP.out.drop HH.out HWF.out HGT.out
          obtain ⟨w5, hrd, hp5⟩ := hdr
          have HRD := Lib.hid hrd
          have HP5 := Lib.hid hp5
          clear hrd hp5 HAP
          go_wp2_with (at_delete; refine wpList_delete_run rfl _ _ _ _ rfl (.map (some mr)) (.int .i64 y) (by rfl) (by rfl) HRD.out ?_)
          refine ⟨⟨k + 1, HLT.out, by go_num, by rw [HTK.out]; exact HP5.out, ?_⟩, by have := HLT.out; simp [intOf]; omega⟩
          rw [HTK.out, gone_out HGT.out, HG.out]
          go_num
      · have HGF : Hid (Ver.goesB m b y = false) := Lib.hid (by
          rw [Bool.eq_false_iff]
          intro e
          exact hlb (HGO.out.1 e).1)
        obtain ⟨g5, c5, w5, r5, o5, b5⟩ := HAP.out
        have HR5 := Lib.hid r5
        have HP5 := Lib.hid (HP.out.kept HH.out.old HGF.out (by rw [HRR.out]; exact o5) b5)
        clear r5 o5 b5 HAP
        go_wp2_with (at_builtin; refine wpList_append_run rfl _ _ _ rfl u5 (.slice (some ⟨wr.heap.size, 0, none⟩) 1 1) _ (by rfl) (by rfl) HR5.out ?_)
        refine ⟨⟨k + 1, HLT.out, by go_num, by rw [HTK.out]; exact HP5.out, ?_⟩, by have := HLT.out; simp [intOf]; omega⟩
        rw [HTK.out, gone_in HGF.out, HG.out]
    · obtain rfl : k = (heightsL m).length := by omega
      have g1 : ¬ (((heightsL m).length : Int) < ((heightsL m).length : Int)) := by omega
      rw [List.take_length] at hp HG HP
      have d0 : wr.cell? ⟨g, 0, none⟩ = some (.pointer (some ⟨gs, 0, none⟩)) := by rw [cell_of_row _ _ _ _ _ _ hkd]; rfl
      have HE := Lib.hid (Ver.sift_end HH.out.good (b := b) (Ver.heights_nodup HH.out.good) (fun x hx => (Ver.mem_heights HH.out.good x).1 hx) (fun x hx => (Ver.mem_heights HH.out.good x).2 (Ver.pruneF_le hx)))
      have HKP := Lib.hid (stkeep_any gs ms m.st _ u5 wr hp.store hp.own.strs (Nat.le_trans HSL.out (by decide)) (by have := keptL_len m b (heightsL m); omega) (fun x hx => by
        obtain ⟨y, _, rfl⟩ := List.mem_map.1 hx
        have := findR_short HH.out.good y
        omega))
      have hkl : Sto.keepL m.st (keptL m b (heightsL m)) = (m.prune b).st := HE.out.2.2
      unfold StKeepPost at HKP
      rw [hkl] at HKP
      clear hp hkd hkl hnb hG hlt hk
      go_wp2_with fail
      refine HKP.out.mono ?_
      rintro e w4 ⟨rfl, hs4, ho4⟩
      go_wp2
      go_ret
      have hgm : g ≠ ms := fun e => HH.out.store.map.no_cells g _ _ _ e HH.out.head
      refine ⟨by rw [← HE.out.2.1]; unfold goneN at HG; rw [← HG.out]; rfl, ⟨?_, hs4, FnAt.out (HP.out.map.congr HE.out.1) ho4 HH.out.apart, ?_, HH.out.good.prune b, HH.out.apart⟩, HP.out.frame.trans (ho4.mono fun k _ e => Or.inr (Or.inr (Or.inl e)))⟩
      · have := ho4.heap HP.out.head hgm
        have e : (m.prune b).newest = m.newest := by unfold Ver.M.newest; rw [Ver.last_prune]
        rw [e]
        exact this
      · show max (max lo b) 0 = max m.low b
        have := HH.out.low
        omega
end Go.Proofs.YtkfadijcjjdlcaaGreatDoor
