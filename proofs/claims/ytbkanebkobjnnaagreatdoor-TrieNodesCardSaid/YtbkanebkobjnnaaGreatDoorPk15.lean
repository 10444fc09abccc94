/- TriRefSpots, TriWithT, TriDelT, TriRefOf, TriOfT, TriCover, TriWorks, ArgTActs, TriMade, TriMade2, BookItems -/
import Derived.Test.YtbkanebkobjnnaaGreatDoorPk14
import Derived.Test.YtbkanebkobjnnaaGreatDoorPk03
import Derived.Test.YtbkanebkobjnnaaGreatDoorPk13
import Derived.Test.YtbkanebkobjnnaaGreatDoorPk10
import Derived.Deep.RegionHeld3
import Derived.Test.YtbkanebkobjnnaaGreatDoorPk01
import Derived.Deep.Slices
import Derived.DataReads
import Derived.OpenShut
import Derived.SizedLaws
import Derived.Lib.LaidU8
import Derived.BigQuiet
namespace Go.Proofs.YtbkanebkobjnnaaGreatDoor
open Go.RowKit
open Sto (T St)
open Tri (Tr Ok hb)
open Go.Proofs.YtbkanebkobjnnaaGreatDoor.Nd (N)

theorem paths_take (S : St) (k : Nat) (h : k < S.length) : Tri.paths (S.take (k + 1)) = Tri.paths (S.take k) ++ [(Nib.ofL S[k].1, S[k].2)] := by
  rw [List.take_succ_eq_append_getElem h, Tri.paths, List.map_append]; rfl
def RSpotsPost (t : Tr) (w : World) (e : Ending) (w' : World) : Prop := ∃ s, e = .returned s ∧ OwnSp w' w.heap.size s (t.spots Nd.sumS []) ∧ Below w.heap.size w w'
set_option maxRecDepth 100000 in
set_option maxHeartbeats 2000000 in
theorem rspots_any {S : St} {t : Tr} (v : Value) (w : World) (hv : ItAt w v S) (hS : TrS S t) :
    Calls Tryz.prog 9 #[v] w (RSpotsPost t w) := by
  unfold RSpotsPost
  have HV := Lib.hid hv
  have HL := Lib.hid hS.few
  have HF : Hid (∀ k (h : k < S.length), S[k].1.length ≤ 1000) := Lib.hid (fun k h => by have := (hS.fair _ (List.getElem_mem h)).2.1; omega)
  have HGR : Hid (∀ u wr, ItAt wr u (Tri.paths S) → Calls Tryz.prog 34 #[u, .string ⟨#[]⟩] wr fun e w' => ∃ s, e = .returned s ∧ OwnSp w' wr.heap.size s (t.spots Nd.sumS []) ∧ Below wr.heap.size wr w') := Lib.hid (fun u wr hu =>
    grown_any t [] u wr hS.ok (by rw [hS.tree.2.2]; exact hu) (by rw [hS.tree.2.2]; have := hS.few; simp [Tri.paths]; omega) (fun x hx => by have := hS.within x hx; simp; omega) (by simp))
  have HB0 := Lib.hid (Below.refl w.heap.size w)
  obtain ⟨A, cap, rfl, -, -⟩ := hv.form
  clear hv hS
  go_enter Tryz.func9, Tryz.ntmps9
  go_wp2
  go_loopw [3, 4] (fun av iv wr => ∃ (k : Nat) (u : Value), u = av ∧ k ≤ S.length ∧ iv = .int .i64 k ∧ OwnI wr w.heap.size u (Tri.paths (S.take k)) ∧ Below w.heap.size w wr) (fun _ i _ => S.length - (intOf i).toNat)
  case atStart => exact ⟨0, _, rfl, Nat.zero_le _, rfl, OwnI.nil _ _, HB0.out⟩
  case round =>
    obtain ⟨k, u, rfl, hk, rfl, hu, hb0⟩ := hrel
    have HB := Lib.hid hb0
    have HU := Lib.hid hu
    by_cases hlt : k < S.length
    · have h1 : (k : Int) < (S.length : Int) := by omega
      have h0 : (0 : Int) ≤ (k : Int) := by omega
      have hnb : (k : Int) ≤ 100000 := by have := HL.out; omega
      have HVW := Lib.hid (RowsAt.below HV.out hb0)
      obtain ⟨b, o, rfl, -, -⟩ := ItAt.at HVW.out k hlt
      have HTK := Lib.hid (paths_take S k hlt)
      have hxl := HF.out k hlt
      have hTl : (Tri.paths (S.take k)).length ≤ 100000 := by simp [Tri.paths]; omega
      have HC : Hid (∀ w', Below wr.heap.size wr w' → w'.cell? ⟨b, o + k * 2, none⟩ = some (.string ⟨S[k].1.toArray⟩) ∧ w'.cell? ⟨b, o + k * 2 + 1, none⟩ = some (.string ⟨S[k].2.toArray⟩)) := Lib.hid (fun w' hbl => by
        obtain ⟨b2, o2, e, m0, m1⟩ := ItAt.at (RowsAt.below HVW.out hbl) k hlt
        cases e
        exact ⟨m0, m1⟩)
      obtain ⟨x, hx⟩ : ∃ x, S[k].1 = x := ⟨_, rfl⟩
      obtain ⟨y, hy⟩ : ∃ y, S[k].2 = y := ⟨_, rfl⟩
      rw [hx, hy] at HTK HC
      rw [hx] at hxl
      have HOF : Hid (∀ w', Below wr.heap.size wr w' → Calls Tryz.prog 33 #[.string ⟨x.toArray⟩] w' fun e w'' => e = .returned (.string ⟨(Nib.ofL x).toArray⟩) ∧ Below wr.heap.size wr w'') := Lib.hid (fun w' hbl => (rof_any x w' (by omega)).mono fun e w'' ⟨q1, q2⟩ => ⟨q1, bchain hbl q2⟩)
      obtain ⟨p, hp⟩ : ∃ p, Nib.ofL x = p := ⟨_, rfl⟩
      rw [hp] at HTK HOF
      have HAPP : Hid (∀ w6, Below wr.heap.size wr w6 → ∃ g c w7, (Builtin.append_ #[22, 22] 22 #[u, .slice (some ⟨w6.heap.size, 0, none⟩) 1 1]).run Tryz.prog (w6.alloc (.cells #[.string ⟨p.toArray⟩, .string ⟨y.toArray⟩] 26)) = .ok (.slice (some ⟨g, 0, none⟩) ((Tri.paths (S.take k)).length + 1) c) w7 ∧ OwnI w7 w.heap.size (.slice (some ⟨g, 0, none⟩) ((Tri.paths (S.take k)).length + 1) c) (Tri.paths (S.take k) ++ [(p, y)]) ∧ Below w.heap.size w w7) := Lib.hid (fun w6 h6 => by
        obtain ⟨g, c, w7, q1, q2, q3⟩ := app_item p y (HU.out.below h6) hTl (bchain HB.out h6).size
        exact ⟨g, c, w7, q1, q2, (bchain HB.out h6).trans q3⟩)
      have BD : Below wr.heap.size wr wr.drew := (Below.refl _ _).drew
      obtain ⟨m0, m1⟩ := HC.out _ BD
      clear hu hb0 hx hy hp hxl hTl
      go_upto_region 5 with fail
      go_region_law (first | (refine step_call rfl 33 (.tmp 16) _ rfl (fun _ _ => rfl) _ (HOF.out _ BD) ?_; rintro e w6 ⟨rfl, hb6⟩; refine ⟨_, rfl, ?_⟩; obtain ⟨c6, d6⟩ := HC.out _ hb6; obtain ⟨g7, c7, w7, happ, ho7, hb7⟩ := HAPP.out _ hb6) | (refine step_append_run rfl (.tmp 11) (.tmp 24) _ rfl _ _ _ ?_ ?_ happ ?_; (first | rfl | (focus (simp [Act.eval]; done)) | fail); (first | rfl | (focus (simp [Act.eval]; done)) | fail)))
      all_goals
        have HO7 := Lib.hid ho7
        have HB7 := Lib.hid hb7
        clear ho7 hb7 happ
        go_wp2
        exact ⟨⟨k + 1, _, rfl, by omega, by go_num, by rw [HTK.out]; exact HO7.out, HB7.out⟩, by simp [intOf]; omega⟩
    · obtain rfl : k = S.length := by omega
      have h1 : ¬ ((S.length : Int) < (S.length : Int)) := by omega
      have HG := Lib.hid (HGR.out u wr (by have := OwnI.at_ hu; rwa [List.take_length] at this))
      clear hu hb0
      go_wp2_with fail
      refine HG.out.mono ?_
      rintro e w2 ⟨s, rfl, os, hb2⟩
      have HO2 := Lib.hid (own_lowP os HB.out.size)
      have HB2 : Hid (Below w.heap.size w w2) := Lib.hid (bchain HB.out hb2)
      clear os hb2
      go_wp2
      go_ret
      exact ⟨s, rfl, HO2.out, HB2.out⟩
set_option maxRecDepth 100000 in
set_option maxHeartbeats 1000000 in
theorem rroot_any {S : St} {t : Tr} (v : Value) (w : World) (hv : ItAt w v S) (hS : TrS S t) :
    Calls Tryz.prog 19 #[v] w fun e w' => e = .returned (.string ⟨(t.sum Nd.sumS).toArray⟩) ∧ Below w.heap.size w w' := by
  have HSP := Lib.hid (rspots_any v w hv hS)
  unfold RSpotsPost at HSP
  have hn := hS.spots []
  by_cases hnl : t.isNil
  · obtain ⟨e1, e2⟩ := Tri.nil_spots Nd.sumS [] hnl
    rw [e1] at HSP
    rw [e2]
    clear e1 e2 hnl hv hS hn
    go_enter Tryz.func19, Tryz.ntmps19
    go_wp2_with fail
    refine HSP.out.mono ?_
    rintro e w1 ⟨s, rfl, os, hb1⟩
    obtain ⟨A, c, e, -, -⟩ := (OwnSp.at_ os).form
    subst e
    have HB1 := Lib.hid hb1
    simp only [List.length_nil]
    clear os hb1
    go_wp2
    go_ret
    exact ⟨rfl, HB1.out⟩
  · obtain ⟨r, hr⟩ := Tri.spots_head Nd.sumS [] hnl
    have hsm := Tri.sum_node Nd.sumS hnl
    have h16 := Tri.node_kids Nd.sumS t
    rw [hr] at HSP
    rw [hsm]
    obtain ⟨nt, hnt⟩ : ∃ nt, t.node Nd.sumS = nt := ⟨_, rfl⟩
    rw [hnt] at HSP h16 ⊢
    have H16 := Lib.hid h16
    have HR : Hid (r.length ≤ 100000) := Lib.hid (by rw [hr] at hn; simp at hn; omega)
    obtain ⟨z, hz⟩ : ∃ z, Nd.sumS nt = z := ⟨_, rfl⟩
    rw [hz]
    have HZ := Lib.hid hz
    clear hnl hv hS hn hr hsm h16 hnt hz
    go_enter Tryz.func19, Tryz.ntmps19
    go_wp2_with fail
    refine HSP.out.mono ?_
    rintro e w1 ⟨s, rfl, os, hb1⟩
    obtain ⟨g1, c1, rfl, -, -⟩ := World.ownsRow.form os (by simp)
    have n7 : w1.cell? ⟨g1, 2, none⟩ = some (.string ⟨(Nd.sumS nt).toArray⟩) := by
      obtain ⟨b2, o2, e2, -, -, k2⟩ := SpAt.at (OwnSp.at_ os) 0 (by simp) H16.out
      cases e2
      simpa using k2
    rw [HZ.out] at n7
    obtain ⟨L, hL⟩ : ∃ L, (([], nt) :: r : List (T × N)).length = L := ⟨_, rfl⟩
    have hL1 : (0 : Int) < (L : Int) := by simp at hL; omega
    have hL2 : 0 < L := by omega
    have hL3 : ((L : Int) == 0) = false := by rw [beq_eq_false_iff_ne]; omega
    rw [hL]
    have HB1 := Lib.hid hb1
    clear os hb1 hL
    go_wp2
    go_ret
    exact ⟨rfl, HB1.out⟩
end Go.Proofs.YtbkanebkobjnnaaGreatDoor
namespace Go.Proofs.YtbkanebkobjnnaaGreatDoor
open Go.RowKit
open Sto (T St)
open Tri (Tr Ok upd ix hb lay splitT Trim rank)
open Go.Proofs.YtbkanebkobjnnaaGreatDoor.Nd (N)

/-- What with of a trie answers. -/
def TWithPost (S : St) (k v : T) (F : Fm) (w : World) (e : Ending) (w' : World) : Prop :=
  ∃ z, e = .returned (.tuple #[z, .int .i64 (Tri.putC S k v)]) ∧ (Tri.putC S k v = 0 → ∃ g', z = ptr g' ∧ w.heap.size ≤ g' ∧ OpenAt w' F g' (Tri.put S k v)) ∧ (Tri.putC S k v ≠ 0 → z = nilp) ∧ Below w.heap.size w w'
theorem TWithPost.bad {S : St} {k v : T} {F : Fm} {w w' : World} {c : Nat} (h : Tri.putC S k v = c) (hc : c ≠ 0) (hb : Below w.heap.size w w') : TWithPost S k v F w (.returned (.tuple #[.pointer none, .int .i64 c])) w' := by
  subst h
  exact ⟨_, rfl, fun e => absurd e hc, fun _ => rfl, hb⟩
theorem TWithPost.good {S : St} {k v : T} {F : Fm} {w w' : World} {g' n : Nat} {top : Value} {t : Tr} (h : Tri.putC S k v = 0) (hg : w.heap.size ≤ g') (hr : TRow w' g' top n) (hn : n = (Tri.put S k v).length) (hp : PAt w' F false t top) (hs : TrS (Tri.put S k v) t) (hb : Below w.heap.size w w') : TWithPost S k v F w (.returned (.tuple #[.pointer (some ⟨g', 0, none⟩), .int .i64 0])) w' := by
  subst hn
  exact ⟨_, by rw [h]; rfl, fun _ => ⟨g', rfl, hg, top, t, hr, hp, hs⟩, fun e => absurd h e, hb⟩
set_option maxRecDepth 100000 in
set_option maxHeartbeats 1000000 in
theorem twith_good {g : Nat} {S : St} (k v : T) (w : World) (F : Fm) (hF : F.fresh w) (h : OpenAt w F g S) (hc : Tri.putC S k v = 0) :
    Calls Tryz.prog 30 #[ptr g, .string ⟨k.toArray⟩, .string ⟨v.toArray⟩] w (TWithPost S k v F w) := by
  obtain ⟨top, t, h1, h2, h3⟩ := h
  have hc0 := hc
  unfold Tri.putC at hc
  split at hc
  · rename_i hkk
    split at hc
    · rename_i hv
      obtain ⟨v1, v2, v3⟩ := hv
      have hkk2 : 1 ≤ k.length ∧ k.length ≤ 8 := by simpa [Tri.keyed] using hkk
      have HK := Lib.hid (fun w => iskey_any k w)
      rw [hkk] at HK
      have HOF := Lib.hid (fun w => of_any k w (by omega))
      have HFI : Hid (∀ w', Below w.heap.size w w' → Calls Tryz.prog 53 #[top, .string ⟨(Nib.ofL k).toArray⟩] w' fun e w'' => e = .returned (.string ⟨((Sto.look S k).getD []).toArray⟩) ∧ Below w'.heap.size w' w'') := Lib.hid (fun w' hb => by
        have := find_any (Nib.ofL k) w' (h2.below hb) h3.trim.firm (Tri.ofL_fit k) (by rw [Nib.ofL_length]; omega)
        rw [h3.find] at this
        exact this)
      have HCL := Lib.hid (fun w => dclone_any v w (by omega))
      have HWI : Hid (∀ w', Below w.heap.size w w' → Calls Tryz.prog 54 #[top, .string ⟨(Nib.ofL k).toArray⟩, .string ⟨v.toArray⟩] w' fun e w'' => ∃ g9, e = .returned (.pointer (some ⟨g9, 0, none⟩)) ∧ PAt w'' F false (t.put (Nib.ofL k) v) (.pointer (some ⟨g9, 0, none⟩)) ∧ Below w'.heap.size w' w'') := Lib.hid (fun w' hb =>
        (with_any (Nib.ofL k) v w' F (hF.size hb.size) (h2.below hb) h3.trim (Tri.ofL_fit k) (by rw [Nib.ofL_length]; omega)).mono fun e w'' ⟨v9, e1, hp, hb9⟩ => by
          obtain ⟨g9, rfl⟩ := hp.ptr (Tri.put_nn _ _ _)
          exact ⟨g9, e1, hp, hb9⟩)
      have HTS := Lib.hid (h3.put hc0)
      have HCC := Lib.hid hc0
      have HPN := Lib.hid (Tri.put_len S k v)
      have HAL := Lib.hid (Tri.at_look h3.rise k)
      have HT : Hid (∀ w', Below w.heap.size w w' → w'.cell? ⟨g, 0, none⟩ = some top ∧ w'.cell? ⟨g, 1, none⟩ = some (.int .i64 S.length)) := Lib.hid (fun w' hb => ⟨(h1.below hb).top, (h1.below hb).num⟩)
      obtain ⟨P, hP⟩ : ∃ P, Nib.ofL k = P := ⟨_, rfl⟩
      rw [hP] at HOF HFI HWI HTS
      have hve : (v == []) = false := by rw [beq_eq_false_iff_ne]; intro e; subst e; simp at v1
      have hvl : ¬ ((v.length : Int) > 32) := by omega
      have hvl2 : decide ((32 : Int) < (v.length : Int)) = false := decide_eq_false (by omega)
      have hvl3 : decide (32 < v.length) = false := decide_eq_false (by omega)
      unfold ptr
      have BD : Below w.heap.size w w.drew := (Below.refl _ _).drew
      obtain ⟨c0, c1⟩ := HT.out _ BD
      have hfew := h3.few
      have hlen : ∀ (n : Nat), n = (Tri.put S k v).length → n ≤ 1024 := fun n hn => by rw [hn]; exact HTS.out.few
      cases hl : Sto.look S k with
      | some y =>
        have hye : (y == []) = false := by rw [beq_eq_false_iff_ne]; exact h3.look_ne hl
        have hpl : S.length = (Tri.put S k v).length := by
          rw [HPN.out, if_pos (by rw [HAL.out, hl]; rfl)]; omega
        have HPL := Lib.hid hpl
        have hgt : ¬ ((S.length : Int) > 1024) := by omega
        have hgt2 : ¬ ((1024 : Int) < (S.length : Int)) := by omega
        rw [hl, Option.getD_some] at HFI
        clear h1 h2 h3 hkk hP hkk2 v1 v2 v3 hc hc0 HPN HAL hl hfew hlen hpl
        go_enter Tryz.func30, Tryz.ntmps30
        go_wp2_with fail
        refine (HK.out _).mono ?_
        rintro e w1 ⟨rfl, rfl⟩
        go_upto_region 5 with fail
        go_region_held3 (fun w' => w'.cell? ⟨g, 1, none⟩ = some (.int .i64 S.length))
          ((first | (with_reducible assumption) | (refine (HT.out _ ?_).2; with_reducible assumption)))
          ((go_at_call 37; refine (HOF.out _).mono ?_; rintro e w6 ⟨rfl, hb6⟩; have hb6' := bchain BD hb6))
        all_goals
          obtain ⟨d0, d1⟩ := HT.out _ hb6'
          go_wp2_with fail
          refine (HFI.out _ hb6').mono ?_
          rintro e w7 ⟨rfl, hb7⟩
          have hb7' := bchain hb6' hb7
          have BD7 : Below w.heap.size w w7.drew := hb7'.drew
          go_upto_region 10 with fail
          obtain ⟨e0, e1⟩ := HT.out _ BD7
          clear c0 c1 d0 d1
          go_region_held3 (fun w' => w'.cell? ⟨g, 0, none⟩ = some top)
            ((first | (with_reducible assumption) | (refine (HT.out _ ?_).1; with_reducible assumption) | (refine (HT.out _ ?_).1; refine Below.alloc ?_ ?_ _; (with_reducible assumption); (with_reducible exact hs9))))
            (first | (go_at_call 43; refine (HCL.out _).mono ?_; rintro e w8 ⟨rfl, hb8⟩; have hb8' := bchain BD7 hb8) | (go_at_call 54; refine (HWI.out _ ?_).mono ?_; (with_reducible exact hb8'); rintro e w9 ⟨g9, rfl, hp9, hb9⟩; have hb9' := bchain hb8' hb9; have hs9 := hb9'.size))
          all_goals
            go_wp2
            go_ret2
            have hba := hb9'.alloc hs9 (.cells #[.pointer (some ⟨g9, 0, none⟩), .int .i64 S.length] 65)
            exact TWithPost.good HCC.out hs9 (heap_alloc_new w9 _) HPL.out (hp9.below ((Below.refl _ w9).alloc (Nat.le_refl _) _)) HTS.out hba
      | none =>
        have hpl : S.length + 1 = (Tri.put S k v).length := by
          rw [HPN.out, if_neg (by rw [HAL.out, hl]; simp)]
        have z8 : IntKind.i64.wrap ((S.length : Int) + 1) = (S.length : Int) + 1 := IntWalk.i64_in _ (by omega)
        have hl1 := hlen _ hpl
        have HPL := Lib.hid hpl
        have hgt : ¬ ((S.length : Int) + 1 > 1024) := by omega
        have hgt2 : ¬ ((1024 : Int) < (S.length : Int) + 1) := by omega
        rw [hl, Option.getD_none] at HFI
        clear hl1 h1 h2 h3 hkk hP hkk2 v1 v2 v3 hc hc0 HPN HAL hl hfew hlen hpl
        go_enter Tryz.func30, Tryz.ntmps30
        go_wp2_with fail
        refine (HK.out _).mono ?_
        rintro e w1 ⟨rfl, rfl⟩
        go_upto_region 5 with fail
        go_region_held3 (fun w' => w'.cell? ⟨g, 1, none⟩ = some (.int .i64 S.length))
          ((first | (with_reducible assumption) | (refine (HT.out _ ?_).2; with_reducible assumption)))
          ((go_at_call 37; refine (HOF.out _).mono ?_; rintro e w6 ⟨rfl, hb6⟩; have hb6' := bchain BD hb6))
        all_goals
          obtain ⟨d0, d1⟩ := HT.out _ hb6'
          go_wp2_with fail
          refine (HFI.out _ hb6').mono ?_
          rintro e w7 ⟨rfl, hb7⟩
          have hb7' := bchain hb6' hb7
          have BD7 : Below w.heap.size w w7.drew := hb7'.drew
          go_upto_region 10 with fail
          obtain ⟨e0, e1⟩ := HT.out _ BD7
          clear c0 c1 d0 d1
          go_region_held3 (fun w' => w'.cell? ⟨g, 0, none⟩ = some top)
            ((first | (with_reducible assumption) | (refine (HT.out _ ?_).1; with_reducible assumption) | (refine (HT.out _ ?_).1; refine Below.alloc ?_ ?_ _; (with_reducible assumption); (with_reducible exact hs9))))
            (first | (go_at_call 43; refine (HCL.out _).mono ?_; rintro e w8 ⟨rfl, hb8⟩; have hb8' := bchain BD7 hb8) | (go_at_call 54; refine (HWI.out _ ?_).mono ?_; (with_reducible exact hb8'); rintro e w9 ⟨g9, rfl, hp9, hb9⟩; have hb9' := bchain hb8' hb9; have hs9 := hb9'.size))
          all_goals
            go_wp2
            go_ret2
            have hba := hb9'.alloc hs9 (.cells #[.pointer (some ⟨g9, 0, none⟩), .int .i64 ((S.length + 1 : Nat) : Int)] 65)
            exact TWithPost.good HCC.out hs9 (heap_alloc_new w9 _) HPL.out (hp9.below ((Below.refl _ w9).alloc (Nat.le_refl _) _)) HTS.out hba
    · cases hc
  · cases hc
set_option maxRecDepth 100000 in
set_option maxHeartbeats 1000000 in
theorem twith_any {g : Nat} {S : St} (k v : T) (w : World) (F : Fm) (hF : F.fresh w) (h : OpenAt w F g S) :
    Calls Tryz.prog 30 #[ptr g, .string ⟨k.toArray⟩, .string ⟨v.toArray⟩] w (TWithPost S k v F w) := by
  have HK := Lib.hid (fun w => iskey_any k w)
  cases hk : Tri.keyed k with
  | false =>
    rw [hk] at HK
    have HC := Lib.hid (Tri.putC_no (S := S) (y := v) hk)
    unfold ptr
    clear h hk
    go_enter Tryz.func30, Tryz.ntmps30
    go_wp2_with fail
    refine (HK.out _).mono ?_
    rintro e w1 ⟨rfl, rfl⟩
    go_wp2
    go_ret2
    exact TWithPost.bad HC.out (by decide) (Below.refl _ _)
  | true =>
    rw [hk] at HK
    by_cases hok : 1 ≤ v.length ∧ v.length ≤ 32 ∧ (Tri.at_ S k = true ∨ S.length < 1024)
    · exact twith_good k v w F hF h (Tri.putC_ok hk hok)
    · have HC := Lib.hid (Tri.putC_bad (S := S) (y := v) hk hok)
      by_cases hv0 : v = []
      · subst hv0
        unfold ptr
        clear h hk hok
        go_enter Tryz.func30, Tryz.ntmps30
        go_wp2_with fail
        refine (HK.out _).mono ?_
        rintro e w1 ⟨rfl, rfl⟩
        go_wp2
        go_ret2
        exact TWithPost.bad HC.out (by decide) (Below.refl _ _)
      · have hve : (v == []) = false := by rw [beq_eq_false_iff_ne]; exact hv0
        have hv1 : 1 ≤ v.length := List.length_pos_iff.2 hv0
        by_cases hv2 : v.length ≤ 32
        · obtain ⟨top, t, h1, h2, h3⟩ := h
          have hno : ¬ (Tri.at_ S k = true ∨ S.length < 1024) := fun e => hok ⟨hv1, hv2, e⟩
          have hl : Sto.look S k = none := by
            have := Tri.at_look h3.rise k
            cases hl : Sto.look S k with
            | none => rfl
            | some y => exact absurd (Or.inl (by rw [this, hl]; rfl)) hno
          have hfew : S.length = 1024 := by
            have := h3.few
            have : ¬ S.length < 1024 := fun e => hno (Or.inr e)
            omega
          have hx8 : k.length ≤ 8 := by simp [Tri.keyed] at hk; omega
          have HOF := Lib.hid (fun w => of_any k w (by omega))
          have HFI : Hid (∀ w', Below w.heap.size w w' → Calls Tryz.prog 53 #[top, .string ⟨(Nib.ofL k).toArray⟩] w' fun e w'' => e = .returned (.string ⟨#[]⟩) ∧ Below w'.heap.size w' w'') := Lib.hid (fun w' hb => by
            have := find_any (Nib.ofL k) w' (h2.below hb) h3.trim.firm (Tri.ofL_fit k) (by rw [Nib.ofL_length]; omega)
            rw [h3.find, hl] at this
            exact this)
          have HT : Hid (∀ w', Below w.heap.size w w' → w'.cell? ⟨g, 0, none⟩ = some top ∧ w'.cell? ⟨g, 1, none⟩ = some (.int .i64 1024)) := Lib.hid (fun w' hb => ⟨(h1.below hb).top, by have := (h1.below hb).num; rw [hfew] at this; exact this⟩)
          obtain ⟨P, hP⟩ : ∃ P, Nib.ofL k = P := ⟨_, rfl⟩
          rw [hP] at HOF HFI
          have BD : Below w.heap.size w w.drew := (Below.refl _ _).drew
          obtain ⟨c0, c1⟩ := HT.out _ BD
          have hvl2 : decide ((32 : Int) < (v.length : Int)) = false := decide_eq_false (by omega)
          have hvl3 : decide (32 < v.length) = false := decide_eq_false (by omega)
          have hvl : ¬ ((v.length : Int) > 32) := by omega
          unfold ptr
          clear h1 h2 h3 hk hP hl hno hok hfew hv0 hv1 hv2 hx8
          go_enter Tryz.func30, Tryz.ntmps30
          go_wp2_with fail
          refine (HK.out _).mono ?_
          rintro e w1 ⟨rfl, rfl⟩
          go_upto_region 5 with fail
          go_region_held3 (fun w' => w'.cell? ⟨g, 1, none⟩ = some (.int .i64 1024))
            ((first | (with_reducible assumption) | (refine (HT.out _ ?_).2; with_reducible assumption)))
            ((go_at_call 37; refine (HOF.out _).mono ?_; rintro e w6 ⟨rfl, hb6⟩; have hb6' := bchain BD hb6))
          all_goals
            obtain ⟨d0, d1⟩ := HT.out _ hb6'
            go_wp2_with fail
            refine (HFI.out _ hb6').mono ?_
            rintro e w7 ⟨rfl, hb7⟩
            have hb7' := bchain hb6' hb7
            go_wp2
            go_ret2
            exact TWithPost.bad HC.out (by decide) hb7'
        · have hvl : (v.length : Int) > 32 := by omega
          have hvl2 : decide ((32 : Int) < (v.length : Int)) = true := decide_eq_true (by omega)
          have hvl3 : decide (32 < v.length) = true := decide_eq_true (by omega)
          unfold ptr
          clear h hk hok hv0 hv1 hv2
          go_enter Tryz.func30, Tryz.ntmps30
          go_wp2_with fail
          refine (HK.out _).mono ?_
          rintro e w1 ⟨rfl, rfl⟩
          go_wp2
          go_ret2
          exact TWithPost.bad HC.out (by decide) (Below.refl _ _)
def TPutPost (S : St) (k v : T) (w : World) (e : Ending) (w' : World) : Prop :=
  ∃ z, e = .returned (.tuple #[z, .int .i64 (Tri.putC S k v)]) ∧ (Tri.putC S k v = 0 → ∃ g', z = ptr g' ∧ TrAt w' g' (Tri.put S k v)) ∧ (Tri.putC S k v ≠ 0 → z = nilp) ∧ Below w.heap.size w w'
theorem TPutPost.bad {S : St} {k v : T} {w w' : World} {c : Nat} (h : Tri.putC S k v = c) (hc : c ≠ 0) (hb : Below w.heap.size w w') : TPutPost S k v w (.returned (.tuple #[.pointer none, .int .i64 c])) w' := by
  subst h
  exact ⟨_, rfl, fun e => absurd e hc, fun _ => rfl, hb⟩
theorem TPutPost.good {S : St} {k v : T} {w w' : World} {g' : Nat} (h : Tri.putC S k v = 0) (ht : TrAt w' g' (Tri.put S k v)) (hb : Below w.heap.size w w') : TPutPost S k v w (.returned (.tuple #[.pointer (some ⟨g', 0, none⟩), .int .i64 0])) w' :=
  ⟨_, by rw [h]; rfl, fun _ => ⟨g', rfl, ht⟩, fun e => absurd h e, hb⟩
end Go.Proofs.YtbkanebkobjnnaaGreatDoor
namespace Go.Proofs.YtbkanebkobjnnaaGreatDoor
open Go.RowKit
open Sto (T St)
open Tri (Tr Ok upd ix hb lay splitT Trim rank)
open Go.Proofs.YtbkanebkobjnnaaGreatDoor.Nd (N)

def TDelPost (S : St) (k : T) (w : World) (e : Ending) (w' : World) : Prop :=
  ∃ z, e = .returned (.tuple #[z, .int .i64 (Tri.getC S k).2]) ∧ ((Tri.getC S k).2 = 0 → ∃ g', z = ptr g' ∧ TrAt w' g' (Tri.del S k)) ∧ ((Tri.getC S k).2 ≠ 0 → z = nilp) ∧ Below w.heap.size w w'
theorem TDelPost.bad {S : St} {k : T} {w w' : World} (hc : (Tri.getC S k).2 ≠ 0) (hb : Below w.heap.size w w') : TDelPost S k w (.returned (.tuple #[.pointer none, .int .i64 (Tri.getC S k).2])) w' := ⟨_, rfl, fun e => absurd e hc, fun _ => rfl, hb⟩
theorem TDelPost.good {S : St} {k : T} {w w' : World} {g' : Nat} (h : (Tri.getC S k).2 = 0) (ht : TrAt w' g' (Tri.del S k)) (hb : Below w.heap.size w w') : TDelPost S k w (.returned (.tuple #[.pointer (some ⟨g', 0, none⟩), .int .i64 0])) w' :=
  ⟨_, by rw [h]; rfl, fun _ => ⟨g', rfl, ht⟩, fun e => absurd h e, hb⟩
set_option maxRecDepth 100000 in
theorem troot_any {g n : Nat} {top : Value} {t : Tr} (w : World) (hr : TRow w g top n) (hp : PAt w (Fm.from 0) true t top) (ho : Ok t) :
    Calls Tryz.prog 18 #[ptr g] w fun e w' => e = .returned (.string ⟨(t.sum Nd.sumS).toArray⟩) ∧ Below w.heap.size w w' := by
  have m0 := hr.top
  by_cases hn : t.isNil
  · rw [Tri.isNil_eq hn] at hp ⊢
    have e : top = .pointer none := hp
    subst e
    unfold ptr
    clear hr hp
    go_enter Tryz.func18, Tryz.ntmps18
    go_wp2
    go_ret
    exact ⟨rfl, Below.refl _ _⟩
  · obtain ⟨g2, s', K, rfl, hs, -, h2, -⟩ := hp.row hn
    obtain rfl := hs rfl
    have m1 := h2.sum
    have HCL := Lib.hid (fun w => dclone_any (t.sum Nd.sumS) w (by rw [ho.sum_len hn]; omega))
    obtain ⟨X, hX⟩ : ∃ X, t.sum Nd.sumS = X := ⟨_, rfl⟩
    rw [if_pos rfl, hX] at m1
    rw [hX] at HCL ⊢
    unfold ptr at *
    clear hr h2 hX hn ho
    go_enter Tryz.func18, Tryz.ntmps18
    go_wp2_with fail
    refine (HCL.out _).mono ?_
    rintro e w1 ⟨rfl, hb⟩
    go_wp2
    go_ret
    exact ⟨rfl, hb⟩
end Go.Proofs.YtbkanebkobjnnaaGreatDoor
namespace Go.Proofs.YtbkanebkobjnnaaGreatDoor
open Go.RowKit
open Go.Proofs.YtbkanebkobjnnaaGreatDoor.Sto (St)

def Tri.ofR : St → St → St × Nat
  | S, [] => (S, 0)
  | S, a :: r => if Tri.putC S a.1 a.2 = 0 then Tri.ofR (Tri.put S a.1 a.2) r else ([], Tri.putC S a.1 a.2)
theorem Tri.ofR_step {S L : St} {k : Nat} (hk : k < L.length) (h : Tri.putC S L[k].1 L[k].2 = 0) : Tri.ofR S (L.drop k) = Tri.ofR (Tri.put S L[k].1 L[k].2) (L.drop (k + 1)) := by
  rw [List.drop_eq_getElem_cons hk, Tri.ofR, if_pos h]
theorem Tri.ofR_bad {S L : St} {k : Nat} (hk : k < L.length) (h : Tri.putC S L[k].1 L[k].2 ≠ 0) : Tri.ofR S (L.drop k) = ([], Tri.putC S L[k].1 L[k].2) := by
  rw [List.drop_eq_getElem_cons hk, Tri.ofR, if_neg h]
theorem Tri.putC_len {S : St} {x y : List UInt8} (h : Tri.putC S x y = 0) (hl : S.length ≤ 1024) : (Tri.put S x y).length ≤ 1024 := by
  rw [Tri.put_len]
  unfold Tri.putC at h
  by_cases ha : Tri.at_ S x = true
  · rw [if_pos ha]; omega
  · rw [if_neg ha]
    by_cases hk : Tri.keyed x = true
    · rw [if_pos hk] at h
      by_cases h2 : 1 ≤ y.length ∧ y.length ≤ 32 ∧ (Tri.at_ S x = true ∨ S.length < 1024)
      · have := h2.2.2.resolve_left ha; omega
      · rw [if_neg h2] at h; cases h
    · rw [if_neg hk] at h; cases h
def RtOfPost (L : St) (w : World) (e : Ending) (w' : World) : Prop :=
  ∃ v', e = .returned (.tuple #[v', .int .i64 (Tri.ofR [] L).2]) ∧ ItAt w' v' (Tri.ofR [] L).1 ∧ Below w.heap.size w w'
theorem RtOfPost.of {L S : St} {c : Nat} {w w' : World} {v' : Value} (h : Tri.ofR [] L = (S, c)) (hv : ItAt w' v' S) (hb : Below w.heap.size w w') : RtOfPost L w (.returned (.tuple #[v', .int .i64 c])) w' :=
  ⟨v', by rw [h], by rw [h]; exact hv, hb⟩
set_option maxRecDepth 8000 in
set_option maxHeartbeats 2000000 in
theorem rtOf_in (L : St) (v : Value) (w : World) (hv : ItIn w v L) (hl : L.length ≤ 10000) (hs : ∀ p ∈ L, p.1.length ≤ 1000000 ∧ p.2.length ≤ 1000000) :
    Calls Tryz.prog 7 #[v] w (RtOfPost L w) := by
  have HV := Lib.hid hv
  have HS := Lib.hid hs
  have HL := Lib.hid hl
  have HB0 := Lib.hid (Below.refl w.heap.size w)
  obtain ⟨A, cap, rfl, -, -⟩ := hv.form
  clear hv hs
  go_enter Tryz.func7, Tryz.ntmps7
  go_wp2
  go_loopw [4, 5] (fun av iv wr => ∃ (k : Nat) (v' : Value) (S : St), v' = av ∧ k ≤ L.length ∧ iv = .int .i64 k ∧ ItAt wr v' S ∧ S.length ≤ 1024 ∧ Tri.ofR [] L = Tri.ofR S (L.drop k) ∧ Below w.heap.size w wr) (fun _ i _ => L.length - (intOf i).toNat)
  case atStart => exact ⟨0, _, [], rfl, Nat.zero_le _, rfl, RowsAt.nil .., by simp, rfl, HB0.out⟩
  case round =>
    obtain ⟨k, v', S, rfl, hk, rfl, hvS, hSl, hof, hb⟩ := hrel
    have HB := Lib.hid hb
    have HOF := Lib.hid hof
    have HSL := Lib.hid hSl
    have HVS := Lib.hid hvS
    by_cases hlt : k < L.length
    · have h1 : (k : Int) < (L.length : Int) := by omega
      have h0 : (0 : Int) ≤ (k : Int) := by omega
      have hnb : (k : Int) ≤ 100000 := by omega
      have HVW := Lib.hid (RowsIn.below HV.out hb)
      obtain ⟨b, o, rfl, n0, n1⟩ := ItIn.at HVW.out k hlt
      have hsz := HS.out L[k] (List.getElem_mem hlt)
      have HST := Lib.hid (Tri.ofR_step (S := S) hlt)
      have HSB := Lib.hid (Tri.ofR_bad (S := S) hlt)
      obtain ⟨x, hx⟩ : ∃ x, L[k].1 = x := ⟨_, rfl⟩
      obtain ⟨y, hy⟩ : ∃ y, L[k].2 = y := ⟨_, rfl⟩
      rw [hx, hy] at HST HSB hsz
      rw [hx] at n0
      rw [hy] at n1
      have HCL : Hid (∀ w', Below wr.heap.size wr w' → w'.cell? ⟨b, o + k * 2, none⟩ = some (.string ⟨x.toArray⟩) ∧ w'.cell? ⟨b, o + k * 2 + 1, none⟩ = some (.string ⟨y.toArray⟩)) := Lib.hid (fun w' hb' => by
        obtain ⟨b2, o2, e, m0, m1⟩ := ItIn.at (RowsIn.below HVW.out hb') k hlt
        cases e
        rw [hx] at m0; rw [hy] at m1
        exact ⟨m0, m1⟩)
      have HPU : Hid (∀ w', Below wr.heap.size wr w' → Calls Tryz.prog 32 #[v', .string ⟨x.toArray⟩, .string ⟨y.toArray⟩] w' fun e w'' => ∃ vn, e = .returned (.tuple #[vn, .int .i64 (Tri.putC S x y)]) ∧ ItAt w'' vn (Tri.putL S x y) ∧ Below wr.heap.size wr w'') := Lib.hid (fun w' hb' => (rtPut_any S v' x y w' (HVS.out.below hb') (by have := HSL.out; omega) hsz.1 hsz.2).mono fun e w'' ⟨vn, q1, q2, q3⟩ => ⟨vn, q1, q2, hb'.trans (q3.mono hb'.size)⟩)
      obtain ⟨c, hc⟩ : ∃ c, Tri.putC S x y = c := ⟨_, rfl⟩
      have HC := Lib.hid hc
      rw [hc] at HPU HST HSB
      have BD : Below wr.heap.size wr wr.drew := (Below.refl _ wr).drew
      have cD := HCL.out _ BD
      obtain ⟨m0, m1⟩ := cD
      have HPL : Hid (c = 0 → (Tri.put S x y).length ≤ 1024) := Lib.hid (fun h => Tri.putC_len (hc.trans h) HSL.out)
      have HLL : Hid (c = 0 → Tri.putL S x y = Tri.put S x y) := Lib.hid (fun h => by rw [Tri.putL, if_pos (hc.trans h)])
      clear hvS hof hb hSl hx hy hsz hc n0 n1
      go_upto_region 5 with fail
      go_region_held3 (fun w' => w'.cell? ⟨b, o + k * 2, none⟩ = some (.string ⟨x.toArray⟩) ∧ w'.cell? ⟨b, o + k * 2 + 1, none⟩ = some (.string ⟨y.toArray⟩))
        ((first | (refine HCL.out _ ?_; with_reducible assumption) | (with_reducible assumption)))
        ((go_at_call 32; refine (HPU.out _ ?_).mono ?_; (with_reducible assumption); rintro e wa ⟨vn, rfl, hva, ha⟩))
      all_goals
        by_cases hc0 : c = 0
        · subst hc0
          go_wp2
          refine ⟨⟨k + 1, vn, Tri.put S x y, rfl, by omega, by go_num, ?_, HPL.out rfl, ?_, ?_⟩, by simp [intOf]; omega⟩
          · rw [← HLL.out rfl]; exact hva
          · rw [HOF.out]; exact HST.out rfl
          · exact HB.out.trans (ha.mono HB.out.size)
        · have hc1 : ((c : Int) == 0) = false := by simp; omega
          go_wp2
          go_ret2
          exact RtOfPost.of (HOF.out.trans (HSB.out hc0)) (RowsAt.nil ..) (HB.out.trans (ha.mono HB.out.size))
    · obtain rfl : k = L.length := by omega
      have h1 : ¬ ((L.length : Int) < (L.length : Int)) := by omega
      have HEND : Hid (Tri.ofR [] L = (S, 0)) := Lib.hid (by rw [HOF.out, List.drop_length]; rfl)
      clear hvS hof hb hSl
      go_wp2
      go_ret2
      exact RtOfPost.of HEND.out HVS.out HB.out
end Go.Proofs.YtbkanebkobjnnaaGreatDoor
namespace Go.Proofs.YtbkanebkobjnnaaGreatDoor
open Go.RowKit
open Sto (T St)
open Tri (Tr Ok upd ix hb lay splitT Trim rank)
open Go.Proofs.YtbkanebkobjnnaaGreatDoor.Nd (N)

def TOfPost (L : St) (w : World) (e : Ending) (w' : World) : Prop :=
  ∃ z, e = .returned (.tuple #[z, .int .i64 (Tri.ofR [] L).2]) ∧ ((Tri.ofR [] L).2 = 0 → ∃ g', z = ptr g' ∧ TrAt w' g' (Tri.ofR [] L).1) ∧ ((Tri.ofR [] L).2 ≠ 0 → z = nilp) ∧ Below w.heap.size w w'
theorem TOfPost.bad {L S : St} {c : Nat} {w w' : World} (h : Tri.ofR [] L = (S, c)) (hc : c ≠ 0) (hb : Below w.heap.size w w') : TOfPost L w (.returned (.tuple #[.pointer none, .int .i64 c])) w' := ⟨nilp, by rw [h]; rfl, by rw [h]; exact fun e => absurd e hc, fun _ => rfl, hb⟩
theorem TOfPost.good {L S : St} {g' : Nat} {w w' : World} (h : Tri.ofR [] L = (S, 0)) (hT : TrAt w' g' S) (hb : Below w.heap.size w w') : TOfPost L w (.returned (.tuple #[.pointer (some ⟨g', 0, none⟩), .int .i64 0])) w' := ⟨_, by rw [h]; rfl, by rw [h]; exact fun _ => ⟨g', rfl, hT⟩, by rw [h]; exact fun e => absurd rfl e, hb⟩
set_option maxRecDepth 100000 in
set_option maxHeartbeats 2000000 in
theorem tof_any (L : St) (v : Value) (w : World) (hv : ItAt w v L) (hl : L.length ≤ 10000) (hT : Tab w) :
    Calls Tryz.prog 6 #[v] w (TOfPost L w) := by
  have HV := Lib.hid hv
  have HT := Lib.hid hT
  have HL := Lib.hid hl
  have HNW := Lib.hid (tnew_any w)
  unfold ptr at HNW
  obtain ⟨A, cap, rfl, -, -⟩ := hv.form
  clear hv hT
  go_enter Tryz.func6, Tryz.ntmps6
  go_wp2_with fail
  refine HNW.out.mono ?_
  rintro e w1 ⟨g0, rfl, ht0, -, hb1⟩
  have HB1 := Lib.hid hb1
  have H0 := Lib.hid (ht0.open w.heap.size)
  clear ht0 hb1
  go_wp2
  go_loopw [4, 12] (fun av iv wr => ∃ (k : Nat) (gk : Nat) (S : St), av = .pointer (some ⟨gk, 0, none⟩) ∧ k ≤ L.length ∧ iv = .int .i64 k ∧ OpenAt wr (Fm.from w.heap.size) gk S ∧ Tri.ofR [] L = Tri.ofR S (L.drop k) ∧ Below w.heap.size w wr) (fun _ i _ => L.length - (intOf i).toNat)
  case atStart => exact ⟨0, g0, [], rfl, Nat.zero_le _, rfl, H0.out, rfl, HB1.out⟩
  case round =>
    obtain ⟨k, gk, S, rfl, hk, rfl, hop, hof, hb⟩ := hrel
    have HB := Lib.hid hb
    have HOF := Lib.hid hof
    by_cases hlt : k < L.length
    · have h1 : (k : Int) < (L.length : Int) := by omega
      have h0 : (0 : Int) ≤ (k : Int) := by omega
      have hnb : (k : Int) ≤ 100000 := by omega
      have HVW := Lib.hid (HV.out.below hb)
      obtain ⟨b, o, rfl, n0, n1⟩ := ItAt.at HVW.out k hlt
      have HST := Lib.hid (Tri.ofR_step (S := S) hlt)
      have HSB := Lib.hid (Tri.ofR_bad (S := S) hlt)
      obtain ⟨x, hx⟩ : ∃ x, L[k].1 = x := ⟨_, rfl⟩
      obtain ⟨y, hy⟩ : ∃ y, L[k].2 = y := ⟨_, rfl⟩
      rw [hx, hy] at HST HSB
      rw [hx] at n0
      rw [hy] at n1
      have hba : Below wr.heap.size wr (wr.alloc (.cells #[.string ⟨x.toArray⟩, .string ⟨y.toArray⟩] 26)) := (Below.refl _ wr).alloc (Nat.le_refl _) _
      have HWI := Lib.hid (twith_any x y (wr.alloc (.cells #[.string ⟨x.toArray⟩, .string ⟨y.toArray⟩] 26)) (Fm.from w.heap.size) (fun g hg _ => Nat.le_trans hb.size (Nat.le_trans hba.size hg)) (hop.below hba))
      have HBA : Hid (∀ w', Below (wr.alloc (.cells #[.string ⟨x.toArray⟩, .string ⟨y.toArray⟩] 26)).heap.size (wr.alloc (.cells #[.string ⟨x.toArray⟩, .string ⟨y.toArray⟩] 26)) w' → Below w.heap.size w w') := Lib.hid (fun w' h => HB.out.trans ((bchain hba h).mono HB.out.size))
      unfold TWithPost ptr at HWI
      obtain ⟨c, hc⟩ : ∃ c, Tri.putC S x y = c := ⟨_, rfl⟩
      rw [hc] at HWI HST HSB
      clear hop hof hb hx hy hba hc
      go_wp2_with fail
      refine HWI.out.mono ?_
      rintro e w2 ⟨z, rfl, hz1, hz0, hb2⟩
      have HB2 := Lib.hid (HBA.out _ hb2)
      by_cases hc0 : c = 0
      · obtain ⟨g', rfl, -, hop2⟩ := hz1 hc0
        subst hc0
        replace HST := Lib.hid (HST.out rfl)
        have HOP := Lib.hid hop2
        clear hz1 hz0 hb2 hop2
        go_wp2
        exact ⟨⟨k + 1, g', Tri.put S x y, rfl, by omega, by go_num, HOP.out, by rw [HOF.out]; exact HST.out, HB2.out⟩, by simp [intOf]; omega⟩
      · have hc1 : ((c : Int) == 0) = false := by rw [beq_eq_false_iff_ne]; omega
        have e1 : z = .pointer none := hz0 hc0
        subst e1
        have HC := Lib.hid hc0
        clear hz1 hz0 hb2 hc0
        go_wp2
        go_ret2
        exact TOfPost.bad (HOF.out.trans (HSB.out HC.out)) HC.out HB2.out
    · obtain rfl : k = L.length := by omega
      have h1 : ¬ ((L.length : Int) < (L.length : Int)) := by omega
      have HEND : Hid (Tri.ofR [] L = (S, 0)) := Lib.hid (by rw [HOF.out, List.drop_length]; rfl)
      obtain ⟨top, t, hr, hp, hs⟩ := hop
      have HSE := Lib.hid (seal_to t top wr w.heap.size HT.out.pos hb.size (HT.out.mid hb HT.out.pos) hs.ok hp)
      have HR := Lib.hid hr
      have HS := Lib.hid hs
      have m0 := hr.top
      clear hof hb hr hp hs
      go_wp2_with fail
      refine HSE.out.mono ?_
      rintro e w2 ⟨rfl, hp2, hk2, hb2⟩
      have HTR : Hid (TrAt w2 gk S) := Lib.hid ⟨top, t, hk2.2.2 _ _ _ _ (by decide) HR.out, hp2.sealed (fun _ _ e => by cases e) true, HS.out⟩
      have HB2 := Lib.hid (HB.out.trans hb2)
      clear hp2 hk2 hb2
      go_wp2
      go_ret2
      exact TOfPost.good HEND.out HTR.out HB2.out
end Go.Proofs.YtbkanebkobjnnaaGreatDoor
namespace Go.Proofs.YtbkanebkobjnnaaGreatDoor
open Go.RowKit
open Sto (T)
open Tri (Tr Ok upd ix hb lay splitT Trim rank)
open Go.Proofs.YtbkanebkobjnnaaGreatDoor.Nd (N)

set_option maxRecDepth 100000 in
theorem nodes_wants (w : World) : Wants w 36 #[] (fun _ => true) where
  call := fun _ _ => rfl
  step := fun w' p _ _ _ => by
    show Calls Tryz.prog 36 #[.string ⟨p.toArray⟩] w' _
    go_enter Tryz.func36, Tryz.ntmps36
    go_wp2
    go_ret
    exact ⟨rfl, Below.refl _ _⟩
set_option maxRecDepth 100000 in
theorem nodes_any {g : Nat} {t : Tr} {top n : Value} (w : World) (hg : w.heap[g]? = some (.cells #[top, n] 65 (0, 0))) (hs : Sealed w t top) :
    Calls Tryz.prog 10 #[ptr g] w (TextsPost w (wantedT (fun _ => true) t)) := by
  have HT := Lib.hid (texts_any w hg hs (nodes_wants w) down_all)
  unfold TextsPost ptr at HT
  unfold TextsPost ptr
  clear hg hs
  go_enter Tryz.func10, Tryz.ntmps10
  go_wp2_with fail
  refine HT.out.mono ?_
  rintro e w1 ⟨z, rfl, ho, hb⟩
  go_wp2
  go_ret
  exact ⟨z, rfl, ho, hb⟩
set_option maxRecDepth 100000 in
theorem trail_wants {c : Nat} {path : T} (w : World) (hc : w.heap[c]? = some (.cells #[.string ⟨path.toArray⟩] 9 (0, 0))) : Wants w 38 #[.pointer (some ⟨c, 0, none⟩)] (fun p => Tri.begins p path) where
  call := fun _ _ => rfl
  step := fun w' p hb _ _ => by
    show Calls Tryz.prog 38 #[.string ⟨p.toArray⟩, .pointer (some ⟨c, 0, none⟩)] w' _
    have c0 := cell_of_one ((hb.block c (lt_of_heap hc)).trans hc)
    have HP := Lib.hid (fun w => prefix_any path p w)
    unfold Tri.begins
    go_enter Tryz.func38, Tryz.ntmps38
    go_wp2_with fail
    refine (HP.out _).mono ?_
    rintro e w1 ⟨rfl, rfl⟩
    go_wp2
    go_ret
    exact ⟨rfl, Below.refl _ _⟩
set_option maxRecDepth 100000 in
set_option maxHeartbeats 1000000 in
theorem trail_any {g : Nat} {t : Tr} {top n : Value} (key : T) (w : World) (hl : key.length ≤ 1000) (hg : w.heap[g]? = some (.cells #[top, n] 65 (0, 0))) (hs : Sealed w t top) :
    Calls Tryz.prog 13 #[ptr g, .string ⟨key.toArray⟩] w (TextsPost w (wantedT (fun p => Tri.begins p (Nib.ofL key)) t)) := by
  have hmf : ∀ (fn : Fn) (first cap : Array Value) (w : World), (Instr.makeFunc fn first cap).run Tryz.prog w = .ok (.func fn first cap) w := fun _ _ _ _ => rfl
  have HOF := Lib.hid (fun w => of_any key w (by omega))
  have HT : Hid (∀ w1 path, Below w.heap.size w w1 → Calls Tryz.prog 35 #[ptr g, .func (.func 38) #[] #[.pointer (some ⟨w1.heap.size, 0, none⟩)]] (w1.alloc (.cells #[.string ⟨path.toArray⟩] 9)) (TextsPost (w1.alloc (.cells #[.string ⟨path.toArray⟩] 9)) (wantedT (fun p => Tri.begins p path) t))) := Lib.hid (fun w1 path hb => by
    have hb2 := hb.alloc hb.size (.cells #[.string ⟨path.toArray⟩] 9)
    exact texts_any _ ((hb2.block g (lt_of_heap hg)).trans hg) (hs.below hb2) (trail_wants _ (heap_alloc_new w1 _)) (down_begins path))
  unfold TextsPost ptr at HT
  unfold TextsPost ptr
  obtain ⟨P, hP⟩ : ∃ P, Nib.ofL key = P := ⟨_, rfl⟩
  rw [hP] at HOF ⊢
  clear hg hs hP
  go_enter Tryz.func13, Tryz.ntmps13
  go_wp2_with fail
  refine (HOF.out _).mono ?_
  rintro e w1 ⟨rfl, hb1⟩
  have HB1 := Lib.hid hb1
  clear hb1
  go_wp2_with fail
  refine (HT.out w1 P HB1.out).mono ?_
  rintro e w2 ⟨z, rfl, ho, hb⟩
  have HB2 : Hid (Below w.heap.size w w2) := Lib.hid (bchain (HB1.out.alloc HB1.out.size _) hb)
  have HO : Hid (Own w2 w.heap.size z (wantedT (fun p => Tri.begins p P) t)) := Lib.hid (own_lowS ho (by have := HB1.out.size; simp; omega))
  clear ho hb
  go_wp2
  go_ret
  exact ⟨z, rfl, HO.out, HB2.out⟩
set_option maxRecDepth 100000 in
set_option maxHeartbeats 1000000 in
theorem cover_wants {cf ce cl : Nat} {f e : T} (w : World) (hf : w.heap[cf]? = some (.cells #[.string ⟨(Nib.ofL f).toArray⟩] 9 (0, 0))) (he : w.heap[ce]? = some (.cells #[.string ⟨e.toArray⟩] 9 (0, 0))) (hl : w.heap[cl]? = some (.cells #[.string ⟨(Nib.ofL e).toArray⟩] 9 (0, 0))) :
    Wants w 40 #[.pointer (some ⟨cf, 0, none⟩), .pointer (some ⟨ce, 0, none⟩), .pointer (some ⟨cl, 0, none⟩)] (fun p => Tri.inL p f e) where
  call := fun _ _ => rfl
  step := fun w' p hb _ _ => by
    show Calls Tryz.prog 40 #[.string ⟨p.toArray⟩, .pointer (some ⟨cf, 0, none⟩), .pointer (some ⟨ce, 0, none⟩), .pointer (some ⟨cl, 0, none⟩)] w' _
    have c0 := cell_of_one ((hb.block cf (lt_of_heap hf)).trans hf)
    have c1 := cell_of_one ((hb.block ce (lt_of_heap he)).trans he)
    have c2 := cell_of_one ((hb.block cl (lt_of_heap hl)).trans hl)
    have H1 := Lib.hid (fun w => side_any p (Nib.ofL f) w)
    have H2 := Lib.hid (fun w => side_any p (Nib.ofL e) w)
    rw [in_sides]
    obtain ⟨a, ha⟩ : ∃ a, Nib.sideL p (Nib.ofL f) = a := ⟨_, rfl⟩
    obtain ⟨b, hb2⟩ : ∃ b, Nib.sideL p (Nib.ofL e) = b := ⟨_, rfl⟩
    rw [ha] at H1 ⊢
    rw [hb2] at H2 ⊢
    obtain ⟨x, hx⟩ : ∃ x, (a != -1) = x := ⟨_, rfl⟩
    obtain ⟨y, hy⟩ : ∃ y, (e == []) = y := ⟨_, rfl⟩
    obtain ⟨z, hz⟩ : ∃ z, (b != 1) = z := ⟨_, rfl⟩
    rw [hx, hy, hz]
    have hx2 : (!(a == -1)) = x := hx
    have hz2 : (!(b == 1)) = z := hz
    clear hb hf he hl ha hb2
    cases x with
    | false =>
      go_enter Tryz.func40, Tryz.ntmps40
      go_wp2_with fail
      refine (H1.out _).mono ?_
      rintro e w1 ⟨rfl, rfl⟩
      go_wp2
      go_ret
      exact ⟨rfl, Below.refl _ _⟩
    | true =>
      cases y with
      | true =>
        go_enter Tryz.func40, Tryz.ntmps40
        go_wp2_with fail
        refine (H1.out _).mono ?_
        rintro e w1 ⟨rfl, rfl⟩
        go_wp2
        go_ret
        exact ⟨rfl, Below.refl _ _⟩
      | false =>
        go_enter Tryz.func40, Tryz.ntmps40
        go_wp2_with fail
        refine (H1.out _).mono ?_
        rintro e w1 ⟨rfl, rfl⟩
        go_wp2_with fail
        refine (H2.out _).mono ?_
        rintro e w1 ⟨rfl, rfl⟩
        go_wp2
        go_ret
        exact ⟨rfl, Below.refl _ _⟩
end Go.Proofs.YtbkanebkobjnnaaGreatDoor
namespace Go.Proofs.YtbkanebkobjnnaaGreatDoor
open Go.RowKit
open Sto (T St)
open Tri (Tr Ok upd ix hb lay splitT Trim rank)
open Go.Proofs.YtbkanebkobjnnaaGreatDoor.Nd (N)

namespace Tri
def wL : St := [([97, 98], [50]), ([97], [49])]
def wS : St := [([97], [49]), ([97, 98], [50])]
def wK : St := [([107], [118])]
theorem wL_of : ofR [] wL = (wS, 0) := by decide +kernel
theorem wK_of : ofR [] wK = (wK, 0) := by decide +kernel
def wT : Tr := (Tr.leaf [6, 1] [49]).put [6, 1, 6, 2] [50]
theorem wT_tree : TreeOf wS wT := by
  have h0 : TreeOf [] .nil := ⟨trivial, trivial, rfl⟩
  have h1 : TreeOf (put [] [97] [49]) (Tr.put .nil (Nib.ofL [97]) [49]) := h0.put (by decide)
  have h2 : TreeOf (put (put [] [97] [49]) [97, 98] [50]) ((Tr.put .nil (Nib.ofL [97]) [49]).put (Nib.ofL [97, 98]) [50]) := h1.put (by decide)
  exact h2
theorem wU_tree : TreeOf wK (.leaf [6, 11] [118]) := by
  have h0 : TreeOf [] .nil := ⟨trivial, trivial, rfl⟩
  have h1 : TreeOf (put [] [107] [118]) (Tr.put .nil (Nib.ofL [107]) [118]) := h0.put (by decide)
  exact h1
theorem wT_spots (dg : N → T) : (wT.spots dg []).length = 3 := by kernel_rfl
theorem wT_nn : ¬ wT.isNil := put_nn _ _ _
theorem wU_text : Nd.written (Tr.node Nd.sumS (.leaf [6, 11] [118])) = [1, 1, 2, 32, 107, 1, 1, 118] := by decide +kernel
end Tri
theorem wanted_all (t : Tr) : wantedT (fun _ => true) t = (t.spots Nd.sumS []).map fun x => Nd.written x.2 := by
  unfold wantedT
  rw [List.filter_eq_self.2 (fun _ _ => rfl)]
/-- What a trie's nodes are. -/
theorem TrAt.tree {w : World} {g : Nat} {S : St} (h : TrAt w g S) : ∃ top t, TRow w g top S.length ∧ PAt w (Fm.from 0) true t top ∧ TrS S t := h
set_option maxRecDepth 100000 in
set_option maxHeartbeats 2000000 in
theorem tworks_any (w : World) (hT : Tab w) : Calls Tryz.prog 5 #[] w fun e w' => e = .returned (.bool true) ∧ Below w.heap.size w w' := by
  have ht1 : ItAt (w.alloc (.cells #[.string ⟨#[97, 98]⟩, .string ⟨#[50]⟩, .string ⟨#[97]⟩, .string ⟨#[49]⟩] 26)) (.slice (some ⟨w.heap.size, 0, none⟩) 2 2) Tri.wL :=
    OwnI.at_ (B := w.heap.size) ⟨rfl, Or.inr ⟨w.heap.size, 2, _, rfl, Nat.le_refl _, heap_alloc_new w _, by simp [Tri.wL], by simp [maxLen], rfl, rfl⟩⟩
  have hbA : Below w.heap.size w (w.alloc (.cells #[.string ⟨#[97, 98]⟩, .string ⟨#[50]⟩, .string ⟨#[97]⟩, .string ⟨#[49]⟩] 26)) := (Below.refl _ w).alloc (Nat.le_refl _) _
  have HO1 := Lib.hid (tof_any Tri.wL _ _ ht1 (by decide) (hT.below hbA))
  have HO2 : Hid (∀ w1, Below w.heap.size w w1 → Calls Tryz.prog 6 #[.slice (some ⟨w1.heap.size, 0, none⟩) 1 1] (w1.alloc (.cells #[.string ⟨#[107]⟩, .string ⟨#[118]⟩] 26)) (TOfPost Tri.wK (w1.alloc (.cells #[.string ⟨#[107]⟩, .string ⟨#[118]⟩] 26)))) := Lib.hid (fun w1 hb => by
    have hb2 := hb.alloc hb.size (.cells #[.string ⟨#[107]⟩, .string ⟨#[118]⟩] 26)
    exact tof_any Tri.wK _ _ (OwnI.at_ (B := w1.heap.size) ⟨rfl, Or.inr ⟨w1.heap.size, 1, _, rfl, Nat.le_refl _, heap_alloc_new w1 _, by simp [Tri.wK], by simp [maxLen], rfl, rfl⟩⟩) (by decide) (hT.below hb2))
  unfold TOfPost at HO1 HO2
  rw [Tri.wL_of] at HO1
  rw [Tri.wK_of] at HO2
  have HBA := Lib.hid hbA
  clear ht1 hbA hT
  go_enter Tryz.func5, Tryz.ntmps5
  go_wp2_with fail
  refine HO1.out.mono ?_
  rintro e w1 ⟨z1, rfl, h1, -, hb1⟩
  obtain ⟨g1, rfl, t1⟩ := h1 trivial
  have HB1 : Hid (Below w.heap.size w w1) := Lib.hid (bchain HBA.out hb1)
  have HT1 := Lib.hid t1
  clear h1 t1 hb1
  unfold ptr
  go_wp2_with fail
  refine (HO2.out w1 HB1.out).mono ?_
  rintro e w2 ⟨z2, rfl, h2, -, hb2⟩
  obtain ⟨g2, rfl, t2⟩ := h2 trivial
  have hb2' : Below w1.heap.size w1 w2 := bchain ((Below.refl _ w1).alloc (Nat.le_refl _) _) hb2
  have HB2 : Hid (Below w.heap.size w w2) := Lib.hid (bchain HB1.out hb2')
  have T1 := HT1.out.below hb2'
  obtain ⟨top1, tr1, r1, p1, s1⟩ := T1.tree
  obtain ⟨top2, tr2, r2, p2, s2⟩ := t2.tree
  have e1 : tr1 = Tri.wT := s1.tree.one Tri.wT_tree
  have e2 : tr2 = .leaf [6, 11] [118] := s2.tree.one Tri.wU_tree
  have HN2 := Lib.hid (nodes_any w2 r2 (s2.sealed p2))
  have HN1 := Lib.hid (fun w' (hb : Below w2.heap.size w2 w') => nodes_any w' (r1.below hb) ((s1.sealed p1).below hb))
  have HG1 := Lib.hid (fun w' (hb : Below w2.heap.size w2 w') => tget_any [97, 98] w' (T1.below hb))
  have HL1 := Lib.hid (fun w' (hb : Below w2.heap.size w2 w') => tlen_any w' (T1.below hb))
  have HR1 := Lib.hid (fun w' (hb : Below w2.heap.size w2 w') => troot_any w' (r1.below hb) (p1.below hb) s1.ok)
  have hsl : (tr1.sum Nd.sumS).length = 32 := s1.ok.sum_len (by rw [e1]; exact Tri.wT_nn)
  rw [wanted_all] at HN2
  have HNL : Hid ((wantedT (fun _ => true) tr1).length = 3) := Lib.hid (by rw [wanted_all, List.length_map, e1]; exact Tri.wT_spots _)
  have ht2 : (tr2.spots Nd.sumS []).map (fun x => Nd.written x.2) = [[1, 1, 2, 32, 107, 1, 1, 118]] := by
    rw [e2]
    show [Nd.written (Tr.node Nd.sumS (.leaf [6, 11] [118]))] = _
    rw [Tri.wU_text]
  rw [ht2] at HN2
  obtain ⟨WN, hWN⟩ : ∃ WN, wantedT (fun _ => true) tr1 = WN := ⟨_, rfl⟩
  rw [hWN] at HN1 HNL
  obtain ⟨RS, hRS⟩ : ∃ RS, tr1.sum Nd.sumS = RS := ⟨_, rfl⟩
  rw [hRS] at HR1 hsl
  have HG1' : Hid (∀ w', Below w2.heap.size w2 w' → Calls Tryz.prog 27 #[ptr g1, .string ⟨#[97, 98]⟩] w' fun e w'' => e = .returned (.tuple #[.string ⟨#[50]⟩, .int .i64 0]) ∧ Below w'.heap.size w' w'') := Lib.hid (fun w' hb => HG1.out w' hb)
  have HRL : Hid ((RS.length : Int) = 32) := Lib.hid (by omega)
  unfold ptr
  unfold TextsPost ptr at HN1 HN2
  unfold ptr at HG1' HL1 HR1
  clear HG1 h2 t2 hb2 hb2' T1 r1 p1 s1 r2 p2 s2 e1 e2 ht2 hWN hRS HT1
  have hrl := HRL.out
  go_wp2_with fail
  refine HN2.out.mono ?_
  rintro e w3 ⟨zn, rfl, on, hb3⟩
  have HB3 : Hid (Below w2.heap.size w2 w3) := Lib.hid hb3
  have HON := Lib.hid on
  clear on hb3
  go_wp2_with fail
  refine (HG1'.out _ HB3.out).mono ?_
  rintro e w4 ⟨rfl, hb4⟩
  have HB4 : Hid (Below w2.heap.size w2 w4) := Lib.hid (bchain HB3.out hb4)
  have on4 := HON.out.below hb4
  obtain ⟨gz, cz, ez, -, -⟩ := World.ownsRow.form on4 (by simp)
  have hc4 : w4.cell? ⟨gz, 0, none⟩ = some (.string ⟨#[1, 1, 2, 32, 107, 1, 1, 118]⟩) := World.ownsRow.cells on4 (g := gz) (by rw [ez]; rfl) 0 (.string ⟨#[1, 1, 2, 32, 107, 1, 1, 118]⟩) (by simp [scells])
  subst ez
  clear on4 hb4
  go_wp2_with fail
  refine (HL1.out _ HB4.out).mono ?_
  rintro e w5 ⟨rfl, rfl⟩
  go_wp2_with fail
  refine (HN1.out _ HB4.out).mono ?_
  rintro e w6 ⟨zw, rfl, ow, hb6⟩
  have HB6 : Hid (Below w2.heap.size w2 w6) := Lib.hid (bchain HB4.out hb6)
  obtain ⟨A6, c6, ez6⟩ := own_form ow
  rw [HNL.out] at ez6
  subst ez6
  clear ow hb6
  go_wp2_with fail
  refine (HR1.out _ HB6.out).mono ?_
  rintro e w7 ⟨rfl, hb7⟩
  have HB7 : Hid (Below w2.heap.size w2 w7) := Lib.hid (bchain HB6.out hb7)
  go_wp2
  go_ret
  exact ⟨rfl, bchain HB2.out HB7.out⟩
end Go.Proofs.YtbkanebkobjnnaaGreatDoor
namespace Go.Proofs.YtbkanebkobjnnaaGreatDoor
open Go.RowKit Go.ChangeShapes Go.WideShapes

/-- An act. -/
structure ActT where
  kind : Int
  key : List UInt8
  val : List UInt8
instance : Inhabited ActT := ⟨⟨0, [], []⟩⟩
def TActs (w : World) (v : Value) (L : List ActT) : Prop :=
  ∃ (A : Option Addr) (cap : Nat), v = .slice A L.length cap ∧ (0 < L.length → ∃ b o, A = some ⟨b, o, none⟩ ∧ b < w.heap.size ∧ ∀ i (h : i < L.length),
    w.cell? ⟨b, o + i * 3, none⟩ = some (.int .i64 L[i].kind) ∧ w.cell? ⟨b, o + i * 3 + 1, none⟩ = some (.string ⟨L[i].key.toArray⟩) ∧ w.cell? ⟨b, o + i * 3 + 2, none⟩ = some (.string ⟨L[i].val.toArray⟩))
theorem TActs.below {w w' : World} {v : Value} {L : List ActT} (h : TActs w v L) (hb : Below w.heap.size w w') : TActs w' v L := by
  obtain ⟨A, cap, rfl, hc⟩ := h
  refine ⟨A, cap, rfl, fun h0 => ?_⟩
  obtain ⟨b, o, rfl, hlt, hcell⟩ := hc h0
  refine ⟨b, o, rfl, Nat.lt_of_lt_of_le hlt hb.size, fun i hi => ?_⟩
  obtain ⟨h1, h2, h3⟩ := hcell i hi
  exact ⟨(hb.cell hlt).trans h1, (hb.cell hlt).trans h2, (hb.cell hlt).trans h3⟩
theorem TActs.form {w : World} {v : Value} {L : List ActT} (h : TActs w v L) : ∃ A cap, v = .slice A L.length cap := by
  obtain ⟨A, cap, rfl, _⟩ := h
  exact ⟨A, cap, rfl⟩
theorem TActs.at {w w' : World} {A : Option Addr} {n cap : Nat} {L : List ActT} (h : TActs w (.slice A n cap) L) (hb : Below w.heap.size w w') (k : Nat) (hk : k < L.length) :
    ∃ b o, A = some ⟨b, o, none⟩ ∧ b < w.heap.size ∧ w'.cell? ⟨b, o + k * 3, none⟩ = some (.int .i64 L[k].kind) ∧ w'.cell? ⟨b, o + k * 3 + 1, none⟩ = some (.string ⟨L[k].key.toArray⟩) ∧ w'.cell? ⟨b, o + k * 3 + 2, none⟩ = some (.string ⟨L[k].val.toArray⟩) := by
  obtain ⟨A0, cap0, hv0, hc0⟩ := h
  obtain ⟨rfl, rfl, rfl⟩ : A = A0 ∧ n = L.length ∧ cap = cap0 := by simpa using hv0
  obtain ⟨b, o, rfl, hlt, hcell⟩ := hc0 (by omega)
  obtain ⟨h1, h2, h3⟩ := hcell k hk
  exact ⟨b, o, rfl, hlt, (hb.cell hlt).trans h1, (hb.cell hlt).trans h2, (hb.cell hlt).trans h3⟩

end Go.Proofs.YtbkanebkobjnnaaGreatDoor
namespace Go.Proofs.YtbkanebkobjnnaaGreatDoor
open Go.RowKit
open Sto (T St)
open Tri (Tr)

end Go.Proofs.YtbkanebkobjnnaaGreatDoor
namespace Go.Proofs.YtbkanebkobjnnaaGreatDoor
open Go.RowKit
open Sto (T St)
open Tri (Tr)

end Go.Proofs.YtbkanebkobjnnaaGreatDoor
namespace Go.Proofs.YtbkanebkobjnnaaGreatDoor
open Go.RowKit
open Sto (T St)

theorem take_snoc_it {L K : St} {k : Nat} (h1 : k < L.length) (h2 : k < K.length) : L.take (k + 1) = K.take (k + 1) ↔ L.take k = K.take k ∧ L[k] = K[k] := by
  rw [List.take_succ_eq_append_getElem h1, List.take_succ_eq_append_getElem h2]
  constructor
  · intro h
    have := List.append_inj' h rfl
    exact ⟨this.1, by simpa using this.2⟩
  · rintro ⟨a, b⟩
    rw [a, b]

set_option maxRecDepth 8000 in
set_option maxHeartbeats 2000000 in
theorem sameI_in (L K : St) (u v : Value) (w : World) (hu : ItIn w u L) (hv : ItIn w v K) (hl : L.length ≤ 1000000) (hk : K.length ≤ 1000000) :
    Calls Tryz.prog 8 #[u, v] w fun x w' => x = .returned (.bool (decide (L = K))) ∧ Below w.heap.size w w' := by
  have HU := Lib.hid hu
  have HV := Lib.hid hv
  obtain ⟨A, cap, rfl, -, -⟩ := hu.form
  obtain ⟨B, cap2, rfl, -, -⟩ := hv.form
  clear hu hv
  by_cases he : L.length = K.length
  · have h0 : ((L.length : Int) == (K.length : Int)) = true := by rw [beq_iff_eq]; omega
    have HE := Lib.hid he
    go_enter Tryz.func8, Tryz.ntmps8
    go_wp2
    go_loopw [5, 6] (fun s i wr => ∃ k : Nat, k ≤ L.length ∧ s = .bool (decide (L.take k = K.take k)) ∧ i = .int .i64 k ∧ Below w.heap.size w wr ∧ (L.take k ≠ K.take k → L ≠ K)) (fun _ i _ => L.length - (intOf i).toNat)
    case atStart => exact ⟨0, Nat.zero_le _, by simp, rfl, Below.refl _ _, by simp⟩
    case round =>
      obtain ⟨k, hk, rfl, rfl, hbel, hno⟩ := hrel
      have HN := Lib.hid hno
      have HB := Lib.hid hbel
      clear hno hbel
      rcases htk : decide (L.take k = K.take k) with _ | _
      · have HT := Lib.hid htk
        clear htk
        go_wp2
        go_ret
        refine ⟨?_, HB.out⟩
        have h := HN.out (of_decide_eq_false HT.out)
        rw [decide_eq_false h]
        rfl
      · have HT := Lib.hid htk
        clear htk
        by_cases hlt : k < L.length
        · have h1 : (k : Int) < (L.length : Int) := by omega
          have h2 : (k : Int) < (K.length : Int) := by omega
          have h3 : (0 : Int) ≤ (k : Int) := by omega
          obtain ⟨b, o, rfl, n0, n1⟩ := ItIn.at (RowsIn.below HU.out HB.out) k hlt
          obtain ⟨b2, o2, rfl, m0, m1⟩ := ItIn.at (RowsIn.below HV.out HB.out) k (by omega)
          have HSN := Lib.hid (take_snoc_it hlt (show k < K.length by omega))
          have HNE : Hid (∀ h : k < K.length, L[k] ≠ K[k] → L ≠ K) := Lib.hid (fun _ h e => by subst e; exact h rfl)
          obtain ⟨⟨x, p⟩, hx⟩ : ∃ m, L[k] = m := ⟨_, rfl⟩
          obtain ⟨⟨y, q⟩, hy⟩ : ∃ m, K[k]'(by omega) = m := ⟨_, rfl⟩
          rw [hx] at n0 n1
          rw [hy] at m0 m1
          rw [hx, hy] at HSN
          rw [hx] at HNE
          have HNE2 : Hid (((x, p) : T × T) ≠ (y, q) → L ≠ K) := Lib.hid (by have := HNE.out (by omega); rwa [hy] at this)
          dsimp only at n0 n1 m0 m1
          clear hx hy HNE
          by_cases exy : x = y
          · have e1 : (x == y) = true := by rw [beq_iff_eq]; exact exy
            have EXY := Lib.hid exy
            clear exy
            by_cases epq : p = q
            · have e2 : (p == q) = true := by rw [beq_iff_eq]; exact epq
              have HR : Hid (decide (L.take (k + 1) = K.take (k + 1)) = true) := Lib.hid (decide_eq_true (HSN.out.2 ⟨of_decide_eq_true HT.out, by rw [EXY.out, epq]⟩))
              clear epq
              go_wp2
              go_quiet (fail)
              go_wp2
              go_roundw
              case rel => exact ⟨k + 1, by omega, by rw [HR.out], by go_num, bel_drewN HB.out _, fun h => absurd (of_decide_eq_true HR.out) h⟩
              case measure => simp [intOf]; omega
            · have e2 : (p == q) = false := by rw [beq_eq_false_iff_ne]; exact epq
              have HD : Hid (L ≠ K) := Lib.hid (HNE2.out (fun e => epq (congrArg Prod.snd e)))
              have HR : Hid (decide (L.take (k + 1) = K.take (k + 1)) = false) := Lib.hid (decide_eq_false (fun h => epq (congrArg Prod.snd (HSN.out.1 h).2)))
              clear epq
              go_wp2
              go_quiet (fail)
              go_wp2
              go_roundw
              case rel => exact ⟨k + 1, by omega, by rw [HR.out], by go_num, bel_drewN HB.out _, fun _ => HD.out⟩
              case measure => simp [intOf]; omega
          · have e1 : (x == y) = false := by rw [beq_eq_false_iff_ne]; exact exy
            have HD : Hid (L ≠ K) := Lib.hid (HNE2.out (fun e => exy (congrArg Prod.fst e)))
            have HR : Hid (decide (L.take (k + 1) = K.take (k + 1)) = false) := Lib.hid (decide_eq_false (fun h => exy (congrArg Prod.fst (HSN.out.1 h).2)))
            clear exy
            go_wp2
            go_quiet (fail)
            go_wp2
            go_roundw
            case rel => exact ⟨k + 1, by omega, by rw [HR.out], by go_num, bel_drewN HB.out _, fun _ => HD.out⟩
            case measure => simp [intOf]; omega
        · have h1 : ¬ ((k : Int) < (L.length : Int)) := by omega
          have HR : Hid (decide (L = K) = true) := Lib.hid (decide_eq_true (by
            have := of_decide_eq_true HT.out
            rwa [List.take_of_length_le (by omega), List.take_of_length_le (by omega)] at this))
          go_wp2
          go_ret
          exact ⟨by rw [HR.out]; rfl, HB.out⟩
  · have h0 : ((L.length : Int) == (K.length : Int)) = false := by rw [beq_eq_false_iff_ne]; omega
    have HD : Hid (decide (L = K) = false) := Lib.hid (decide_eq_false (fun e => he (by rw [e])))
    clear he
    go_enter Tryz.func8, Tryz.ntmps8
    go_wp2
    go_loopw [5, 6] (fun s i wr => s = .bool false ∧ i = .int .i64 0 ∧ Below w.heap.size w wr) (fun _ _ _ => 0)
    case atStart => exact ⟨rfl, rfl, Below.refl _ _⟩
    case round =>
      obtain ⟨rfl, rfl, hb⟩ := hrel
      go_wp2
      go_ret
      exact ⟨by rw [HD.out]; rfl, hb⟩

theorem sameI_any (L K : St) (u v : Value) (w : World) (hu : ItAt w u L) (hv : ItAt w v K) (hl : L.length ≤ 1000000) (hk : K.length ≤ 1000000) :
    Calls Tryz.prog 8 #[u, v] w fun x w' => x = .returned (.bool (decide (L = K))) ∧ Below w.heap.size w w' := sameI_in L K u v w hu.inn hv.inn hl hk
end Go.Proofs.YtbkanebkobjnnaaGreatDoor
