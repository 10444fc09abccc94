/- The law ProofProves, walked. -/
import Derived.Test.YtjfefphgikncnaaGreatDoorPk18
import Derived.Test.YtjfefphgikncnaaGreatDoorPk21
namespace Go.Proofs.YtjfefphgikncnaaGreatDoor
open Go.RowKit
open Sto (T St)
open Tri (Tr)

/-- The document's Prove. -/
theorem rprove_any {S : St} {t : Tr} (key : T) (v : Value) (w : World) (hv : ItAt w v S) (hS : TrS S t) :
    Calls Tryz.prog 27 #[v, .string ⟨key.toArray⟩] w (ProvePost S key w) := by
  unfold ProvePost ProveC proveS
  have HK := Lib.hid (fun w => rKeyed_all key w)
  obtain ⟨A, cap, hve, -, -⟩ := hv.form
  cases hk : Tri.keyed key with
  | false =>
    rw [hk] at HK
    simp only [if_neg (show ¬ (false = true) by simp)]
    subst hve
    clear hv hk hS
    go_enter Tryz.func27, Tryz.ntmps27
    go_wp2_with fail
    refine (HK.out _).mono ?_
    rintro e w1 ⟨rfl, rfl⟩
    go_wp2
    go_ret2
    exact ⟨_, rfl, Own.nil _ _, Below.refl _ _⟩
  | true =>
    rw [hk] at HK
    simp only [if_true]
    have hk8 : key.length ≤ 8 := by simp [Tri.keyed] at hk; omega
    have HSP := Lib.hid (rspots_any v w hv hS)
    unfold RSpotsPost at HSP
    have HSPF : (t.spots Nd.sumS []).length ≤ 10000 := by
      have h1 := Tri.spots_few Nd.sumS hS.tree.1 []
      have h2 := hS.few
      rw [hS.tree.2.2] at h1
      simp [Tri.paths] at h1
      omega
    have HSK := spots_kids Nd.sumS t []
    have HSPL := spots_reach Nd.sumS hS.tree.1 [] 16 hS.within
    have HRT : Hid (∀ w' s5, SpAt Nd.sumS w' s5 (t.spots Nd.sumS []) → Calls Tryz.prog 59 #[s5, .string ⟨key.toArray⟩] w' fun e w'' => ∃ s, e = .returned s ∧ Own w'' w'.heap.size s (trailS S key) ∧ Below w'.heap.size w' w'') := Lib.hid (fun w' s5 h =>
      (rtTrail_any Nd.sumS _ s5 key w' h HSPF (fun x hx => ⟨HSK x hx, by have := HSPL x hx; simp at this; omega⟩) (by omega)).mono fun e w'' ⟨s, q1, q2, q3⟩ => ⟨s, q1, by rw [← pick_trail hS]; exact q2, q3⟩)
    subst hve
    clear hv hk hk8 HSPF HSK HSPL
    go_enter Tryz.func27, Tryz.ntmps27
    go_wp2_with fail
    refine (HK.out _).mono ?_
    rintro e w1 ⟨rfl, rfl⟩
    go_wp2_with fail
    refine HSP.out.mono ?_
    rintro e w2 ⟨s5, rfl, o5, hb2⟩
    have HB2 := Lib.hid hb2
    have HTL := Lib.hid (HRT.out w2 s5 (OwnSp.at_ o5))
    clear o5 hb2
    go_wp2_with fail
    refine HTL.out.mono ?_
    rintro e w3 ⟨z, rfl, ho, hb3⟩
    have HO := Lib.hid (own_lowS ho HB2.out.size)
    have HB := Lib.hid (bchain HB2.out hb3)
    clear ho hb3
    go_wp2
    go_ret2
    exact ⟨_, rfl, HO.out, HB.out⟩
set_option maxRecDepth 8000 in
set_option maxHeartbeats 1000000 in
theorem spoilTexts_own (L : List (List UInt8)) (s : Value) (B : Nat) (w : World) (hs : Own w B s L) (hl : L.length ≤ 1000000) :
    Calls Tryz.prog 29 #[s] w fun e w' => e = .returned (.tuple #[]) ∧ Out (fun j => s.ownBlock = some j) w w' := by
  have HS := Lib.hid hs
  obtain ⟨A, cap, rfl⟩ := own_form hs
  clear hs
  go_enter Tryz.func29, Tryz.ntmps29
  go_wp2
  go_loopw [2] (fun i wr => ∃ (k : Nat) (K : List (List UInt8)), k ≤ L.length ∧ i = .int .i64 k ∧ K.length = L.length ∧ Own wr B (.slice A L.length cap) K ∧ Out (fun j => (Value.slice A L.length cap).ownBlock = some j) w wr) (fun i _ => L.length - (intOf i).toNat)
  case atStart => exact ⟨0, L, Nat.zero_le _, rfl, rfl, HS.out, Out.refl _ _⟩
  case round =>
    obtain ⟨k, K, hk, rfl, hK, hown, hb⟩ := hrel
    by_cases hlt : k < L.length
    · have h1 : (k : Int) < (L.length : Int) := by omega
      have h0 : (0 : Int) ≤ (k : Int) := by omega
      have hf := World.ownsRow.form hown (by omega)
      obtain ⟨g, c, hv, hBg, _⟩ := hf
      obtain ⟨rfl, _⟩ : A = some ⟨g, 0, none⟩ ∧ _ := by simpa using hv
      obtain ⟨a, ha, hcell⟩ := hown.strs_at (Below.refl _ wr) k (by omega)
      obtain rfl : a = ⟨g, 0, none⟩ := by simpa using ha.symm
      rw [Addr.add_mid, Nat.zero_add] at hcell
      have hfz := World.ownsRow.frozenAt (n := K.length) (xs := scells K) (cap := cap) (by rw [hK]; have := hown; unfold Own at this; rw [hK] at this; exact this) k
      have HN := Lib.hid (hown.set (show k < K.length by omega) [97, 110, 111, 116, 104, 101, 114, 32, 111, 110, 101])
      have HB := Lib.hid (hb.setCell (p := ⟨g, k, none⟩) rfl (.string ⟨#[97, 110, 111, 116, 104, 101, 114, 32, 111, 110, 101]⟩))
      have HKL := Lib.hid hK
      obtain ⟨y, hy⟩ : ∃ y, K[k]'(by omega) = y := ⟨_, rfl⟩
      rw [hy] at hcell
      clear hv ha hown hb hy hK
      go_wp2
      exact ⟨⟨k + 1, _, by omega, by go_num, by rw [List.length_set]; exact HKL.out, HN.out, HB.out⟩, by simp [intOf]; omega⟩
    · have h1 : ¬ ((k : Int) < (L.length : Int)) := by omega
      have HB := Lib.hid hb
      clear hown hb
      go_wp2
      go_end0
      exact ⟨rfl, HB.out⟩
theorem keep_own {F : Nat → Prop} {w w' : World} {B : Nat} {z : Value} {L : List T} (h : Own w B z L) (ho : Out F w w') (hF : ∀ k, z.ownBlock = some k → ¬ F k) : Own w' B z L := by
  refine ⟨h.1, ?_⟩
  rcases h.2 with h0 | ⟨g, cap, cur, hv, hB, hh, hr⟩
  · exact Or.inl h0
  · exact Or.inr ⟨g, cap, cur, hv, hB, ho.heap hh (hF g (by rw [hv]; rfl)), hr⟩
/-- A trie that a change elsewhere leaves as it was. -/
theorem trat_out {F : Nat → Prop} {w w' : World} {g : Nat} {S : St} (h : TrAt w g S) (ho : Out F w w') (hb : ∀ k, F k → ∀ cs t f, w.heap[k]? = some (.cells cs t f) → t ≠ 99 ∧ t ≠ 82) : TrAt w' g S := by
  obtain ⟨top, t, h1, h2, h3⟩ := h
  exact ⟨top, t, ho.heap h1 (fun e => (hb g e _ _ _ h1).2 rfl), h2.change (fun _ _ _ h => h) fun g k p x K s s2 _ hr => ho.heap hr (fun e => (hb g e _ _ _ hr).1 rfl), h3⟩
/-- What lies in a row of texts is no part of a trie. -/
theorem own_bare {w : World} {B : Nat} {z : Value} {L : List T} (h : Own w B z L) (k : Nat) (hk : z.ownBlock = some k) : ∀ cs t f, w.heap[k]? = some (.cells cs t f) → t ≠ 99 ∧ t ≠ 82 := by
  intro cs t f he
  rcases h.2 with ⟨h0, _⟩ | ⟨g, cap, cur, hv, hB, hh, _⟩
  · rw [h0] at hk; cases hk
  · rw [hv] at hk
    obtain rfl : g = k := by simpa [Value.ownBlock] using hk
    rw [hh] at he
    cases he
    decide
theorem proveS_few {S : St} {t : Tr} (h : TrS S t) (k : T) : (proveS S k).length ≤ 17 := by
  unfold proveS
  split
  · rename_i hk; exact Prf.trailS_few h hk
  · simp
set_option maxRecDepth 100000 in
set_option maxHeartbeats 4000000 in
theorem proofProves_walk (v : Value) (L : St) (key : T) (w : World) (hv : ItIn w v L) (hT : Tab w) :
    Calls Tryz.prog 5 #[v, .string ⟨key.toArray⟩] w fun e w' => e = .returned (.bool true) ∧ Below w.heap.size w w' := by
  have HWK := Lib.hid (fun w' (hb : Below w.heap.size w w') => pworks_any w' (hT.below hb))
  have HSO := Lib.hid (psome_any L v w hv hT)
  unfold SomePost at HSO
  obtain ⟨A, cap, rfl, -, -⟩ := hv.form
  clear hv hT
  by_cases hk100 : 100 < key.length
  · have q1 : (key.length : Int) > 100 := by omega
    have q2 : decide ((100 : Int) < (key.length : Int)) = true := decide_eq_true (by omega)
    have q3 : decide (100 < key.length) = true := decide_eq_true hk100
    go_enter Tryz.func5, Tryz.ntmps5
    go_wp2_with fail
    refine (HWK.out _ (Below.refl _ _)).mono ?_
    rintro e w1 ⟨rfl, hb1⟩
    go_wp2
    go_ret
    exact ⟨rfl, hb1⟩
  have q1 : ¬ ((key.length : Int) > 100) := by omega
  have q2 : decide ((100 : Int) < (key.length : Int)) = false := decide_eq_false (by omega)
  have q3 : decide (100 < key.length) = false := decide_eq_false hk100
  clear hk100
  go_enter Tryz.func5, Tryz.ntmps5
  go_wp2_with fail
  refine HSO.out.mono ?_
  rintro e w1 ⟨g, z, rfl, ht, hi, hb1⟩
  have HB1 := Lib.hid hb1
  have HT1 := Lib.hid ht
  have HI1 := Lib.hid hi
  obtain ⟨S, hS⟩ : ∃ S, Prf.someS L = S := ⟨_, rfl⟩
  rw [hS] at HT1 HI1
  clear ht hi hb1 hS
  obtain ⟨_, t, _, _, hts⟩ := id HT1.out
  have HTS := Lib.hid hts
  clear hts
  go_wp2_with fail
  have HP1 := Lib.hid (prove_any key w1 HT1.out)
  unfold ProvePost ptr at HP1
  refine HP1.out.mono ?_
  rintro e w2 ⟨za, rfl, hoa, hb2⟩
  have HB2 := Lib.hid (bchain HB1.out hb2)
  have HS12 := Lib.hid hb2.size
  have HA2 := Lib.hid hoa
  have HI2 := Lib.hid (RowsAt.below HI1.out hb2)
  have HT2 := Lib.hid (HT1.out.below hb2)
  clear hoa hb2 HP1
  go_wp2_with fail
  have HP2 := Lib.hid (rprove_any key z w2 HI2.out HTS.out)
  unfold ProvePost at HP2
  refine HP2.out.mono ?_
  rintro e w3 ⟨zb, rfl, hob, hb3⟩
  have HB3 := Lib.hid (bchain HB2.out hb3)
  have HA3 := Lib.hid (HA2.out.below hb3)
  have HO3 := Lib.hid hob
  have HT3 := Lib.hid (HT2.out.below hb3)
  have HLB : Hid (w1.heap.size ≤ w2.heap.size) := Lib.hid HS12.out
  clear hob hb3 HP2
  obtain ⟨P, hP⟩ : ∃ P, proveS S key = P := ⟨_, rfl⟩
  have hPl : P.length ≤ 17 := by rw [← hP]; exact proveS_few HTS.out key
  have HPP := Lib.hid hP
  have HPL := Lib.hid hPl
  rw [hP] at HA3 HO3
  obtain ⟨c, hc⟩ : ∃ c, ProveC key = c := ⟨_, rfl⟩
  have HCC := Lib.hid hc
  rw [hc]
  clear hP hPl hc
  have hcc : ((c : Int) != (c : Int)) = false := by simp
  have hce : ((c : Int) == (c : Int)) = true := beq_self_eq_true _
  have HSM := Lib.hid (same_any P P za zb w3 HA3.out.strs HO3.out.strs (by have := HPL.out; omega) (by have := HPL.out; unfold maxLen; omega))
  rw [decide_eq_true rfl] at HSM
  go_wp2_with fail
  refine HSM.out.mono ?_
  rintro e w4 ⟨rfl, hb4⟩
  have HB4 := Lib.hid (bchain HB3.out hb4)
  have HA4 := Lib.hid (HA3.out.below hb4)
  have HO4 := Lib.hid (HO3.out.below hb4)
  have HT4 := Lib.hid (HT3.out.below hb4)
  have hdis : ∀ k, zb.ownBlock = some k → ¬ (za.ownBlock = some k) := fun k hk e => by
    have h1 := (Own.lt HO4.out k hk).1
    have h2 := (Own.lt HA2.out k e).2
    omega
  have HDI := Lib.hid hdis
  have HBL : Hid (∀ k, za.ownBlock = some k → w.heap.size ≤ k) := Lib.hid (fun k hk => Nat.le_trans HB1.out.size (Own.lt HA2.out k hk).1)
  clear hb4 HSM hdis
  go_wp2_with fail
  refine (spoilTexts_own P za w1.heap.size w4 HA4.out (by have := HPL.out; omega)).mono ?_
  rintro e w5 ⟨rfl, ho5⟩
  have HB5 : Hid (Below w.heap.size w w5) := Lib.hid (HB4.out.trans (ho5.below (fun k hk => HBL.out k hk) HB4.out.size))
  have HO5 := Lib.hid (keep_own HO4.out ho5 HDI.out)
  have HT5 := Lib.hid (trat_out HT4.out ho5 (fun k hk => own_bare HA4.out k hk))
  clear ho5
  go_wp2_with fail
  have HP6 := Lib.hid (prove_any key w5 HT5.out)
  unfold ProvePost ptr at HP6
  rw [HPP.out, HCC.out] at HP6
  refine HP6.out.mono ?_
  rintro e w6 ⟨zc, rfl, hoc, hb6⟩
  have HB6 := Lib.hid (bchain HB5.out hb6)
  have HC6 := Lib.hid hoc
  have HO6 := Lib.hid (HO5.out.below hb6)
  clear hoc hb6 HP6
  have HSN := Lib.hid (same_any P P zc zb w6 HC6.out.strs HO6.out.strs (by have := HPL.out; omega) (by have := HPL.out; unfold maxLen; omega))
  rw [decide_eq_true rfl] at HSN
  go_wp2_with fail
  refine HSN.out.mono ?_
  rintro e w7 ⟨rfl, hb7⟩
  have HB7 := Lib.hid (bchain HB6.out hb7)
  clear hb7 HSN
  go_wp2_with fail
  refine (HWK.out _ HB7.out).mono ?_
  rintro e w8 ⟨rfl, hb8⟩
  go_wp2
  go_ret
  exact ⟨rfl, bchain HB7.out hb8⟩
theorem proofProves_law (v : Value) (L : St) (key : ByteArray) (w : World) (hv : ItIn w v L) (_ : L.length * 32 ≤ reachBytes) (_ : key.size ≤ maxLen) (hT : Tab w) :
    Calls Tryz.prog 5 #[v, .string key] w fun e w' => e = .returned (.bool true) ∧ Below w.heap.size w w' := by
  obtain ⟨k, rfl⟩ := bytes_list key
  exact proofProves_walk v L k w hv hT
end Go.Proofs.YtjfefphgikncnaaGreatDoor
