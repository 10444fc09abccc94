/- The law StorePlays, walked. -/
import Derived.Test.YtgbcilokeiengaaGreatDoorPk15
import Derived.Test.YtgbcilokeiengaaGreatDoorPk16
import Derived.Deep.RegionHeld3
namespace Go.Proofs.YtgbcilokeiengaaGreatDoor
open Go.RowKit
open Go.Proofs.YtgbcilokeiengaaGreatDoor.Sto (St)

theorem Own.one (w : World) (x : List UInt8) : Own (w.alloc (.cells #[.string ⟨x.toArray⟩] 9)) w.heap.size (.slice (some ⟨w.heap.size, 0, none⟩) 1 1) [x] :=
  ⟨rfl, Or.inr ⟨w.heap.size, 1, _, rfl, Nat.le_refl _, heap_new_at _ _ _ rfl, Nat.le_refl _, by unfold maxLen; omega, rfl, rfl⟩⟩
theorem Strs.two (w : World) (x y : List UInt8) : Strs (w.alloc (.cells #[.string ⟨x.toArray⟩, .string ⟨y.toArray⟩] 9)) (.slice (some ⟨w.heap.size, 0, none⟩) 2 2) [x, y] := by
  have hr := heap_new_at w (.cells #[.string ⟨x.toArray⟩, .string ⟨y.toArray⟩] 9) w.heap.size rfl
  refine ⟨some ⟨w.heap.size, 0, none⟩, 2, rfl, fun i hi => ?_⟩
  rcases i with _ | _ | i
  · exact ⟨_, rfl, cell_of_row _ _ 0 _ _ _ hr⟩
  · exact ⟨_, rfl, cell_of_row _ _ 1 _ _ _ hr⟩
  · exact absurd hi (by simp)
theorem Strs.outRow {F : Nat → Prop} {w w' : World} {v : Value} {L : List (List UInt8)} (h : Strs w v L) (hne : ∀ k, v.ownBlock = some k → ¬ F k) (ho : Out F w w') : Strs w' v L := by
  obtain ⟨A, cap, rfl, hc⟩ := h
  refine ⟨A, cap, rfl, fun i hi => ?_⟩
  obtain ⟨a, rfl, hcell⟩ := hc i hi
  exact ⟨a, rfl, ho.cell hcell (by
    have e : (a.add i).block = a.block := by
      unfold Addr.add
      first | rfl | (split <;> rfl) | simp
    rw [e]
    exact hne a.block rfl)⟩
/-- What is asked for: something odd, and two of what came. -/
def SomeOf (w : World) (wx : World) (odd : List UInt8) (C : List (List UInt8)) (sl : Value) (l : List (List UInt8)) : Prop :=
  Strs wx sl l ∧ (∀ x ∈ l, x = odd ∨ x ∈ C) ∧ l.length ≤ 3 ∧ Below w.heap.size w wx ∧ ∀ k, sl.ownBlock = some k → w.heap.size ≤ k
theorem some_two {w0 w : World} {odd x y : List UInt8} {C : List (List UInt8)} {s : Value} (ho : Own w w0.heap.size s [odd]) (hb : Below w0.heap.size w0 w) (hx : x ∈ C) (hy : y ∈ C) :
    ∃ v' w', (Builtin.append_ #[26, 26] 26 #[s, .slice (some ⟨w.heap.size, 0, none⟩) 2 2]).run Tryz.prog (w.drew.alloc (.cells #[.string ⟨x.toArray⟩, .string ⟨y.toArray⟩] 9)) = .ok v' w' ∧ SomeOf w0 w' odd C v' [odd, x, y] := by
  obtain ⟨w1, hw1⟩ : ∃ w1, w.drew = w1 := ⟨_, rfl⟩
  have ho1 : Own w1 w0.heap.size s [odd] := by rw [← hw1]; exact ho
  have hb1 : Below w0.heap.size w0 w1 := by rw [← hw1]; exact hb.drew
  have hs1 : w1.heap.size = w.heap.size := by rw [← hw1]; rfl
  have ht := Strs.two w1 x y
  rw [hs1] at ht
  have ha : Below w1.heap.size w1 (w1.alloc (.cells #[.string ⟨x.toArray⟩, .string ⟨y.toArray⟩] 9)) := (Below.refl _ w1).alloc (Nat.le_refl _) _
  have hb2 := bchain hb1 ha
  obtain ⟨v', w', hrun, hown, hgr, _⟩ := append_strs ht (ho1.below ha) (by simp) hb2.size
  rw [hw1]
  have hnew : Own w' w0.heap.size v' [odd, x, y] := by
    have e : ([odd, x, y] : List (List UInt8)) = [odd] ++ [x, y] := rfl
    rw [e]
    unfold Own
    rw [scells_append, List.length_append]
    exact hown
  refine ⟨v', w', hrun, hnew.strs, ?_, by simp, ?_, fun k hk => (hnew.lt k hk).1⟩
  · intro z hz
    rcases List.mem_cons.1 hz with rfl | hz
    · exact Or.inl rfl
    · rcases List.mem_cons.1 hz with rfl | hz
      · exact Or.inr hx
      · obtain rfl : z = y := by simpa using hz
        exact Or.inr hy
  · exact hb2.trans ((Out.grown hgr (F := fun j => s.ownBlock = some j) (fun j e => e)).below (fun j e => (ho1.lt j e).1) hb2.size)

theorem Lent.outMap {P : Program} {k : TypeId} {κ α : Type} {M : MapLaw P k κ α} {w w' : World} {m B : Nat} {f : κ → Option α} {s : Value} {L : List (List UInt8)} (h : Lent w B s L) (hf : FnAt M w m f) (ho : Out (fun i => i = m) w w') : Lent w' B s L := by
  obtain ⟨g, cap, rfl, h1⟩ := h
  exact ⟨g, cap, rfl, h1.outMap hf ho⟩
/-- Between two acts. -/
structure PlayAt (w wr : World) (B g m : Nat) (S : St) (C : List (List UInt8)) (va z : Value) (k : Nat) : Prop where
  st : StoreAt wr g m S
  from_ : B ≤ m
  all : StL wr va S
  sums : Own wr B z C
  c32 : ∀ x ∈ C, x.length = 32
  clen : C.length ≤ k
  slen : S.length ≤ k
  below : Below B w wr
theorem PlayAt.of_below {w wr w' : World} {B g m k : Nat} {S : St} {C : List (List UInt8)} {va z : Value} (h : PlayAt w wr B g m S C va z k) (hb : Below wr.heap.size wr w') (hB : B ≤ wr.heap.size) : PlayAt w w' B g m S C va z k :=
  ⟨h.st.below hb, h.from_, h.all.below hb, h.sums.below hb, h.c32, h.clen, h.slen, h.below.trans (hb.mono hB)⟩
theorem PlayAt.more {w wr : World} {B g m k k' : Nat} {S : St} {C : List (List UInt8)} {va z : Value} (h : PlayAt w wr B g m S C va z k) (hk : k ≤ k') : PlayAt w wr B g m S C va z k' :=
  ⟨h.st, h.from_, h.all, h.sums, h.c32, Nat.le_trans h.clen hk, Nat.le_trans h.slen hk, h.below⟩
/-- What a store's own change leaves of the rest. -/
theorem StL.outMap {P : Program} {k : TypeId} {κ α : Type} {M : MapLaw P k κ α} {w w' : World} {m : Nat} {f : κ → Option α} {v : Value} {S : St} (h : StL w v S) (hf : FnAt M w m f) (ho : Out (fun i => i = m) w w') : StL w' v S :=
  h.outF ho fun _ _ _ e => hf.no_cells _ _ _ _ e

set_option maxRecDepth 100000 in
set_option maxHeartbeats 8000000 in
theorem storePlays_walk (v : Value) (L : List ActN) (odd : ByteArray) (w : World) (hv : Acts w v L) (hl : L.length * 40 ≤ reachBytes) (_ : ∀ s ∈ L, OkAct s) (_ : odd.size ≤ maxLen) (hos : odd.size ≤ reachBytes) (hT : Tab w) :
    Calls Tryz.prog 3 #[v, .string odd] w fun e w' => e = .returned (.bool true) ∧ Below w.heap.size w w' := by
  obtain ⟨od, rfl⟩ := bytes_list odd
  have HOD : Hid (od.length ≤ 140737488351232) := Lib.hid (by have : reachBytes = 140737488351232 := rfl; rw [size_list] at hos; omega)
  have HT := Lib.hid hT
  have HV := Lib.hid hv
  have HLL : Hid (L.length ≤ 4000000000000) := Lib.hid (by have : reachBytes = 140737488351232 := rfl; omega)
  obtain ⟨i0, hi, hz0, hz1, hz2⟩ := info_parts Tryz.infoStr
  obtain ⟨A, cap, rfl⟩ := hv.form
  clear hv hl hT hos
  go_enter Tryz.func3, Tryz.ntmps3
  go_wp2_with fail
  refine (stnew_any _).mono ?_
  rintro e w1 ⟨g, m, rfl, hg, hm, hst, hb⟩
  obtain ⟨B, hB⟩ : ∃ B, w.heap.size = B := ⟨_, rfl⟩
  rw [hB] at hm hb
  have HBS := Lib.hid hB
  have HP0 : Hid (PlayAt w w1 B g m [] [] (.slice none 0 0) (.slice none 0 0) 0) := Lib.hid ⟨hst, hm, StL.nil _, Own.nil _ _, fun x hx => (by cases hx), Nat.le_refl _, Nat.le_refl _, hb⟩
  clear hg hm hst hb hB
  go_wp2
  go_loopw [5, 6, 7, 8] (fun sv av zv iv wr => ∃ (va z : Value) (k g m : Nat) (S : St) (C : List (List UInt8)), va = av ∧ z = zv ∧ sv = .pointer (some ⟨g, 0, none⟩) ∧ iv = .int .i64 k ∧ k ≤ L.length ∧ k ≤ 30 ∧ PlayAt w wr B g m S C va z k) (fun _ _ _ i _ => L.length - (intOf i).toNat)
  case atStart => exact ⟨_, _, 0, g, m, [], [], rfl, rfl, rfl, rfl, Nat.zero_le _, by omega, HP0.out⟩
  case round =>
    clear HP0
    obtain ⟨va, z, k, g, m, S, C, rfl, rfl, rfl, rfl, hk, hk30, hp⟩ := hrel
    have HP := Lib.hid hp
    have HBr : Hid (B ≤ wr.heap.size) := Lib.hid (by have := hp.below.size; have := HBS.out; omega)
    by_cases hlt : k < L.length ∧ k < 30
    · obtain ⟨hlt, h30⟩ := hlt
      have h1 : (k : Int) < (L.length : Int) := by omega
      have h2 : (k : Int) < 30 := by omega
      have h0 : (0 : Int) ≤ (k : Int) := by omega
      have HKB : Hid (k < 30) := Lib.hid h30
      have HLT2 : Hid (k + 1 ≤ L.length) := Lib.hid hlt
      have HBW : Hid (Below w.heap.size w wr) := Lib.hid (by rw [HBS.out]; exact hp.below)
      obtain ⟨bA, oA, rfl, hbl, -⟩ := HV.out.at HBW.out k hlt
      obtain ⟨n, hn⟩ : ∃ n, L[k] = n := ⟨_, rfl⟩
      have HCF : Hid (∀ w', Below w.heap.size w w' → w'.cell? ⟨bA, oA + k * 4, none⟩ = some (.int .i64 n.kind) ∧ w'.cell? ⟨bA, oA + k * 4 + 1, none⟩ = some (.string ⟨n.text.toArray⟩) ∧ w'.cell? ⟨bA, oA + k * 4 + 2, none⟩ = some (.int .i64 n.a) ∧ w'.cell? ⟨bA, oA + k * 4 + 3, none⟩ = some (.int .i64 n.b)) := Lib.hid (fun w' q => by
        obtain ⟨b', o', e, _, h⟩ := HV.out.at q k hlt
        obtain ⟨rfl, rfl⟩ : bA = b' ∧ oA = o' := by simpa using e
        rw [← hn]
        exact h)
      obtain ⟨kd, tx, a, b⟩ := n
      dsimp only at HCF
      obtain ⟨Az, cz, rfl⟩ := own_form hp.sums
      obtain ⟨bb, hbb⟩ : ∃ bb, decide (0 < C.length) = bb := ⟨_, rfl⟩
      have HBB := Lib.hid hbb
      clear hp hn hlt h30
      go_upto_region 10 with fail
      have HO9 := Lib.hid (Own.one wr od)
      have HB9 : Hid (Below wr.heap.size wr (wr.alloc (.cells #[.string ⟨od.toArray⟩] 9))) := Lib.hid ((Below.refl _ wr).alloc (Nat.le_refl _) _)
      obtain ⟨s9, hs9⟩ : ∃ s9, (.slice (some ⟨wr.heap.size, 0, none⟩) 1 1 : Value) = s9 := ⟨_, rfl⟩
      rw [hs9] at HO9 ⊢
      clear hs9
      obtain ⟨w9, hw9⟩ : ∃ w9, wr.alloc (.cells #[.string ⟨od.toArray⟩] 9) = w9 := ⟨_, rfl⟩
      rw [hw9] at HO9 HB9 ⊢
      obtain ⟨A9, c9, rfl⟩ := own_form HO9.out
      clear hw9
      go_upto_if 34 with fail
      go_cut [9] from 35 to 61 (fun sv wx => ∃ sl l, sl = sv ∧ SomeOf wr wx od C sl l)
      case first =>
        cases bb with
        | false =>
          go_wp2
          go_meet
          case rel => exact ⟨_, [od], rfl, HO9.out.strs, fun x hx => Or.inl (by simpa using hx), by simp, HB9.out, fun k hk => (HO9.out.lt k hk).1⟩
        | true =>
          have hC0 : 0 < C.length := by simpa using HBB.out
          have hCs := HP.out.sums.strs
          obtain ⟨k1, q, e1, l1, hq, g1⟩ := hCs.place hC0 a
          obtain ⟨k2, q', e2, l2, hq', g2⟩ := hCs.place hC0 b
          obtain rfl : q = q' := by rw [hq] at hq'; simpa using hq'
          subst hq
          have HBa := Lib.hid (fun w => below_any a C.length w hC0 (by have := HP.out.clen; have := HKB.out; omega))
          have HBb := Lib.hid (fun w => below_any b C.length w hC0 (by have := HP.out.clen; have := HKB.out; omega))
          rw [e1] at HBa
          rw [e2] at HBb
          have hm1 := Sto.placeOf_mem a C hC0
          have hm2 := Sto.placeOf_mem b C hC0
          obtain ⟨x, hx⟩ : ∃ x, Sto.placeOf a C = x := ⟨_, rfl⟩
          obtain ⟨y, hy⟩ : ∃ y, Sto.placeOf b C = y := ⟨_, rfl⟩
          rw [hx] at g1 hm1
          rw [hy] at g2 hm2
          have u1 : (0 : Int) ≤ (k1 : Int) := by omega
          have u2 : (k1 : Int) < (C.length : Int) := by omega
          have u3 : (0 : Int) ≤ (k2 : Int) := by omega
          have u4 : (k2 : Int) < (C.length : Int) := by omega
          have hX : ∀ w', Below wr.heap.size wr w' → w'.cell? ⟨bA, oA + k * 4 + 2, none⟩ = some (.int .i64 a) ∧ w'.cell? ⟨bA, oA + k * 4 + 3, none⟩ = some (.int .i64 b) ∧ w'.cell? (q.add k1) = some (.string ⟨x.toArray⟩) ∧ w'.cell? (q.add k2) = some (.string ⟨y.toArray⟩) := fun w' hb => by
            obtain ⟨-, -, r1, r2⟩ := HCF.out w' (bchain HBW.out hb)
            exact ⟨r1, r2, (hb.cell (World.block_lt_of_cell? _ _ g1)).trans g1, (hb.cell (World.block_lt_of_cell? _ _ g2)).trans g2⟩
          obtain ⟨v8, w8, hrun8, hso8⟩ := some_two HO9.out HB9.out hm1 hm2
          have HSO := Lib.hid hso8
          obtain ⟨t0, t1, t2, t3⟩ := hX _ HB9.out.drew
          obtain ⟨s0, s1, s2, s3⟩ := hX _ (HB9.out.drew.alloc HB9.out.size (.cells #[.string ⟨x.toArray⟩, .string ⟨y.toArray⟩] 9))
          obtain ⟨p0, p1, p2, p3⟩ := hX _ hso8.2.2.2.1
          clear hCs e1 e2 hq' hm1 hm2 hx hy hC0 g1 g2 hso8 hX
          simp only [List.length_cons, List.length_nil] at hrun8 ⊢
          go_wp2
          go_region_held3 (fun w' => w'.cell? ⟨bA, oA + k * 4 + 2, none⟩ = some (.int .i64 a) ∧ w'.cell? ⟨bA, oA + k * 4 + 3, none⟩ = some (.int .i64 b) ∧ w'.cell? (q.add k1) = some (.string ⟨x.toArray⟩) ∧ w'.cell? (q.add k2) = some (.string ⟨y.toArray⟩))
            ((first | exact ⟨t0, t1, t2, t3⟩ | exact ⟨s0, s1, s2, s3⟩ | exact ⟨p0, p1, p2, p3⟩))
            (first | (go_at_call_of 5 (Value.int .i64 a); refine (HBa.out _).mono ?_; rintro e wa ⟨rfl, rfl⟩) | (go_at_call 5; refine (HBb.out _).mono ?_; rintro e wa ⟨rfl, rfl⟩) | (refine step_append_run rfl (.tmp 35) (.tmp 60) _ rfl _ _ v8 ?_ ?_ hrun8 ?_; (first | rfl | (focus (simp [Act.eval]; done)) | fail); (first | rfl | (focus (simp [Act.eval]; done)) | fail)))
          all_goals
            go_wp2
            go_meet
            case rel => exact ⟨_, [od, x, y], rfl, HSO.out⟩
      case rest =>
        obtain ⟨sl, l, rfl, hst, hlx, hl3, hbx, hnb⟩ := hcut
        have HBX := Lib.hid hbx
        have HST := Lib.hid hst
        have HL3 := Lib.hid hl3
        have HPX := Lib.hid (HP.out.of_below hbx HBr.out)
        have HSH : Hid (∀ x ∈ l, x.length ≤ 140737488351232) := Lib.hid (fun x hx => by
          rcases hlx x hx with rfl | hx
          · exact HOD.out
          · have := HP.out.c32 x hx; omega)
        have HBC : Hid (B ≤ wc.heap.size) := Lib.hid (Nat.le_trans HBr.out hbx.size)
        have HWC := Lib.hid (bchain HBW.out hbx)
        obtain ⟨n0, n1, n2, n3⟩ := HCF.out _ HWC.out
        have HKS : Hid (S.length ≤ 30) := Lib.hid (by have := HP.out.slen; have := HKB.out; omega)
        obtain ⟨Al, cl, rfl, -⟩ := hst
        have HNB := Lib.hid hnb
        clear hlx hl3 hbx hbb hnb
        by_cases hk2 : kd = 2
        · subst hk2
          have HLE := Lib.hid (lend_any l _ wc HST.out (by have := HL3.out; omega))
          unfold LendPost at HLE
          go_wp2_with fail
          refine HLE.out.mono ?_
          rintro e w3 ⟨lt, rfl, hlt, hb3⟩
          have HLT := Lib.hid hlt
          have HP3 := Lib.hid (HPX.out.of_below hb3 HBC.out)
          have HS3 := Lib.hid (HST.out.below hb3)
          have HZ3 : Hid (B ≤ w3.heap.size) := Lib.hid (Nat.le_trans HBC.out hb3.size)
          have HRK := Lib.hid (rstKeep_any S va l _ w3 HP3.out.all HS3.out HP3.out.st.rise (by have := HKS.out; omega) (by have := HL3.out; omega) HP3.out.st.short)
          clear hlt hb3 n0 n1 n2 n3
          go_wp2_with fail
          refine HRK.out.mono ?_
          rintro e w4 ⟨v4, rfl, hv4, hb4⟩
          have HV4 := Lib.hid hv4
          have HP4 := Lib.hid (HP3.out.of_below hb4 HZ3.out)
          have HS4 := Lib.hid (HS3.out.below hb4)
          have HLT4 := Lib.hid (HLT.out.below hb4)
          have HZ4 : Hid (B ≤ w4.heap.size) := Lib.hid (Nat.le_trans HZ3.out hb4.size)
          have HKP := Lib.hid (stkeep_any g m S l lt w4 HP4.out.st HLT4.out.strs (by have := HKS.out; omega) (by have := HL3.out; omega) HSH.out)
          unfold StKeepPost at HKP
          have HKL := Lib.hid (Sto.keepL_len HP4.out.st.rise l)
          have HRL := Lib.hid (Sto.reachL_len S l)
          obtain ⟨S', hS'⟩ : ∃ S', Sto.keepL S l = S' := ⟨_, rfl⟩
          rw [hS'] at HV4 HKP HKL
          rw [hS']
          obtain ⟨d, hd⟩ : ∃ d, S.length - S'.length = d := ⟨_, rfl⟩
          rw [hd] at HKP ⊢
          have hdd : ((d : Int) != (d : Int)) = false := by simp
          clear hv4 hb4 hS' hd
          go_wp2_with fail
          refine HKP.out.mono ?_
          rintro e w5 ⟨rfl, hs5, ho5⟩
          have HS5 := Lib.hid hs5
          have hP5 : PlayAt w w5 B g m S' C v4 (.slice Az C.length cz) k := ⟨hs5, HP4.out.from_, HV4.out.outMap HP4.out.st.map ho5, HP4.out.sums.outMap HP4.out.st.map ho5, HP4.out.c32, HP4.out.clen, by have := HKL.out; have := HRL.out; have := HP4.out.slen; omega, HP4.out.below.trans (ho5.below (fun j e => by have := HP4.out.from_; omega) HZ4.out)⟩
          have HP5 := Lib.hid hP5
          have HST5 := Lib.hid (HS4.out.outMap HP4.out.st.map ho5)
          have HZ5 : Hid (B ≤ w5.heap.size) := Lib.hid (Nat.le_trans HZ4.out ho5.size)
          have HKT := Lib.hid (kept_any l lt _ _ w5 (HLT4.out.outMap HP4.out.st.map ho5) HST5.out (by have := HL3.out; omega))
          clear hs5 ho5 hP5
          go_wp2_with fail
          refine HKT.out.mono ?_
          rintro e w6 ⟨rfl, hb6⟩
          have HP6 := Lib.hid (HP5.out.of_below hb6 HZ5.out)
          have HT6 := Lib.hid (sttells_any g m S' v4 l _ w6 HP6.out.st HP6.out.all (HST5.out.below hb6) (by have := HKL.out; have := HRL.out; have := HKS.out; omega) (by have := HL3.out; omega) HSH.out)
          have HZ6 : Hid (B ≤ w6.heap.size) := Lib.hid (Nat.le_trans HZ5.out hb6.size)
          clear hb6 hdd
          go_wp2_with fail
          refine HT6.out.mono ?_
          rintro e w7 ⟨rfl, hb7⟩
          have HP7 := Lib.hid ((HP6.out.of_below hb7 HZ6.out).more (Nat.le_succ k))
          clear hb7
          go_wp2
          exact ⟨⟨_, _, k + 1, _, _, _, _, rfl, rfl, rfl, by go_num, HLT2.out, HKB.out, HP7.out⟩, by have := HLT2.out; simp [intOf]; omega⟩
        · have hk2' : (kd == 2) = false := by simpa using hk2
          by_cases hk3 : kd = 3
          · subst hk3
            have HFK := Lib.hid (stfork_any g m S wc HPX.out.st)
            unfold StNewPost at HFK
            go_wp2_with fail
            refine HFK.out.mono ?_
            rintro e w3 ⟨g2, m2, rfl, hg2, hm2, hs3, hb3⟩
            have HS3 := Lib.hid hs3
            have HP3 := Lib.hid (HPX.out.of_below hb3 HBC.out)
            have HST3 := Lib.hid (HST.out.below hb3)
            have HZ3 : Hid (B ≤ w3.heap.size) := Lib.hid (Nat.le_trans HBC.out hb3.size)
            have HNE : Hid (m2 ≠ m) := Lib.hid (by have := HPX.out.st.mlt; omega)
            have HM2 : Hid (B ≤ m2) := Lib.hid (by have := HBC.out; omega)
            have hT3 : Tab w3 := HT.out.below (by rw [HBS.out]; exact HP3.out.below)
            have HPU := Lib.hid (stput_any g m S [97, 110, 32, 111, 108, 100, 32, 115, 116, 111, 114, 101, 32, 116, 104, 97, 116, 32, 103, 111, 101, 115, 32, 111, 110] w3 HP3.out.st hT3 (by simp))
            unfold StPutPost at HPU
            obtain ⟨y, hy⟩ : ∃ y, Sto.sumOf [97, 110, 32, 111, 108, 100, 32, 115, 116, 111, 114, 101, 32, 116, 104, 97, 116, 32, 103, 111, 101, 115, 32, 111, 110] = y := ⟨_, rfl⟩
            rw [hy] at HPU
            have HSL := Lib.hid (Sto.put_len S y [97, 110, 32, 111, 108, 100, 32, 115, 116, 111, 114, 101, 32, 116, 104, 97, 116, 32, 103, 111, 101, 115, 32, 111, 110])
            clear hg2 hm2 hs3 hb3 hT3 hy n0 n1 n2 n3
            go_wp2_with fail
            refine HPU.out.mono ?_
            rintro e w4 ⟨rfl, hs4, ho4⟩
            have HS4 := Lib.hid hs4
            have HW4 := Lib.hid (HS3.out.outMap HP3.out.st HNE.out ho4)
            have HA4 := Lib.hid (HP3.out.all.outMap HP3.out.st.map ho4)
            have HQ4 := Lib.hid (HP3.out.sums.outMap HP3.out.st.map ho4)
            have HST4 := Lib.hid (HST3.out.outMap HP3.out.st.map ho4)
            have HZ4 : Hid (B ≤ w4.heap.size) := Lib.hid (Nat.le_trans HZ3.out ho4.size)
            have HB4 : Hid (Below B w w4) := Lib.hid (HP3.out.below.trans (ho4.below (fun j e => by have := HP3.out.from_; omega) HZ3.out))
            have HKP := Lib.hid (stkeep_any g m _ [] (.slice none 0 0) w4 HS4.out ⟨none, 0, rfl, fun i hi => (by cases hi)⟩ (by have := HSL.out; have := HKS.out; omega) (by simp) (fun x hx => (by cases hx)))
            unfold StKeepPost at HKP
            clear hs4 ho4
            go_wp2_with fail
            refine HKP.out.mono ?_
            rintro e w5 ⟨rfl, hs5, ho5⟩
            have hP5 : PlayAt w w5 B g2 m2 S C va (.slice Az C.length cz) k := ⟨HW4.out.outMap HS4.out HNE.out ho5, HM2.out, HA4.out.outMap HS4.out.map ho5, HQ4.out.outMap HS4.out.map ho5, HP3.out.c32, HP3.out.clen, HP3.out.slen, HB4.out.trans (ho5.below (fun j e => by have := HP3.out.from_; omega) HZ4.out)⟩
            have HP5 := Lib.hid hP5
            have HST5 := Lib.hid (HST4.out.outMap HS4.out.map ho5)
            have HZ5 : Hid (B ≤ w5.heap.size) := Lib.hid (Nat.le_trans HZ4.out ho5.size)
            have HT6 := Lib.hid (sttells_any g2 m2 S va l _ w5 HP5.out.st HP5.out.all HST5.out (by have := HKS.out; omega) (by have := HL3.out; omega) HSH.out)
            clear hs5 ho5 hP5
            go_wp2_with fail
            refine HT6.out.mono ?_
            rintro e w7 ⟨rfl, hb7⟩
            have HP7 := Lib.hid ((HP5.out.of_below hb7 HZ5.out).more (Nat.le_succ k))
            clear hb7
            go_wp2
            exact ⟨⟨_, _, k + 1, _, _, _, _, rfl, rfl, rfl, by go_num, HLT2.out, HKB.out, HP7.out⟩, by have := HLT2.out; simp [intOf]; omega⟩
          · have hk3' : (kd == 3) = false := by simpa using hk3
            have HTX := Lib.hid (text_any' ⟨kd, tx, a, b⟩ C _ wc HPX.out.sums.strs (by have := HPX.out.clen; have := HKB.out; omega) (fun x hx => by have := HPX.out.c32 x hx; omega))
            have HTL := Lib.hid (Sto.textP_len ⟨kd, tx, a, b⟩ C (fun x hx => by have := HPX.out.c32 x hx; omega))
            obtain ⟨X, hX⟩ : ∃ X, Sto.textP ⟨kd, tx, a, b⟩ C = X := ⟨_, rfl⟩
            rw [hX] at HTX HTL
            unfold actcl at HTX
            dsimp only at HTX
            clear hX hk2 hk3
            go_wp2_with fail
            refine HTX.out.mono ?_
            rintro e w3 ⟨rfl, hb3⟩
            have HP3 := Lib.hid (HPX.out.of_below hb3 HBC.out)
            have HST3 := Lib.hid (HST.out.below hb3)
            have HZ3 : Hid (B ≤ w3.heap.size) := Lib.hid (Nat.le_trans HBC.out hb3.size)
            have HRP := Lib.hid (rstPut_any S va X w3 HP3.out.all (by have := HKS.out; omega) HP3.out.st.rise (by have := HTL.out; omega))
            unfold RStPutPost at HRP
            have HSU := Lib.hid (fun w' (h : StoreAt w' g m S) (hT : Tab w') => stput_any g m S X w' h hT (by have := HTL.out; omega))
            unfold StPutPost at HSU
            have HX32 := Lib.hid (Sto.sumOf_len X)
            obtain ⟨x, hx⟩ : ∃ x, Sto.sumOf X = x := ⟨_, rfl⟩
            rw [hx] at HRP HSU HX32
            have HSL := Lib.hid (Sto.put_len S x X)
            clear hb3 hx n0 n1 n2 n3
            go_wp2_with fail
            refine HRP.out.mono ?_
            rintro e w4 ⟨v4, rfl, hv4, hb4⟩
            have HP4 := Lib.hid (HP3.out.of_below hb4 HZ3.out)
            have HV4 := Lib.hid hv4
            have HST4 := Lib.hid (HST3.out.below hb4)
            have HZ4 : Hid (B ≤ w4.heap.size) := Lib.hid (Nat.le_trans HZ3.out hb4.size)
            have HCL := Lib.hid HP4.out.clen
            clear hv4 hb4
            go_upto_region 17 with (at_builtin; refine wpList_append_lies _ rfl _ _ _ rfl B 9 i0 (.string ⟨#[]⟩) 1 16 Tryz.underlying26 hi hz0 hz1 hz2 rfl (by decide) (.slice Az C.length cz) C.length (scells C) (by rfl) (World.ownsRow.alloc HP4.out.sums _) ⟨w4.heap.size, 0, none⟩ 1 1 (scells [x]) (by rfl) rfl (World.news_of_block (heap_new_at _ _ _ rfl)) (by simp [scells, Value.oneCell']) (by decide) (by have := HCL.out; have := HKB.out; unfold maxLen; omega) (by have := HCL.out; have := HKB.out; omega) (by have := HZ4.out; simp; omega) (w4.heap.size + 1) (by simp) ?_; intro g' cap' w5 hown5 hgrow5 hat5 hlt5)
            have ha : Below w4.heap.size w4 (w4.alloc (.cells #[.string ⟨x.toArray⟩] 9)) := (Below.refl _ w4).alloc (Nat.le_refl _) _
            have hPa := HP4.out.of_below ha HZ4.out
            have hOg : Out (fun j => Value.ownBlock (.slice Az C.length cz) = some j) (w4.alloc (.cells #[.string ⟨x.toArray⟩] 9)) w5 := Out.grown hgrow5 (fun j e => e)
            have hV5 : StL w5 v4 (Sto.put S x X) := (HV4.out.below ha).outRow hPa.sums hOg
            have hS5 : StoreAt w5 g m S := hPa.st.out hOg (fun e => by
              rcases hPa.sums.2 with ⟨e1, _⟩ | ⟨g1, c1, cur, e1, _, hh, _⟩
              · rw [e1] at e; simp [Value.ownBlock] at e
              · rw [e1] at e
                have e2 : g1 = g := by simpa [Value.ownBlock] using e
                subst e2
                have := hPa.st.head
                rw [hh] at this
                simp at this) (fun e => by
              rcases hPa.sums.2 with ⟨e1, _⟩ | ⟨g1, c1, cur, e1, _, hh, _⟩
              · rw [e1] at e; simp [Value.ownBlock] at e
              · rw [e1] at e
                have e2 : g1 = m := by simpa [Value.ownBlock] using e
                subst e2
                exact hPa.st.map.no_cells _ _ _ _ rfl hh)
            have hO5 : Own w5 B (.slice (some ⟨g', 0, none⟩) (C.length + 1) cap') (C ++ [x]) := by
              unfold Own
              rw [scells_append, List.length_append]
              exact hown5
            have hB5 : Below B w w5 := hPa.below.trans (hOg.below (fun j hj => (hPa.sums.lt j hj).1) (Nat.le_trans HZ4.out ha.size))
            have HST5 : Hid (Strs w5 (.slice Al l.length cl) l) := Lib.hid ((HST4.out.below ha).outRow (fun j hj e => by
              have h1 := HNB.out j hj
              have h2 := (HP.out.sums.lt j e).2
              omega) hOg)
            have HS5 := Lib.hid hS5
            have HV5 := Lib.hid hV5
            have HO5 := Lib.hid hO5
            have HB5 := Lib.hid hB5
            have HZ5 : Hid (B ≤ w5.heap.size) := Lib.hid (by have := hB5.size; have := HBS.out; omega)
            have HU := Lib.hid (HSU.out w5 hS5 (HT.out.below (by rw [HBS.out]; exact hB5)))
            have hxx : (x != x) = false := by simp
            clear ha hPa hOg hV5 hS5 hO5 hB5 hown5 hgrow5 hat5 hlt5
            go_wp2_with fail
            refine HU.out.mono ?_
            rintro e w6 ⟨rfl, hs6, ho6⟩
            have hP6 : PlayAt w w6 B g m (Sto.put S x X) (C ++ [x]) v4 (.slice (some ⟨g', 0, none⟩) (C.length + 1) cap') (k + 1) := ⟨hs6, HP.out.from_, HV5.out.outMap HS5.out.map ho6, HO5.out.outMap HS5.out.map ho6, fun y hy => by
              rcases List.mem_append.1 hy with hy | hy
              · exact HP.out.c32 y hy
              · obtain rfl : y = x := by simpa using hy
                exact HX32.out, by have := HP.out.clen; simp; omega, by have := HSL.out; have := HP.out.slen; omega, HB5.out.trans (ho6.below (fun j e => by have := HP.out.from_; omega) HZ5.out)⟩
            have HP6 := Lib.hid hP6
            have HST6 := Lib.hid (HST5.out.outMap HS5.out.map ho6)
            have HZ6 : Hid (B ≤ w6.heap.size) := Lib.hid (Nat.le_trans HZ5.out ho6.size)
            have HT6 := Lib.hid (sttells_any g m (Sto.put S x X) v4 l _ w6 hs6 HP6.out.all HST6.out (by have := HSL.out; have := HKS.out; omega) (by have := HL3.out; omega) HSH.out)
            clear hs6 ho6 hP6
            go_wp2_with fail
            refine HT6.out.mono ?_
            rintro e w7 ⟨rfl, hb7⟩
            have HP7 := Lib.hid (HP6.out.of_below hb7 HZ6.out)
            clear hb7 hxx
            go_wp2
            exact ⟨⟨_, _, k + 1, _, _, _, _, rfl, rfl, rfl, by go_num, HLT2.out, HKB.out, HP7.out⟩, by have := HLT2.out; simp [intOf]; omega⟩
    · have HEND : Hid (Tab wr ∧ Below w.heap.size w wr) := Lib.hid ⟨HT.out.below (by rw [HBS.out]; exact hp.below), by rw [HBS.out]; exact hp.below⟩
      clear hp
      by_cases hkl : k < L.length
      · have h1 : (k : Int) < (L.length : Int) := by omega
        have h2 : ¬ ((k : Int) < 30) := by omega
        clear hlt hkl
        go_wp2_with fail
        refine (stworks_any _ HEND.out.1).mono ?_
        rintro e w2 ⟨rfl, hb2⟩
        go_wp2
        go_ret
        exact ⟨rfl, bchain HEND.out.2 hb2⟩
      · have h1 : ¬ ((k : Int) < (L.length : Int)) := by omega
        clear hlt hkl
        go_wp2_with fail
        refine (stworks_any _ HEND.out.1).mono ?_
        rintro e w2 ⟨rfl, hb2⟩
        go_wp2
        go_ret
        exact ⟨rfl, bchain HEND.out.2 hb2⟩
end Go.Proofs.YtgbcilokeiengaaGreatDoor
