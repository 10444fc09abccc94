/- VersStaysWalk, VersStaysDone -/
import Derived.Test.YtjfefphgikncnaaGreatDoorPk22
import Derived.Test.YtjfefphgikncnaaGreatDoorPk17
import Derived.Test.YtjfefphgikncnaaGreatDoorPk23
namespace Go.Proofs.YtjfefphgikncnaaGreatDoor
open Go.RowKit
open Sto (T St)

/-- What the law knows behind i acts. -/
structure SP (i : Nat) (m : Ver.M) (C : List T) (fine : Bool) : Prop where
  size : m.Sz i
  few : C.length ≤ 400 * i
  short : ∀ x ∈ C, x.length ≤ 999
  has : m.Has C
  fine : fine = true ∨ Clash C
theorem SP.tell {i : Nat} {m : Ver.M} {C : List T} {f f' : Bool} (h : SP i m C f) (hf : f' = true ∨ Clash C) : SP i m C f' := ⟨h.size, h.few, h.short, h.has, hf⟩
theorem SP.prune {i : Nat} {m : Ver.M} {C : List T} {f : Bool} (h : SP i m C f) (g : m.Good) (b : Int) : SP (i + 1) (m.prune b) C f := ⟨(h.size.prune b).more (by omega), by have := h.few; omega, h.short, h.has.prune g b, h.fine⟩
theorem SP.same {i : Nat} {m : Ver.M} {C : List T} {f : Bool} (h : SP i m C f) {x : Int} {D : St} (hc : m.comC x D ≠ 0) : SP (i + 1) (m.com x D) C f := by
  have e : m.com x D = m := by unfold Ver.M.com; rw [if_neg hc]
  rw [e]
  exact ⟨h.size.more (by omega), by have := h.few; omega, h.short, h.has, h.fine⟩
theorem SP.com {i : Nat} {m : Ver.M} {C : List T} {f : Bool} (h : SP i m C f) (g : m.Good) (hi : i + 1 ≤ 13) {x : Int} {D : St} (hD : D.length ≤ 10) (hc : m.comC x D = 0) : SP (i + 1) (m.com x D) (C ++ nodesS (Ver.chsS m.top D)) f := by
  obtain ⟨t, ht⟩ := Ver.chsS_good D g.top (Ver.M.comC_zero hc).2.2.2.2
  have h1 := Ver.nodes_three ht
  have h2 := Ver.chsS_len D m.top
  have h3 := h.size.top
  have h4 := h.few
  refine ⟨h.size.com g hi x hD, by rw [List.length_append]; omega, fun y hy => ?_, h.has.com hc, h.fine.imp id (Ver.clash_more _)⟩
  rcases List.mem_append.1 hy with hy | hy
  · exact h.short y hy
  · exact nodesS_short ht y hy
theorem com_vs {m : Ver.M} {x : Int} {D : St} (hc : m.comC x D = 0) : (m.com x D).vs = m.vs ++ [(x, Ver.chsS m.top D)] := by
  unfold Ver.M.com
  rw [if_pos hc]
/-- What At's trie and the law's own have in common. -/
theorem fine_next {m : Ver.M} {C : List T} (h : m.Has C) (g : m.Good) {x : Int × St} (hx : x ∈ m.vs) {S : St} {t : Tri.Tr} (h1 : TrS S t) (h2 : t.sum Nd.sumS = rootS x.2) (h3 : t.inS m.st) : decide (S = x.2) = true ∨ Clash C := by
  by_cases hn : Clash C
  · exact Or.inr hn
  · exact Or.inl (decide_eq_true (h.load g hn hx h1 h2 h3))
theorem fine_lost {m : Ver.M} {C : List T} (h : m.Has C) (g : m.Good) {x : Int × St} (hx : x ∈ m.vs) (hb : ∀ S t, TrS S t → t.inS m.st → t.sum Nd.sumS = rootS x.2 → False) : Clash C :=
  Classical.byContradiction fun hn => by
    obtain ⟨S, t, h1, h2, h3⟩ := h.loads g hn hx
    exact hb S t h1 h2 h3

set_option maxRecDepth 100000 in
set_option maxHeartbeats 8000000 in
theorem versStays_walk {VAt : World → (Nat → Prop) → Nat → Ver.M → Prop} (HV : VerOk VAt) (v : Value) (L : List Ver.Act) (w : World) (hv : VActs w v L) (hT : Tab w) :
    Calls Tryz.prog 3 #[v] w fun e w' => e = .returned (.bool true) ∧ Below w.heap.size w w' := by
  have HWK := Lib.hid (vworks_any HV.toVerOkL w hT)
  have HTT := Lib.hid hT
  have HVV := Lib.hid hv
  have HVO := Lib.hid HV
  obtain ⟨A, cap, rfl⟩ := hv.form
  clear hv hT HV
  go_enter Tryz.func3, Tryz.ntmps3
  go_wp2_with fail
  refine HWK.out.mono ?_
  rintro e w1 ⟨rfl, hb1⟩
  have HB1 := Lib.hid hb1
  clear hb1
  go_wp2_with fail
  have HLO := Lib.hid (vlong_any L _ w1 (HVV.out.below HB1.out))
  unfold LongPost at HLO
  refine HLO.out.mono ?_
  rintro e w1' ⟨lb, rfl, rfl, hfit⟩
  cases lb with
  | true =>
    go_wp2
    go_ret
    exact ⟨rfl, HB1.out⟩
  | false =>
  have HFT := Lib.hid (hfit rfl)
  clear hfit
  go_wp2_with fail
  refine (HVO.out.new w1 (HTT.out.below HB1.out)).mono ?_
  rintro e w2 ⟨g, F2, rfl, hv2, hF2, hb2⟩
  have HB2 := Lib.hid hb2
  have HV2 := Lib.hid hv2
  have HF2 := Lib.hid hF2
  clear hv2 hF2 hb2
  have hmm := @run_makeMap Tryz.prog
  have HA3 : Hid (Below w2.heap.size w2 (w2.alloc (.map #[] 0))) := Lib.hid ((Below.refl _ w2).alloc (Nat.le_refl _) _)
  unfold ptr
  go_wp2_with fail
  refine (tnew_any (w2.alloc (.map #[] 0))).mono ?_
  rintro e w3 ⟨gn, rfl, tn, -, hb3⟩
  have HC1 : Hid (0 < w1.heap.size) := Lib.hid (HTT.out.below HB1.out).pos
  have HINIT : Hid (∃ F, SM VAt w1.heap.size g w3 .zero F gn w2.heap.size (.slice none 0 0) [] [] [] ∧ SP 0 .zero [] true ∧ Below w1.heap.size w1 w3) := Lib.hid (by
    have hb := HA3.out
    have hv3 := HVO.out.keep (HVO.out.keep HV2.out hb) hb3
    refine ⟨F2, ⟨hv3, HF2.out, (((HTT.out.below HB1.out).below HB2.out).below hb).below hb3, (WasAt.made w2 _ rfl).below hb3, fun e => ?_, HB2.out.size, tn, Own.nil _ _, fun k hk => (by cases hk)⟩, ⟨Ver.M.Sz.zero, by simp, fun x hx => (by cases hx), Ver.M.Has.zero, Or.inl rfl⟩, HB2.out.trans ((hb.trans (hb3.mono (by simp))).mono HB2.out.size)⟩
    have := HVO.out.old HV2.out _ e
    omega)
  clear hb3 tn
  unfold ptr
  go_wp2
  go_loopw [5, 6, 7, 32] (fun tv nv fv iv wr => ∃ (i : Nat) (m : Ver.M) (F : Nat → Prop) (gn' : Nat) (C : List T) (fb : Bool), nv = .pointer (some ⟨gn', 0, none⟩) ∧ fv = .bool fb ∧ iv = .int .i64 i ∧ i ≤ L.length ∧ SM VAt w1.heap.size g wr m F gn' w2.heap.size tv C m.vs m.top ∧ SP i m C fb ∧ Below w1.heap.size w1 wr) (fun _ _ _ i _ => L.length - (intOf i).toNat)
  case atStart =>
    obtain ⟨F, h1, h2, h3⟩ := HINIT.out
    exact ⟨0, _, F, gn, [], true, rfl, rfl, rfl, Nat.zero_le _, h1, h2, h3⟩
  case round =>
    obtain ⟨i, m, F, gn', C, fb, rfl, rfl, rfl, hi, hsm, hsp, hbr⟩ := hrel
    have HSM := Lib.hid hsm
    have HSP := Lib.hid hsp
    have HBR := Lib.hid hbr
    have h10 := HFT.out.1
    clear hsm hsp hbr
    by_cases hlt : i < L.length
    · have g1 : (i : Int) < (L.length : Int) := by omega
      have g0 : (0 : Int) ≤ (i : Int) := by omega
      have g2 : (i : Int) ≤ 100000 := by omega
      have hvr := HVV.out.below HB1.out
      obtain ⟨bb, o, z, rfl, p0, p1, p2, pz⟩ := hvr.at i hlt
      have HZW := Lib.hid (fun w' (h : Below w1.heap.size w1 w') => pz.below h)
      have n0 := (HBR.out.cell (block_lt_of_cell p0)).trans p0
      have n1 := (HBR.out.cell (block_lt_of_cell p1)).trans p1
      have n2 := (HBR.out.cell (block_lt_of_cell p2)).trans p2
      have hz := pz.below HBR.out
      clear p0 p1 p2 pz
      have HD := Lib.hid (HFT.out.2 L[i] (List.getElem_mem hlt))
      obtain ⟨D, hD⟩ : ∃ D, L[i].chg = D := ⟨_, rfl⟩
      obtain ⟨kd, hkd⟩ : ∃ x, L[i].kind = x := ⟨_, rfl⟩
      obtain ⟨ht, hht⟩ : ∃ x, L[i].height = x := ⟨_, rfl⟩
      rw [hD] at hz HD HZW
      rw [hkd] at n0
      rw [hht] at n1
      have HA : Hid (Below wr.heap.size wr (wr.alloc (.cells #[.int .i64 kd, .int .i64 ht, z] 33))) := Lib.hid ((Below.refl _ wr).alloc (Nat.le_refl _) _)
      have HSA := Lib.hid (HSM.out.below HVO.out.toVerOkL HA.out)
      have HBA : Hid (Below w1.heap.size w1 (wr.alloc (.cells #[.int .i64 kd, .int .i64 ht, z] 33))) := Lib.hid (HBR.out.trans (HA.out.mono HBR.out.size))
      have HZA := Lib.hid (hz.below HA.out)
      obtain ⟨A2, cap2, rfl⟩ := hz.form
      have HLT := Lib.hid hlt
      have HI10 : Hid (i < 10) := Lib.hid (by omega)
      have HGD := Lib.hid (HVO.out.good HSA.out.at_)
      have HMS : Hid (m.vs.length ≤ 10 ∧ m.st.length ≤ 4000) := Lib.hid ⟨by have := HSP.out.size.vs; omega, by have := HSP.out.size.st; omega⟩
      clear hvr hz hD hkd hht hlt h10
      have HOLD : Hid (∀ k, F k → k < wr.heap.size) := Lib.hid (HVO.out.old HSM.out.at_)
      have HACT : Hid (∀ w', Out F (wr.alloc (.cells #[.int .i64 kd, .int .i64 ht, .slice A2 D.length cap2] 33)) w' → w'.cell? ⟨wr.heap.size, 0, none⟩ = some (.int .i64 kd) ∧ w'.cell? ⟨wr.heap.size, 1, none⟩ = some (.int .i64 ht) ∧ w'.cell? ⟨wr.heap.size, 2, none⟩ = some (.slice A2 D.length cap2)) := Lib.hid (fun w' ho => by
        have ra := ho.heap (heap_alloc_new wr (.cells #[.int .i64 kd, .int .i64 ht, .slice A2 D.length cap2] 33)) (fun e => Nat.lt_irrefl _ (HOLD.out _ e))
        exact ⟨by rw [cell_of_row _ _ 0 _ _ _ ra]; rfl, by rw [cell_of_row _ _ 1 _ _ _ ra]; rfl, by rw [cell_of_row _ _ 2 _ _ _ ra]; rfl⟩)
      go_upto_if 38 with fail
      go_cut [5, 6, 10, 11, 13, 14, 15, 38] from 39 to 90 (fun tv nv _ _ _ _ _ _ wx => ∃ (n : Ver.M) (F' : Nat → Prop) (gx : Nat) (E : List T), nv = .pointer (some ⟨gx, 0, none⟩) ∧ SM VAt w1.heap.size g wx n F' gx w2.heap.size tv E n.vs n.top ∧ SP (i + 1) n E fb ∧ Below w1.heap.size w1 wx)
      case first =>
        by_cases hk1 : kd = 1
        · have q1 : (kd == 1) = true := beq_iff_eq.2 hk1
          have HPR := Lib.hid (HVO.out.prune ht HSA.out.at_ HSA.out.tab (by have := HMS.out.1; omega) (by have := HMS.out.2; omega))
          unfold ptr at HPR
          clear hk1
          go_wp2_with fail
          refine HPR.out.mono ?_
          rintro e w5 ⟨rfl, hn⟩
          obtain ⟨F', hs, hb⟩ := HSA.out.step HVO.out.toVerOkL hn HBA.out.size
          have HS5 : Hid (SM VAt w1.heap.size g w5 (m.prune ht) F' gn' w2.heap.size u5 C (m.prune ht).vs (m.prune ht).top) := Lib.hid (by
            rw [Ver.top_prune]
            exact hs.vers (fun x hx => (Ver.upto_sub _ _).subset hx))
          have HP5 := Lib.hid (HSP.out.prune HGD.out ht)
          have HB5 := Lib.hid (HBA.out.trans hb)
          clear hn hs hb
          go_wp2_with fail
          go_meet
          case rel => exact ⟨_, F', gn', C, rfl, HS5.out, HP5.out, HB5.out⟩
        · have q1 : (kd == 1) = false := beq_eq_false_iff_ne.2 hk1
          have HCM := Lib.hid (HVO.out.commit ht (.slice A2 D.length cap2) D HSA.out.at_ HSA.out.tab HZA.out (by have := HD.out.1; omega) (fun x hx => by have := HD.out.2 x hx; omega) (by have := HMS.out.1; omega) (by have := HMS.out.2; omega))
          unfold ptr at HCM
          go_wp2_with fail
          refine HCM.out.mono ?_
          rintro e w5 ⟨rfl, hn⟩
          obtain ⟨F', hs, hb⟩ := HSA.out.step HVO.out.toVerOkL hn HBA.out.size
          have HS5 := Lib.hid hs
          have HB5 := Lib.hid (HBA.out.trans hb)
          have HG5 : Hid ((m.com ht D).Good) := Lib.hid (HVO.out.good hs.at_)
          have HAC : Hid (∀ w', Below w5.heap.size w5 w' → w'.cell? ⟨wr.heap.size, 0, none⟩ = some (.int .i64 kd) ∧ w'.cell? ⟨wr.heap.size, 1, none⟩ = some (.int .i64 ht) ∧ w'.cell? ⟨wr.heap.size, 2, none⟩ = some (.slice A2 D.length cap2)) := Lib.hid (by
            obtain ⟨_, _, ho, _, _⟩ := hn
            intro w' h'
            exact HACT.out w' (ho.trans (Out.of h')))
          have HCZ := Lib.hid (@Ver.M.comC_zero m ht D)
          have HSZ := Lib.hid (HSP.out.com HGD.out (by have := HI10.out; omega) (x := ht) HD.out.1)
          have HSS := Lib.hid (HSP.out.same (x := ht) (D := D))
          have HVS := Lib.hid (@com_vs m ht D)
          have HTC := Lib.hid (@Ver.top_com m ht D)
          have HNO : Hid (m.comC ht D ≠ 0 → m.com ht D = m) := Lib.hid (fun h => by unfold Ver.M.com; rw [if_neg h])
          have HCT := Lib.hid (fun k (hk : k < D.length) (h0 : m.comC ht D = 0) => Ver.chsC_take m.top D k hk (Ver.M.comC_zero h0).2.2.2.2)
          obtain ⟨c, hc⟩ : ∃ c, m.comC ht D = c := ⟨_, rfl⟩
          rw [hc] at HCZ HSZ HSS HVS HTC HNO HCT ⊢
          clear hn hs hb hc hk1
          by_cases hk0 : kd = 0
          · have q2 : (kd == 0) = true := beq_iff_eq.2 hk0
            have q3 : (kd != 0) = false := by rw [hk0]; rfl
            by_cases hc0 : c = 0
            · have q4 : ((c : Int) == 0) = true := by rw [hc0]; rfl
              obtain ⟨c0, c1, c2⟩ := HAC.out w5 (Below.refl _ _)
              have HC0 := Lib.hid hc0
              clear hk0 hc0
              have HSE : Hid (SM VAt w1.heap.size g w5 (m.com ht D) F' gn' w2.heap.size u5 C m.vs (Ver.chsS m.top (D.take 0))) := Lib.hid (by
                rw [List.take_zero]
                exact HS5.out)
              go_wp2
              obtain ⟨wo, rfl⟩ : ∃ y, y = wr := ⟨_, rfl⟩
              go_loopw [6, 62] (fun nv kv wr => ∃ (k gx : Nat), nv = .pointer (some ⟨gx, 0, none⟩) ∧ kv = .int .i64 k ∧ k ≤ D.length ∧ SM VAt w1.heap.size g wr (m.com ht D) F' gx w2.heap.size u5 C m.vs (Ver.chsS m.top (D.take k)) ∧ Below w5.heap.size w5 wr) (fun _ k _ => D.length - (intOf k).toNat)
              case atStart => exact ⟨0, gn', rfl, rfl, Nat.zero_le _, HSE.out, Below.refl _ _⟩
              case round =>
                obtain ⟨k, gx, rfl, rfl, hk, hsk, hbk⟩ := hrel
                have HSK := Lib.hid hsk
                have HBK := Lib.hid hbk
                have hd10 := HD.out.1
                by_cases hlk : k < D.length
                · have e1 : (k : Int) < (D.length : Int) := by omega
                  have e0 : (0 : Int) ≤ (k : Int) := by omega
                  have e2 : (k : Int) ≤ 100000 := by omega
                  have hzk := HZW.out wr (HB5.out.trans (hbk.mono HB5.out.size))
                  obtain ⟨b2, o2, rfl, m1, m2⟩ := hzk.at k hlk
                  have HCK := Lib.hid (HCT.out k hlk HC0.out)
                  have HTK := Lib.hid (Ver.chsS_take m.top D k hlk)
                  obtain ⟨⟨x, y⟩, hx⟩ : ∃ p, D[k] = p := ⟨_, rfl⟩
                  rw [hx] at m1 m2 HCK HTK
                  dsimp only at m1 m2
                  have HAI : Hid (Below wr.heap.size wr (wr.alloc (.cells #[.string ⟨x.toArray⟩, .string ⟨y.toArray⟩] 39))) := Lib.hid ((Below.refl _ wr).alloc (Nat.le_refl _) _)
                  have HSI := Lib.hid (HSK.out.below HVO.out.toVerOkL HAI.out)
                  have HWI := Lib.hid (vwith_any (x, y) _ HSI.out.now HSI.out.tab)
                  have HGO := Lib.hid (fun (h : withC (Ver.chsS m.top (D.take k)) (x, y) ≠ 0) => withC_go h HCK.out)
                  have HLK := Lib.hid hlk
                  obtain ⟨cw, hcw⟩ : ∃ cw, withC (Ver.chsS m.top (D.take k)) (x, y) = cw := ⟨_, rfl⟩
                  rw [hcw] at HWI HGO
                  dsimp only at HWI
                  clear hsk hbk hzk hx hcw hlk hd10
                  go_wp2_with fail
                  refine HWI.out.mono ?_
                  rintro e w6 ⟨zz, rfl, h1, h2, hb6⟩
                  have HB6 := Lib.hid (HBK.out.trans ((HAI.out.trans (hb6.mono HAI.out.size)).mono HBK.out.size))
                  have HS6 := Lib.hid (HSI.out.below HVO.out.toVerOkL hb6)
                  by_cases hw0 : cw = 0
                  · obtain ⟨g', rfl, t6⟩ := h1 hw0
                    have q5 : ((cw : Int) == 0) = true := by rw [hw0]; rfl
                    have HSN : Hid (SM VAt w1.heap.size g w6 (m.com ht D) F' g' w2.heap.size u5 C m.vs (Ver.chsS m.top (D.take (k + 1)))) := Lib.hid (by
                      rw [HTK.out]
                      exact HS6.out.trie t6)
                    clear h1 h2 hb6 t6 hw0
                    go_wp2
                    go_roundw
                    case rel => exact ⟨k + 1, g', rfl, by go_num, by have := HLK.out; omega, HSN.out, HB6.out⟩
                    case measure => have := HLK.out; simp [intOf]; omega
                  · have q5 : ((cw : Int) == 0) = false := by rw [beq_eq_false_iff_ne]; omega
                    obtain rfl := h2 hw0
                    have HSN : Hid (SM VAt w1.heap.size g w6 (m.com ht D) F' gx w2.heap.size u5 C m.vs (Ver.chsS m.top (D.take (k + 1)))) := Lib.hid (by
                      rw [HTK.out, HGO.out hw0]
                      exact HS6.out)
                    clear h1 h2 hb6 hw0
                    go_wp2
                    go_roundw
                    case rel => exact ⟨k + 1, gx, rfl, by go_num, by have := HLK.out; omega, HSN.out, HB6.out⟩
                    case measure => have := HLK.out; simp [intOf]; omega
                · obtain rfl : k = D.length := by omega
                  have e1 : ¬ ((D.length : Int) < (D.length : Int)) := by omega
                  have HB6 := Lib.hid (HB5.out.trans (hbk.mono HB5.out.size))
                  obtain ⟨k0, k1, k2⟩ := HAC.out wr hbk
                  have HSF : Hid (SM VAt w1.heap.size g wr (m.com ht D) F' gx w2.heap.size u5 C m.vs (m.com ht D).top) := Lib.hid (by
                    have := HSK.out
                    rw [List.take_length] at this
                    rw [HTC.out HC0.out]
                    exact this)
                  obtain ⟨z1, z2, z3, -, -⟩ := HCZ.out HC0.out
                  obtain ⟨w7, hput, s7, b7⟩ := HSF.out.put HVO.out.toVerOkL (wf_height ⟨z1, z2⟩) z3 HB6.out.size
                  have HS7 := Lib.hid s7
                  have HB7 := Lib.hid (HB6.out.trans b7)
                  have HND := Lib.hid (snodes_any w7 s7.now)
                  unfold TextsPost ptr at HND
                  have HPN := HSZ.out HC0.out
                  rw [← HTC.out HC0.out] at HPN
                  have HPF := Lib.hid HPN
                  have HVE : Hid ((m.com ht D).vs = m.vs ++ [(ht, (m.com ht D).top)]) := Lib.hid (by rw [HTC.out HC0.out]; exact HVS.out HC0.out)
                  obtain ⟨n, hn⟩ : ∃ n, m.com ht D = n := ⟨_, rfl⟩
                  rw [hn] at HS7 HND HPF HVE HG5
                  clear s7 b7 z1 z2 z3 hsk hbk HPN hn HSZ HSS HVS HTC HCZ HNO HSF HSE HS5
                  go_wp2_with fail
                  refine HND.out.mono ?_
                  rintro e w8 ⟨dz, rfl, hd8, hb8⟩
                  have HS8 := Lib.hid (HS7.out.below HVO.out.toVerOkL hb8)
                  have HB8 := Lib.hid (HB7.out.trans (hb8.mono HB7.out.size))
                  obtain ⟨tz, w9, happ, s9, b9⟩ := HS8.out.app HVO.out.toVerOkL hd8.strs (by have := HPF.out.few; rw [List.length_append] at this; have := HI10.out; omega) HB8.out.size HC1.out
                  have HS9 : Hid (SM VAt w1.heap.size g w9 n F' gx w2.heap.size tz (C ++ nodesS n.top) n.vs n.top) := Lib.hid (by rw [HVE.out]; exact s9)
                  have HB9 := Lib.hid (HB8.out.trans b9)
                  clear hd8 hb8 s9 b9 hput
                  go_wp2_with (at_builtin; refine wpList_append_run rfl _ _ _ rfl _ _ _ (by rfl) (by rfl) happ ?_)
                  go_meet
                  case rel => exact ⟨n, F', gx, _, rfl, HS9.out, HPF.out, HB9.out⟩
            · have q4 : ((c : Int) == 0) = false := by rw [beq_eq_false_iff_ne]; omega
              obtain ⟨c0, c1, c2⟩ := HAC.out w5 (Below.refl _ _)
              have HC0 := Lib.hid hc0
              clear hk0 hc0
              go_wp2_with fail
              go_meet
              case rel => exact ⟨m, F', gn', C, rfl, by have := HS5.out; rwa [HNO.out HC0.out] at this, by have := HSS.out HC0.out; rwa [HNO.out HC0.out] at this, HB5.out⟩
          · have q2 : (kd == 0) = false := beq_eq_false_iff_ne.2 hk0
            have q3 : (kd != 0) = true := bne_iff_ne.2 hk0
            by_cases hc0 : c = 0
            · have q4 : ((c : Int) == 0) = true := by rw [hc0]; rfl
              obtain ⟨c0, c1, c2⟩ := HAC.out w5 (Below.refl _ _)
              clear hk0 hc0
              go_wp2
              go_ret
              exact ⟨rfl, bchain HB1.out HB5.out⟩
            · have q4 : ((c : Int) == 0) = false := by rw [beq_eq_false_iff_ne]; omega
              obtain ⟨c0, c1, c2⟩ := HAC.out w5 (Below.refl _ _)
              have HC0 := Lib.hid hc0
              clear hk0 hc0
              go_wp2_with fail
              go_meet
              case rel => exact ⟨m, F', gn', C, rfl, by have := HS5.out; rwa [HNO.out HC0.out] at this, by have := HSS.out HC0.out; rwa [HNO.out HC0.out] at this, HB5.out⟩
      case rest =>
        obtain ⟨n, F', gx, E, rfl, hsn, hpn, hbn⟩ := hcut
        obtain ⟨wx, rfl⟩ : ∃ y, y = wc := ⟨_, rfl⟩
        have HSN := Lib.hid hsn
        have HPN := Lib.hid hpn
        have HBN := Lib.hid hbn
        have HVL : Hid (n.vs.length ≤ 11) := Lib.hid (by have := hpn.size.vs; have := HI10.out; omega)
        have HGN : Hid n.Good := Lib.hid (HVO.out.good hsn.at_)
        have HHT := Lib.hid (HVO.out.heights hsn.at_ (by have := HVL.out; omega))
        unfold ptr at HHT
        clear hsn hpn hbn HACT HOLD HSA HBA HZA HZW HSM HSP HGD HMS HA
        go_wp2_with fail
        refine HHT.out.mono ?_
        rintro e wy ⟨hz, rfl, hh, hby⟩
        have HHZ := Lib.hid hh
        have HSY := Lib.hid (HSN.out.below HVO.out.toVerOkL hby)
        have HBY := Lib.hid (HBN.out.trans (hby.mono HBN.out.size))
        obtain ⟨AH, capH, rfl⟩ := hh.form
        have hl1 : (n.vs.map (·.1)).length = n.vs.length := List.length_map ..
        have HL1 := Lib.hid hl1
        rw [hl1] at HHZ
        clear hh hby hl1
        simp only [List.length_map]
        go_wp2
        go_loopw [7, 94] (fun fv jv wr => ∃ (j : Nat) (f' : Bool), fv = .bool f' ∧ jv = .int .i64 j ∧ j ≤ n.vs.length ∧ (f' = true ∨ Clash E) ∧ Below wy.heap.size wy wr) (fun _ j _ => n.vs.length - (intOf j).toNat)
        case atStart => exact ⟨0, fb, rfl, by simp, Nat.zero_le _, HPN.out.fine, Below.refl _ _⟩
        case round =>
          obtain ⟨j, f', rfl, rfl, hj, hfj, hbj⟩ := hrel
          have HFJ := Lib.hid hfj
          have HBJ := Lib.hid hbj
          have hv11 := HVL.out
          have g3 : (0 : Int) ≤ (j : Int) := by omega
          have g4 : (j : Int) ≤ 100000 := by omega
          by_cases hlj : j < n.vs.length
          · have g5 : (j : Int) < (n.vs.length : Int) := by omega
            obtain ⟨b3, o3, rfl, n3⟩ : ∃ b3 o3, AH = some ⟨b3, o3, none⟩ ∧ wr.cell? ⟨b3, o3 + j, none⟩ = some (.int .i64 n.vs[j].1) := by
              obtain ⟨b3, o3, e, -, -, q⟩ := (HHZ.out.below hbj).at j (by rw [HL1.out]; exact hlj)
              rw [height_at n j hlj] at q
              exact ⟨b3, o3, e, q⟩
            have hXm : n.vs[j] ∈ n.vs := List.getElem_mem hlj
            obtain ⟨X, hX⟩ : ∃ X, n.vs[j] = X := ⟨_, rfl⟩
            rw [hX] at n3 hXm
            have HXM := Lib.hid hXm
            have HSW := Lib.hid (HSY.out.below HVO.out.toVerOkL hbj)
            have HAT := Lib.hid (HVO.out.at_ X.1 (HGN.out.fit X hXm).1 (wf_height (HGN.out.fit X hXm)) HSW.out.at_)
            unfold AtPost at HAT
            rw [Ver.M.find_of HGN.out hXm] at HAT
            dsimp only at HAT
            unfold LoadPost ptr nilp at HAT
            have hfc : n.findC X.1 = 0 := by unfold Ver.M.findC; rw [Ver.M.find_of HGN.out hXm]; rfl
            have hfr : n.findR X.1 = rootS X.2 := by unfold Ver.M.findR; rw [Ver.M.find_of HGN.out hXm]
            have HRT : Hid (∀ w', Below wr.heap.size wr w' → Calls Tryz.prog 19 #[.pointer (some ⟨g, 0, none⟩), .int .i64 X.1] w' fun e w'' => e = .returned (.tuple #[.string ⟨(rootS X.2).toArray⟩, .int .i64 0]) ∧ Below w'.heap.size w' w'') := Lib.hid (fun w' h => (HVO.out.root X.1 (HGN.out.fit X hXm).1 (wf_height (HGN.out.fit X hXm)) (HVO.out.keep HSW.out.at_ h)).mono fun e w'' ⟨e1, e2⟩ => ⟨by rw [e1, hfc, hfr]; rfl, e2⟩)
            have HWL := Lib.hid (fun w' (h : Below wr.heap.size wr w') => (HSW.out.was.below h).look hXm (wf_height (HGN.out.fit X hXm)))
            have HFI := Lib.hid (fun S t h1 h2 h3 => fine_next HPN.out.has HGN.out hXm (S := S) (t := t) h1 h2 h3)
            have HFL := Lib.hid (fun hb => fine_lost HPN.out.has HGN.out hXm hb)
            obtain ⟨R, hR⟩ : ∃ R, rootS X.2 = R := ⟨_, rfl⟩
            have HRO : Hid (∀ gq w', TrAt w' gq X.2 → Calls Tryz.prog 20 #[.pointer (some ⟨gq, 0, none⟩)] w' fun e w'' => e = .returned (.string ⟨R.toArray⟩) ∧ Below w'.heap.size w' w'') := Lib.hid (fun gq w' h => by
              have := sroot_any w' h
              rw [hR] at this
              exact this)
            rw [hR] at HAT HRT HFI HFL
            have r1 : (R == R) = true := beq_self_eq_true _
            have r2 : (R != R) = false := by simp
            have HLJ := Lib.hid hlj
            clear hX hXm hfc hfr hR hlj hbj hfj hv11
            go_wp2_with fail
            refine HAT.out.mono ?_
            rintro e w6 ⟨z, c, rfl, hb6, hcase⟩
            have HB6 := Lib.hid hb6
            have HCS : Hid ((c = 0 ∧ ∃ gt S, z = .pointer (some ⟨gt, 0, none⟩) ∧ TrAt w6 gt S ∧ (decide (S = X.2) = true ∨ Clash E)) ∨ (c ≠ 0 ∧ z = .pointer none ∧ Clash E)) := Lib.hid (by
              rcases hcase with ⟨h0, gt, S, t, h1, h2, h3, h4, h5⟩ | ⟨h0, h1, h2⟩
              · exact Or.inl ⟨h0, gt, S, h1, h2, HFI.out S t h3 h4 h5⟩
              · exact Or.inr ⟨h0, h1, HFL.out h2⟩)
            clear hb6 hcase n3
            go_wp2_with fail
            refine (HRT.out w6 HB6.out).mono ?_
            rintro e w7 ⟨rfl, hb7⟩
            have HB7 := Lib.hid (bchain HB6.out hb7)
            obtain ⟨gq, hlook, tq⟩ := HWL.out w7 HB7.out
            have HTQ := Lib.hid tq
            have HK7 := Lib.hid hb7
            clear hb7 tq
            go_wp2_with fail
            refine (HRO.out gq w7 HTQ.out).mono ?_
            rintro e w8 ⟨rfl, hb8⟩
            have HB8 := Lib.hid (bchain HB7.out hb8)
            have HBW : Hid (Below wy.heap.size wy w8) := Lib.hid (bchain HBJ.out HB8.out)
            have HT8 := Lib.hid (HTQ.out.below hb8)
            have H68 : Hid (Below w6.heap.size w6 w8) := Lib.hid (bchain HK7.out hb8)
            clear hb8 hlook
            cases f' with
            | false =>
              go_wp2
              go_roundw
              case rel => exact ⟨j + 1, false, rfl, by go_num, by have := HLJ.out; omega, HFJ.out, HBW.out⟩
              case measure => have := HLJ.out; simp [intOf]; omega
            | true =>
              rcases HCS.out with ⟨rfl, gt, S, rfl, tt, hS⟩ | ⟨hc0, rfl, hcl⟩
              · have HSX := Lib.hid hS
                have HTS := Lib.hid (tt.below H68.out)
                have HI1 := Lib.hid (sitems_any w8 HTS.out)
                unfold ItemsPost ptr at HI1
                have HSL := Lib.hid tt.few
                have HXL := Lib.hid HT8.out.few
                clear tt hS
                go_wp2_with fail
                refine HI1.out.mono ?_
                rintro e w9 ⟨za, rfl, ha, hb9⟩
                have HAA := Lib.hid ha
                have HB9 := Lib.hid (bchain HBW.out hb9)
                have HI2 := Lib.hid (sitems_any w9 (HT8.out.below hb9))
                unfold ItemsPost ptr at HI2
                clear ha hb9
                go_wp2_with fail
                refine HI2.out.mono ?_
                rintro e w10 ⟨zb, rfl, hb, hb10⟩
                have HAB := Lib.hid (HAA.out.below hb10)
                have HBB := Lib.hid hb
                have HB10 := Lib.hid (bchain HB9.out hb10)
                clear hb hb10
                go_wp2_with fail
                refine (sameI_any S X.2 za zb w10 HAB.out.at_ HBB.out.at_ (by have := HSL.out; omega) (by have := HXL.out; omega)).mono ?_
                rintro e w11 ⟨rfl, hb11⟩
                have HB11 := Lib.hid (bchain HB10.out hb11)
                obtain ⟨dq, hdq⟩ : ∃ dq, decide (S = X.2) = dq := ⟨_, rfl⟩
                rw [hdq] at HSX ⊢
                clear hdq hb11
                go_wp2
                go_roundw
                case rel => exact ⟨j + 1, dq, rfl, by go_num, by have := HLJ.out; omega, HSX.out, HB11.out⟩
                case measure => have := HLJ.out; simp [intOf]; omega
              · have q6 : (c == 0) = false := beq_eq_false_iff_ne.2 hc0
                have HCL := Lib.hid hcl
                clear hcl
                go_wp2
                go_roundw
                case rel => exact ⟨j + 1, false, rfl, by go_num, by have := HLJ.out; omega, Or.inr HCL.out, HBW.out⟩
                case measure => have := HLJ.out; simp [intOf]; omega
          · obtain rfl : j = n.vs.length := by omega
            have g5 : ¬ ((n.vs.length : Int) < (n.vs.length : Int)) := by omega
            have HSZ := Lib.hid (HSY.out.below HVO.out.toVerOkL hbj)
            have HPZ := Lib.hid (HPN.out.tell hfj)
            have HBZ := Lib.hid (HBY.out.trans (hbj.mono HBY.out.size))
            clear hbj hfj hlj hv11
            go_wp2
            exact ⟨⟨i + 1, n, F', gx, E, f', rfl, rfl, by go_num, by have := HLT.out; omega, HSZ.out, HPZ.out, HBZ.out⟩, by have := HLT.out; simp [intOf]; omega⟩
    · obtain rfl : i = L.length := by omega
      have g1 : ¬ ((L.length : Int) < (L.length : Int)) := by omega
      have HUN := Lib.hid (runlike_any C _ wr HSM.out.own.strs (by have := HSP.out.few; omega) HSP.out.short)
      unfold UnlikePost at HUN
      have HFI := Lib.hid HSP.out.fine
      clear hlt hi h10
      cases fb with
      | true =>
        go_wp2
        go_ret
        exact ⟨rfl, bchain HB1.out HBR.out⟩
      | false =>
        go_wp2_with fail
        refine HUN.out.mono ?_
        rintro e w9 ⟨ub, rfl, hub, hb9⟩
        obtain rfl := hub (HFI.out.resolve_left (by simp))
        have HB9 := Lib.hid (bchain HB1.out (bchain HBR.out hb9))
        clear hub hb9
        go_wp2
        go_ret
        exact ⟨rfl, HB9.out⟩
end Go.Proofs.YtjfefphgikncnaaGreatDoor
namespace Go.Proofs.YtjfefphgikncnaaGreatDoor
open Go.RowKit
open Sto (T St)

theorem versStays_done (v : Value) (L : List Ver.Act) (w : World) (hv : VActs w v L) (_ : L.length * 40 ≤ reachBytes) (_ : ∀ s ∈ L, (Lit.int .i64 s.kind).wf = true ∧ (Lit.int .i64 s.height).wf = true) (hT : Tab w) :
    Calls Tryz.prog 3 #[v] w fun e w' => e = .returned (.bool true) ∧ Below w.heap.size w w' :=
  versStays_walk vers_ok v L w hv hT
end Go.Proofs.YtjfefphgikncnaaGreatDoor
