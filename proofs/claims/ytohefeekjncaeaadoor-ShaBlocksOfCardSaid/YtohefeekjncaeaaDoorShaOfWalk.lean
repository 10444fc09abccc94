/- The law ShaBlocksOf, walked. -/
import Derived.Test.YtohefeekjncaeaaDoorShaWorks
import Derived.Test.YtohefeekjncaeaaDoorShaTold
import Derived.Test.YtohefeekjncaeaaDoorShaOfMath
import Derived.Test.YtohefeekjncaeaaDoorArgBlocks
import Derived.Deep.RegionWith
namespace Go.Proofs.YtohefeekjncaeaaDoor
open Go.RowKit

attribute [local go_sem ↓] Go.wp_at_zero Go.wp_at_succ
attribute [local go_sem ↓] wp_load64
def load8 (v : Value) : Sem Value := Instr.loadAt 23 v
theorem wp_load8 {P : Program} {dst : Option Tmp} {x : Operand} {ty : TypeId} {pos : String} {after : Array Edge} {guard : Option (Nat × Bool)} {a : Act} {w : World} {K : Act → World → Prop} {Q : Exit → Act → World → Prop} :
    Oper.wp P { dst := dst, op := .load 23 x, type := ty, pos := pos, after := after, guard := guard } a w K Q = Oper.upon P { dst := dst, op := .load 23 x, type := ty, pos := pos, after := after, guard := guard } a K Q (((load8 (a.eval x)).run P w).andThen fun v w' => .ok (.value v) w') := by
  unfold Oper.wp execOp load8
  simp only [Sem.run_bind, Sem.run_pure]
theorem run_l8 {w : World} {g : Nat} {R : Array Value} {t : TypeId} (hg : w.heap[g]? = some (.cells R t (0, 0))) (hi : (Tryd.prog.info? 23).map (·.size) = some R.size) : (load8 (.pointer (some ⟨g, 0, none⟩))).run Tryd.prog w = .ok (.agg R) w := by
  simp only [load8, Instr.loadAt, Instr.sureAddr, Sem.run_bind, Sem.run_pure, Result.andThen_ok, run_loadVar_row w g t 23 R (0, 0) _ hg Tryd.underlying23 rfl hi]
theorem run_l64r {w : World} {g : Nat} {R : Array Value} {t : TypeId} (hg : w.heap[g]? = some (.cells R t (0, 0))) (hi : (Tryd.prog.info? 24).map (·.size) = some R.size) : (load64 (.pointer (some ⟨g, 0, none⟩))).run Tryd.prog w = .ok (.agg R) w := by
  simp only [load64, Instr.loadAt, Instr.sureAddr, Sem.run_bind, Sem.run_pure, Result.andThen_ok, run_loadVar_row w g t 24 R (0, 0) _ hg Tryd.underlying24 rfl hi]
def cellsE (x y : Int) : Array Value := (.int .u8 128 :: (List.replicate 61 (.int .u8 0) ++ [.int .u8 x, .int .u8 y])).toArray
theorem built_end (x y : Int) : Tryd.prog.built 24 [(0, .int .u8 128), (62, .int .u8 x), (63, .int .u8 y)] = some (cellsE x y) := by kernel_rfl
theorem cellsE_is (k : Nat) : cellsE (512 * (k : Int) / 256 % 256) (512 * (k : Int) % 256) = u8s (Sha.endB k) := by
  simp [cellsE, u8s, cellsL, Sha.endB, Sha.byteOf_toNat]
theorem wpList_copy_part {P : Program} {w : World} {ops : Array Oper} {rest : List Oper} {o : Oper} {a : Act} {Q : Exit → Act → World → Prop} (hgd : o.guard = none) (d s : Operand) (dT sT : TypeId)
    (ho : o.op = .call { callee := .builtin .copy, args := #[d, s], argTypes := #[dT, sT] }) (elem : TypeId) (hu : P.underlying dT = some (.slice elem)) (hsz : (P.info? elem).map (·.size) = some 1)
    (g off dLen dCap n : Nat) (l : List UInt8) (hd : a.eval d = .slice (some ⟨g, off, none⟩) dLen dCap) (hs : a.eval s = .string ⟨l.toArray⟩)
    (cur : Array Value) (t : TypeId) (hg : w.heap[g]? = some (.cells cur t (0, 0))) (hn : n = Nat.min l.length dLen) (hfit : off + n ≤ cur.size)
    (h : ∀ w', Hid (w'.heap[g]? = some (.cells (cur.toList.take off ++ cellsL (l.take n) ++ cur.toList.drop (off + n)).toArray t (0, 0))) → Hid (Only g w w') → wpList P ops Q rest (a.put o.dst (goInt n)) w') :
    wpList P ops Q (o :: rest) a w := by
  refine wpList_plain hgd fun K hK => ?_
  have hrun := run_copy_part (P := P) w dT sT o.type elem g off dLen dCap n l cur t hu hsz hg hn hfit
  unfold Oper.wp
  simp [execOp, ho, resolve, invoke, builtin, hd, hs, hrun, Result.andThen]
  exact hK _ _ (h _ (Lib.hid (by rw [List.append_assoc]; exact setRow_heap w g _ _ t _ hg)) (Lib.hid ((Only.refl g w).setRow _)))
theorem copy_row (s : List UInt8) (n : Nat) (h : s.length = n) : ((u8s (List.replicate 64 (0 : UInt8))).toList.take 0 ++ cellsL (s.take n) ++ (u8s (List.replicate 64 (0 : UInt8))).toList.drop (0 + n)).toArray = u8s (s ++ List.replicate (64 - n) 0) := by
  subst h
  have e : (u8s (List.replicate 64 (0 : UInt8))).toList = List.replicate 64 (.int .u8 0) := by
    rw [show (u8s (List.replicate 64 (0 : UInt8))).toList = cellsL (List.replicate 64 0) from rfl]
    unfold cellsL
    rw [List.map_replicate]
    rfl
  rw [e, List.take_zero, List.nil_append, Nat.zero_add, List.drop_replicate, List.take_of_length_le (Nat.le_refl _)]
  unfold u8s cellsL
  rw [List.map_append, List.map_replicate]
  rfl
theorem byte_there {w : World} {p : Nat} {t : TypeId} {O : List UInt8} (h : w.heap[p]? = some (.cells (u8s O) t (0, 0))) (j : Nat) (hj : j < O.length) : ∃ v, w.cell? ⟨p, j, none⟩ = some v := ⟨_, (cell_of_row w p j _ _ _ h).trans (u8s_at O j hj)⟩
/-- A fact that nothing unfolds. -/
structure Boxed2 (p : Prop) : Prop where
  out : p
theorem info8v : (Tryd.prog.info? 23).map (·.size) = some 8 := by kernel_rfl
theorem info64v : (Tryd.prog.info? 24).map (·.size) = some 64 := by kernel_rfl

attribute [local go_sem ↓] wp_load8

set_option maxRecDepth 8000 in
set_option maxHeartbeats 8000000 in
theorem blocksOf_walk (v : Value) (L : List (List UInt8)) (a : ByteArray) (w : World) (hv : Blks w v L) (hL : L.length ≤ maxLen) (ha : a.size ≤ maxLen) (hT : Tab w) :
    Calls Tryd.prog 6 #[v, .string a] w fun e w' => e = .returned (.bool true) ∧ Below w.heap.size w w' := by
  obtain ⟨s, rfl⟩ := bytes_list a
  have hsz : s.length ≤ 9223372036854775807 := by
    have : (⟨s.toArray⟩ : ByteArray).size = s.length := by simp [ByteArray.size]
    unfold maxLen at ha
    omega
  unfold maxLen at hL
  obtain ⟨A, cap, rfl, hblk⟩ := hv
  have HT := Lib.hid hT
  have HBK := Lib.hid hblk
  clear ha hT hblk
  by_cases hbig : L.length > 6
  · have h6 : (L.length : Int) > 6 := by omega
    have h6d : decide ((L.length : Int) > 6) = true := decide_eq_true h6
    go_enter Tryd.func6, Tryd.ntmps6
    go_wp2_with fail
    refine (works_any w HT.out).mono ?_
    rintro e w1 ⟨rfl, hb1⟩
    go_wp2
    go_ret
    exact ⟨rfl, hb1⟩
  · have h6 : ¬ ((L.length : Int) > 6) := by omega
    have h6d : decide ((L.length : Int) > 6) = false := decide_eq_false h6
    by_cases hlong : s.length > 55
    · have h55 : (s.length : Int) > 55 := by omega
      go_enter Tryd.func6, Tryd.ntmps6
      go_wp2_with fail
      refine (works_any w HT.out).mono ?_
      rintro e w1 ⟨rfl, hb1⟩
      go_wp2
      go_ret
      exact ⟨rfl, hb1⟩
    · have h55 : ¬ ((s.length : Int) > 55) := by omega
      have hf := first_any
      simp only [Sha.St.list, u32s, List.map_cons, List.map_nil, Sha.first] at hf
      have HF := Lib.hid hf
      clear hf
      go_enter Tryd.func6, Tryd.ntmps6
      go_wp2_with fail
      refine (works_any w HT.out).mono ?_
      rintro e w1 ⟨rfl, hb1⟩
      have HB1 := Lib.hid hb1
      clear hb1
      go_wp2_with fail
      refine (HF.out _).mono ?_
      rintro e w2 ⟨rfl, hb2⟩
      have HB2 := Lib.hid (bchain HB1.out hb2)
      clear hb2 HB1
      go_wp2
      obtain ⟨g, hg⟩ : ∃ g, w2.heap.size = g := ⟨_, rfl⟩
      have HGG := Lib.hid hg
      have HGW : Hid (w.heap.size ≤ g) := Lib.hid (by rw [← hg]; exact HB2.out.size)
      have hL64 : ∀ x ∈ L, x.length = 64 := fun x hx => by
        obtain ⟨i, hi, rfl⟩ := List.mem_iff_getElem.1 hx
        obtain ⟨_, _, _, _, h⟩ := HBK.out (by omega)
        exact (h i hi).1
      have H64 := Lib.hid hL64
      rw [hg]
      clear hg hL64
      go_loopw [6, 25] (fun t i wr => ∃ k : Nat, k ≤ L.length ∧ i = .int .i64 k ∧ t = .string ⟨(L.take k).flatten.toArray⟩ ∧ Below w.heap.size w wr ∧ wr.heap[g]? = some (.cells (u32s (Sha.absorb (L.take k).flatten k).list) 23 (0, 0))) (fun _ i _ => L.length - (intOf i).toNat)
      case atStart => exact ⟨0, Nat.zero_le _, rfl, rfl, HB2.out.alloc HB2.out.size _, heap_new_at _ _ _ HGG.out.symm⟩
      case round =>
        clear HB2 HF
        obtain ⟨k, hk, rfl, rfl, hb, hgr⟩ := hrel
        obtain ⟨S, hS⟩ : ∃ S, Sha.absorb (L.take k).flatten k = S := ⟨_, rfl⟩
        obtain ⟨RS, hRS⟩ : ∃ R, u32s S.list = R := ⟨_, rfl⟩
        rw [hS, hRS] at hgr
        have HS := Lib.hid hS
        have HBR := Lib.hid hb
        have HGR := Lib.hid hgr
        have hRz : RS.size = 8 := by rw [← hRS]; rfl
        have HRI : Hid ((Tryd.prog.info? 23).map (·.size) = some RS.size) := Lib.hid (by rw [hRz]; exact info8v)
        by_cases hlt : k < L.length
        · obtain ⟨b, o, rfl, hbl, hch⟩ := HBK.out (by omega)
          obtain ⟨hXl, hXr⟩ := hch k hlt
          have hXr' := rangeAt_below hXr hb hbl
          have hnx := Sha.absorb_flat L H64.out k hlt
          have hfl := Sha.flat_len L H64.out k hk
          have hsn : (L.take k).flatten ++ L[k] = (L.take (k + 1)).flatten := by
            rw [List.take_succ_eq_append_getElem hlt, List.flatten_append]
            simp only [List.flatten_cons, List.flatten_nil, List.append_nil]
          rw [hS] at hnx
          clear hXr hch
          generalize L[k] = X at hXl hXr' hnx hsn
          have hblk := fun w' hw => block_any S X w' hXl hw
          obtain ⟨T, hT⟩ : ∃ T, Sha.blockP S X = T := ⟨_, rfl⟩
          obtain ⟨RT, hRT⟩ : ∃ R, u32s T.list = R := ⟨_, rfl⟩
          obtain ⟨cs, hcs⟩ : ∃ cs, cellsL X = cs := ⟨_, rfl⟩
          unfold u8s at hblk
          rw [hT, hRT, hRS, hcs] at hblk
          rw [hT] at hnx
          rw [hcs] at hXr'
          have hcl : cs.length = 64 := by rw [← hcs, cellsL_length, hXl]
          have HCI : Hid ((Tryd.prog.info? 24).map (·.size) = some cs.length) := Lib.hid (by rw [hcl]; exact info64v)
          have HCA : Hid ((Tryd.prog.info? 24).map (·.size) = some cs.toArray.size) := Lib.hid (by rw [List.size_toArray, hcl]; exact info64v)
          have HC1 : Hid (cs.toArray.all (·.oneCell') = true) := Lib.hid (by rw [← hcs]; exact u8s_one X)
          have HCZ : Hid (cs.toArray.size = 64) := Lib.hid (by rw [List.size_toArray, hcl])
          have hTz : RT.size = 8 := by rw [← hRT]; rfl
          have HTI : Hid ((Tryd.prog.info? 23).map (·.size) = some RT.size) := Lib.hid (by rw [hTz]; exact info8v)
          have HT1 : Hid (RT.all (·.oneCell') = true) := Lib.hid (by rw [← hRT]; exact u32s_one _)
          have HRTz : Hid (RS.size = RT.size) := Lib.hid (by rw [hRz, hTz])
          have HBLK := Lib.hid hblk
          have HNX := Lib.hid hnx
          have HRT := Lib.hid hRT
          have HXR := Lib.hid hXr'
          have HXL := Lib.hid hXl
          have HCS := Lib.hid hcs
          obtain ⟨Y, hY⟩ : ∃ Y, (L.take k).flatten = Y := ⟨_, rfl⟩
          obtain ⟨Y', hY'⟩ : ∃ Y', (L.take (k + 1)).flatten = Y' := ⟨_, rfl⟩
          rw [hY] at hfl hsn ⊢
          rw [hY'] at hsn
          have hcm := cat_mk Y X
          rw [hsn] at hcm
          have HY' := Lib.hid hY'
          have hYb : Y.length ≤ 400 := by omega
          have hXb : X.length ≤ 64 := by omega
          have HG2 : Hid ((wr.alloc (.cells cs.toArray 24)).heap[g]? = some (.cells RS 23 (0, 0))) := Lib.hid (heap_old_at _ hgr)
          have HP2 : Hid ((wr.alloc (.cells cs.toArray 24)).heap[wr.heap.size]? = some (.cells cs.toArray 24 (0, 0))) := Lib.hid (heap_alloc_new _ _)
          have HGP : Hid (g < wr.heap.size) := Lib.hid (lt_of_heap hgr)
          have HBA : Hid (Below w.heap.size w (wr.alloc (.cells cs.toArray 24))) := Lib.hid (hb.alloc hb.size _)
          have hkI : (k : Int) < (L.length : Int) := by omega
          clear hS hRS hb hgr hRz hXl hXr' hnx hfl hsn hblk hT hRT hcs hcl hTz hY hY' hbl
          go_wp2_with (first | (refine wpList_load_mid (by rfl) _ _ (by rfl) b (o + k * 64) (by rfl) cs _ HXR.out Tryd.underlying24 (by rfl) HCI.out ?_) | (refine wpList_store_new (by rfl) _ _ _ (by rfl) wr.heap.size rfl cs.toArray (by rfl) (by rfl) _ _ HCA.out (by rw [HCZ.out]; rfl) HC1.out ?_) | (refine wpList_load_row (by rfl) _ _ (by rfl) g (by rfl) _ RS _ _ HG2.out Tryd.underlying23 (by rfl) HRI.out ?_) | (refine wpList_load_row (by rfl) _ _ (by rfl) wr.heap.size (by rfl) _ cs.toArray _ _ HP2.out Tryd.underlying24 (by rfl) HCA.out ?_))
          refine (HBLK.out _ (HT.out.below HBA.out)).mono ?_
          rintro e w6 ⟨rfl, hb6⟩
          have HG6 := Lib.hid ((hb6.block g (lt_of_heap HG2.out)).trans HG2.out)
          have HB6 := Lib.hid (HBA.out.trans (hb6.mono HBA.out.size))
          have kc : (convert 39 9 (.slice (some ⟨wr.heap.size, 0, none⟩) 64 64)).run Tryd.prog (w6.setRow g RT) = .ok (.string ⟨X.toArray⟩) (w6.setRow g RT) := by
            have hp6 : (w6.setRow g RT).heap[wr.heap.size]? = some (.cells cs.toArray 24 (0, 0)) := (setRow_other _ _ _ _ (Nat.ne_of_gt HGP.out)).trans ((hb6.block _ (lt_of_heap HP2.out)).trans HP2.out)
            have := run_convert_bytes_back (P := Tryd.prog) (w6.setRow g RT) 39 9 5 ⟨wr.heap.size, 0, none⟩ 64 X Tryd.underlying39 Tryd.underlying5 Tryd.underlying9 (by
              intro j hj
              rw [Addr.add_mid, Nat.zero_add, cell_of_row _ _ j _ _ _ hp6, ← HCS.out]
              simp [cellsL, hj])
            rwa [HXL.out] at this
          clear hb6
          go_wp2_with (refine wpList_store_row (by rfl) _ _ _ (by rfl) g RT (by rfl) (by rfl) _ _ HG6.out HTI.out HRTz.out HT1.out ?_)
          go_roundw
          case rel => exact ⟨k + 1, by omega, by go_num, by rw [HY'.out], below_setRow HB6.out HGW.out _, by rw [HNX.out, HRT.out]; exact setRow_heap _ _ _ _ _ _ HG6.out⟩
          case measure => simp [intOf]; omega
        · obtain rfl : k = L.length := by omega
          have hno : ¬ ((L.length : Int) < (L.length : Int)) := by omega
          have hfl := Sha.flat_len L H64.out L.length (Nat.le_refl _)
          obtain ⟨Y, hY⟩ : ∃ Y, (L.take L.length).flatten = Y := ⟨_, rfl⟩
          rw [hY] at hfl HS ⊢
          obtain ⟨K, hK⟩ : ∃ K, L.length = K := ⟨_, rfl⟩
          have hKb : K ≤ 6 := by omega
          have HYS := Lib.hid (Sha.sum_blocks Y K hKb (by rw [hfl, hK]))
          have HON := Lib.hid (Sha.sum_one s (by omega))
          have HOI := Lib.hid (Sha.one_is s (by omega))
          rw [hK] at HS hno h6 h6d ⊢
          have HYL : Hid (Y.length ≤ 400) := Lib.hid (by omega)
          obtain ⟨n, hn⟩ : ∃ n, s.length = n := ⟨_, rfl⟩
          have hn55 : n ≤ 55 := by omega
          have HN := Lib.hid hn
          rw [hn] at h55 HOI HON
          have hbu : Tryd.prog.built 24 [(0, .int .u8 128), (62, .int .u8 (512 * (K : Int) / 256)), (63, .int .u8 (512 * (K : Int) % 256))] = some (u8s (Sha.endB K)) := by
            rw [built_end, ← cellsE_is, Int.emod_eq_of_lt (a := 512 * (K : Int) / 256) (by omega) (by omega)]
          have heb : (Sha.endB K).length = 64 := by simp [Sha.endB]
          obtain ⟨CE, hCE⟩ : ∃ C, u8s (Sha.endB K) = C := ⟨_, rfl⟩
          rw [hCE] at hbu
          have HBU := Lib.hid hbu
          have HCEz : Hid (CE.size = 64) := Lib.hid (by rw [← hCE, u8s_size, heb])
          have HCEI : Hid ((Tryd.prog.info? 24).map (·.size) = some CE.size) := Lib.hid (by rw [HCEz.out]; exact info64v)
          have HCE1 : Hid (CE.all (·.oneCell') = true) := Lib.hid (by rw [← hCE]; exact u8s_one _)
          have HCE := Lib.hid hCE
          have HRS := Lib.hid hRS
          clear hlt hk hb hgr hS hRS hRz hfl hY hK hbu heb hCE hL hbig hlong
          have hol : (s ++ List.replicate (64 - n) (0 : UInt8)).length = 64 := by rw [List.length_append, List.length_replicate, HN.out]; omega
          have HO1 : Hid (n < (s ++ List.replicate (64 - n) (0 : UInt8)).length) := Lib.hid (by rw [hol]; omega)
          have HO2 : Hid (62 < (s ++ List.replicate (64 - n) (0 : UInt8)).length) := Lib.hid (by rw [hol]; omega)
          have HO3 : Hid (63 < (s ++ List.replicate (64 - n) (0 : UInt8)).length) := Lib.hid (by rw [hol]; omega)
          have hnI : (n : Int) < 64 := by omega
          clear hol
          have HMN : Hid (n = Nat.min s.length 64) := Lib.hid (by rw [HN.out]; exact (Nat.min_eq_left (by omega)).symm)
          have HFT : Hid (0 + n ≤ (u8s (List.replicate 64 (0 : UInt8))).size) := Lib.hid (by rw [u8s_size, List.length_replicate]; omega)
          go_upto_region 16 with (first | (refine wpList_build_to (by rfl) _ _ (by rfl) [(0, .int .u8 128), (62, .int .u8 (512 * (K : Int) / 256)), (63, .int .u8 (512 * (K : Int) % 256))] (by first | rfl | (simp [Act.eval]; done)) CE HBU.out ?_) | (refine wpList_store_new (by rfl) _ _ _ (by rfl) wr.heap.size rfl CE (by rfl) (by rfl) _ _ HCEI.out (by rw [HCEz.out]; rfl) HCE1.out ?_))
          clear HBU HCEI HCE1 HCEz
          go_wp2_with ((refine wpList_copy_part (by rfl) _ _ 39 9 (by rfl) 5 Tryd.underlying39 info_byte (wr.heap.size + 1) 0 64 64 n s (by rfl) (by rfl) (u8s (List.replicate 64 (0 : UInt8))) 24 (heap_new_at _ _ _ (by simp)) HMN.out HFT.out ?_; intro w8 hg8 ho8; (have h8 : w8.heap[wr.heap.size + 1]? = some (.cells (u8s (s ++ List.replicate (64 - n) 0)) 24 (0, 0)) := by rw [← copy_row s n HN.out]; exact hg8.out); obtain ⟨v0, z0⟩ := byte_there h8 n HO1.out; obtain ⟨v1, z1⟩ := byte_there h8 62 HO2.out; obtain ⟨v2, z2⟩ := byte_there h8 63 HO3.out; (have y0 := frozen_of_row w8 _ n _ _ h8); (have y1 := frozen_of_row w8 _ 62 _ _ h8); (have y2 := frozen_of_row w8 _ 63 _ _ h8); (have H8 := Lib.hid h8); clear h8 hg8))
          obtain ⟨w9, hw9⟩ : ∃ w9, ((w8.setCell ⟨wr.heap.size + 1, n, none⟩ (.int .u8 128)).setCell ⟨wr.heap.size + 1, 62, none⟩ (.int .u8 ((n : Int) / 32))).setCell ⟨wr.heap.size + 1, 63, none⟩ (.int .u8 ((n : Int) * 8 % 256)) = w9 := ⟨_, rfl⟩
          have h9p : w9.heap[wr.heap.size + 1]? = some (.cells (u8s (s ++ Sha.tailP n)) 24 (0, 0)) := by
            rw [← hw9, ← HOI.out, ← u8s_set, ← u8s_set, ← u8s_set, Sha.byteOf_toNat, Sha.byteOf_toNat, Int.emod_eq_of_lt (a := (n : Int) / 32) (by omega) (by omega)]
            exact heap_setCell_same _ _ _ _ _ _ (heap_setCell_same _ _ _ _ _ _ (heap_setCell_same _ _ _ _ _ _ H8.out))
          have hoth : ∀ q, q ≠ wr.heap.size + 1 → w9.heap[q]? = w8.heap[q]? := fun q hq => by
            rw [← hw9]
            exact (Below.heap_setCell _ _ _ _ hq).trans ((Below.heap_setCell _ _ _ _ hq).trans (Below.heap_setCell _ _ _ _ hq))
          have hgl := lt_of_heap HGR.out
          have h9e : w9.heap[wr.heap.size]? = some (.cells CE 24 (0, 0)) := (hoth _ (by omega)).trans ((ho8.out.block _ (by simp; omega) (by omega)).trans (heap_old_at _ (heap_new_at _ _ _ rfl)))
          have h9g : w9.heap[g]? = some (.cells RS 23 (0, 0)) := (hoth _ (by omega)).trans ((ho8.out.block _ (by simp; omega) (by omega)).trans (heap_old_at _ (heap_old_at _ HGR.out)))
          have hB9 : Below w.heap.size w w9 := by
            have h0 := HBR.out.size
            have h1 : Below w.heap.size w w8 := ((HBR.out.alloc h0 _).alloc (by simp; omega) _).trans (ho8.out.below (by omega) (by simp; omega))
            rw [← hw9]
            exact ((h1.setCell (show w.heap.size ≤ wr.heap.size + 1 by omega) _).setCell (show w.heap.size ≤ wr.heap.size + 1 by omega) _).setCell (show w.heap.size ≤ wr.heap.size + 1 by omega) _
          rw [hw9]
          have hol : (s ++ Sha.tailP n).length = 64 := by rw [List.length_append, Sha.tailP_length, HN.out, Sha.padN]; omega
          have hebl : (Sha.endB K).length = 64 := by simp [Sha.endB]
          have hbe := fun X hX => block_any S (Sha.endB K) X hebl hX
          have hbo := fun X hX => block_any Sha.first (s ++ Sha.tailP n) X hol hX
          have hto1 := fun X => told_any (Sha.blockP S (Sha.endB K)) X
          have hto2 := fun X => told_any (Sha.blockP Sha.first (s ++ Sha.tailP n)) X
          have hsy := fun X hX => sum_any Y X hX (by have := HYL.out; omega)
          have hss := fun X hX => sum_any s X hX (by omega)
          have hfi := first_any
          have e1 : Sha.joinP (Sha.blockP S (Sha.endB K)) = Sha.sumP Y := by rw [HYS.out, HS.out]
          have e2 : Sha.joinP (Sha.blockP Sha.first (s ++ Sha.tailP n)) = Sha.sumP s := HON.out.symm
          rw [e1] at hto1
          rw [e2] at hto2
          obtain ⟨CO, hCO⟩ : ∃ C, u8s (s ++ Sha.tailP n) = C := ⟨_, rfl⟩
          have HCOI : Hid ((Tryd.prog.info? 24).map (·.size) = some CO.size) := Lib.hid (by rw [← hCO, u8s_size, hol]; exact info64v)
          have HCEI : Hid ((Tryd.prog.info? 24).map (·.size) = some CE.size) := Lib.hid (by rw [← HCE.out, u8s_size, hebl]; exact info64v)
          obtain ⟨R1, hR1⟩ : ∃ R, Sha.sumP Y = R := ⟨_, rfl⟩
          obtain ⟨R2, hR2⟩ : ∃ R, Sha.sumP s = R := ⟨_, rfl⟩
          obtain ⟨A1, hA1⟩ : ∃ R, u32s (Sha.blockP S (Sha.endB K)).list = R := ⟨_, rfl⟩
          obtain ⟨A2, hA2⟩ : ∃ R, u32s (Sha.blockP Sha.first (s ++ Sha.tailP n)).list = R := ⟨_, rfl⟩
          obtain ⟨A0, hA0⟩ : ∃ R, u32s Sha.first.list = R := ⟨_, rfl⟩
          rw [hA1, HRS.out, HCE.out] at hbe
          rw [hA2, hA0, hCO] at hbo
          rw [hA1, hR1] at hto1
          rw [hA2, hR2] at hto2
          rw [hR1] at hsy
          rw [hR2] at hss
          rw [hA0] at hfi
          rw [hCO] at h9p
          have HBE := Boxed2.mk hbe
          have HBO := Boxed2.mk hbo
          have HTO1 := Boxed2.mk hto1
          have HTO2 := Boxed2.mk hto2
          have HSY := Boxed2.mk hsy
          have HSS := Boxed2.mk hss
          have HFI := Boxed2.mk hfi
          have HL : Boxed2 (∀ X, Below w9.heap.size w9 X → (load8 (.pointer (some ⟨g, 0, none⟩))).run Tryd.prog X = .ok (.agg RS) X ∧ (load64 (.pointer (some ⟨wr.heap.size, 0, none⟩))).run Tryd.prog X = .ok (.agg CE) X ∧ (load64 (.pointer (some ⟨wr.heap.size + 1, 0, none⟩))).run Tryd.prog X = .ok (.agg CO) X) :=
            Boxed2.mk (fun X hX => ⟨run_l8 ((hX.block _ (lt_of_heap h9g)).trans h9g) HRI.out, run_l64r ((hX.block _ (lt_of_heap h9e)).trans h9e) HCEI.out, run_l64r ((hX.block _ (lt_of_heap h9p)).trans h9p) HCOI.out⟩)
          have HTAB : Boxed2 (∀ X, Below w9.heap.size w9 X → Tab X) := Boxed2.mk (fun X hX => (HT.out.below hB9).below hX)
          have HB9 := Boxed2.mk hB9
          have hD : Below w9.heap.size w9 w9.drew := (Below.refl _ w9).drew
          obtain ⟨l1, l2, l3⟩ := HL.out _ hD
          clear hw9 h9p hoth hgl h9e h9g hB9 hol hebl hbe hbo hto1 hto2 hsy hss hfi e1 e2 hCO hR1 hR2 hA1 hA2 hA0 HCOI HCEI HRI HS HYS HON HOI HT HBK H64 HGG HGW HBR HGR HYL HN HCE HRS HMN HFT HO1 HO2 HO3 H8 z0 z1 z2 y0 y1 y2 ho8 hsz hn hnI
          go_region_with (first
            | (go_at_call_of 13 (Value.string ⟨Y.toArray⟩); (refine (HSY.out _ (HTAB.out _ (by assumption))).mono ?_; rintro e' wn ⟨rfl, hbn⟩; (have hBn := bchain (by assumption) hbn); clear l1 l2 l3; obtain ⟨l1, l2, l3⟩ := HL.out _ hBn; clear hbn))
            | (go_at_call_of 13 (Value.string ⟨s.toArray⟩); (refine (HSS.out _ (HTAB.out _ (by assumption))).mono ?_; rintro e' wn ⟨rfl, hbn⟩; (have hBn := bchain (by assumption) hbn); clear l1 l2 l3; obtain ⟨l1, l2, l3⟩ := HL.out _ hBn; clear hbn))
            | (go_at_call_of 10 (Value.agg RS); (refine (HBE.out _ (HTAB.out _ (by assumption))).mono ?_; rintro e' wn ⟨rfl, hbn⟩; (have hBn := bchain (by assumption) hbn); clear l1 l2 l3; obtain ⟨l1, l2, l3⟩ := HL.out _ hBn; clear hbn))
            | (go_at_call_of 10 (Value.agg A0); (refine (HBO.out _ (HTAB.out _ (by assumption))).mono ?_; rintro e' wn ⟨rfl, hbn⟩; (have hBn := bchain (by assumption) hbn); clear l1 l2 l3; obtain ⟨l1, l2, l3⟩ := HL.out _ hBn; clear hbn))
            | (go_at_call_of 19 (Value.agg A1); (refine (HTO1.out _).mono ?_; rintro e' wn ⟨rfl, hbn⟩; (have hBn := bchain (by assumption) hbn); clear l1 l2 l3; obtain ⟨l1, l2, l3⟩ := HL.out _ hBn; clear hbn))
            | (go_at_call_of 19 (Value.agg A2); (refine (HTO2.out _).mono ?_; rintro e' wn ⟨rfl, hbn⟩; (have hBn := bchain (by assumption) hbn); clear l1 l2 l3; obtain ⟨l1, l2, l3⟩ := HL.out _ hBn; clear hbn))
            | (go_at_call 8; refine (HFI.out _).mono ?_; rintro e' wn ⟨rfl, hbn⟩; (have hBn := bchain (by assumption) hbn); clear l1 l2 l3; obtain ⟨l1, l2, l3⟩ := HL.out _ hBn; clear hbn))
          all_goals go_wp2
          all_goals go_ret
          all_goals exact ⟨rfl, HB9.out.trans (hBn.mono HB9.out.size)⟩
end Go.Proofs.YtohefeekjncaeaaDoor
