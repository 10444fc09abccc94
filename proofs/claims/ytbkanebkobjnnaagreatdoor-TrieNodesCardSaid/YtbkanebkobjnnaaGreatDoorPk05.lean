/- NodeEnc, NodeEncode, ReadSt, NodeRead, NodeRdr, NodeDec, NodeLaw, NibRefPack, NibRefUnpack, NibRefU, CodeRef, NodeRefWritten, StrClone -/
import Derived.Test.YtbkanebkobjnnaaGreatDoorPk04
import Derived.Deep.RegionWith
import Derived.Test.YtbkanebkobjnnaaGreatDoorPk01
import Derived.Test.YtbkanebkobjnnaaGreatDoorPk03
import Derived.Laws.IdiomStrings
import Derived.Deep.MidRow
import Derived.Laws.CopyOwn
import Derived.Test.YtbkanebkobjnnaaGreatDoorPk02
import Derived.WalkSpells
import Derived.WalkLawsBesides
import Derived.Deep.RegionLaw
import Derived.Deep.QuietTactic
import Derived.BigQuiet
namespace Go.Proofs.YtbkanebkobjnnaaGreatDoor
open Go.RowKit
open Go.Proofs.YtbkanebkobjnnaaGreatDoor.Nd (N)

set_option maxRecDepth 100000 in
theorem npacked_any (p : List UInt8) (leaf : Bool) (w : World) (hp : p.length ≤ 16) (hf : Nib.fitL p = true) :
    Calls Tryz.prog 94 #[.string ⟨p.toArray⟩, .bool leaf] w fun e w' => e = .returned (.string ⟨(Code.textL (Nib.packL p leaf)).toArray⟩) ∧ Below w.heap.size w w' := by
  have HPK := Lib.hid (fun w => pack_good p leaf w (by omega) hf)
  have hl : (Nib.packL p leaf).length ≤ 9 := by rw [Nib.packL_length]; omega
  have HT := Lib.hid (fun w => text_any (Nib.packL p leaf) w (by omega))
  clear hp hf hl
  go_enter Tryz.func94, Tryz.ntmps94
  go_wp2_with fail
  refine (HPK.out _).mono ?_
  rintro e w1 ⟨rfl, hb1⟩
  go_wp2_with fail
  refine (HT.out _).mono ?_
  rintro e w2 ⟨rfl, hb2⟩
  have HB := Lib.hid (bchain hb1 hb2)
  go_wp2
  go_ret
  exact ⟨rfl, HB.out⟩

theorem Nd.bits8_step (l : List (List UInt8)) (k : Nat) (hk : k < l.length) : Nd.bits8 (l.take (k + 1)) = Nd.bits8 (l.take k) * 2 + if l[k] = [] then 0 else 1 := by
  unfold Nd.bits8
  rw [List.take_succ_eq_append_getElem hk, List.foldl_append]
  rfl
theorem Nd.bits8_app (a b : List (List UInt8)) : Nd.bits8 (a ++ b) = Nd.bits8 a * 2 ^ b.length + Nd.bits8 b := by
  have key : ∀ (b : List (List UInt8)) (s : Nat), b.foldl (fun a k => a * 2 + if k = [] then 0 else 1) s = s * 2 ^ b.length + b.foldl (fun a k => a * 2 + if k = [] then 0 else 1) 0 := by
    intro b
    induction b with
    | nil => intro s; simp
    | cons x b ih =>
      intro s
      rw [List.foldl_cons, List.foldl_cons, ih (s * 2 + _), ih (0 * 2 + _), List.length_cons, Nat.pow_succ]
      generalize (if x = [] then 0 else 1) = q
      rw [Nat.add_mul, Nat.zero_mul, Nat.zero_add, Nat.mul_assoc s 2, Nat.mul_comm 2]
      omega
  unfold Nd.bits8
  rw [List.foldl_append]
  exact key b _
theorem Nd.bits16 (L : List (List UInt8)) (hL : L.length = 16) : Nd.bits8 L = Nd.bits8 (L.take 8) * 256 + Nd.bits8 (L.drop 8) ∧ Nd.bits8 (L.take 8) < 256 ∧ Nd.bits8 (L.drop 8) < 256 := by
  have h := Nd.bits8_app (L.take 8) (L.drop 8)
  have hd : (L.drop 8).length = 8 := by rw [List.length_drop, hL]
  rw [List.take_append_drop, hd] at h
  exact ⟨h, Nd.bits8_lt _ (by rw [List.length_take, hL]; rfl), Nd.bits8_lt _ hd⟩
theorem or_one (b : Nat) (h : b < 65536) : bits .or .i64 ((b : Int) * 2) 1 = ((b * 2 + 1 : Nat) : Int) := by
  have h3 := i64_or_nat (b * 2) 1 (by omega) (by decide)
  have h4 : b * 2 ||| 1 = b * 2 + 1 := by
    have h5 := Nat.shiftLeft_add_eq_or_of_lt (show 1 < 2 ^ 1 by decide) b
    rw [Nat.shiftLeft_eq] at h5
    exact h5.symm
  rw [h4, Int.natCast_mul] at h3
  exact h3
set_option maxRecDepth 100000 in
theorem ntaken_any (L : List (List UInt8)) (w : World) (hL : L.length = 16) :
    Calls Tryz.prog 96 #[aval L] w fun e w' => e = .returned (.string ⟨[Nd.byteN (Nd.bits8 (L.take 8)), Nd.byteN (Nd.bits8 (L.drop 8))].toArray⟩) ∧ Below w.heap.size w w' := by
  unfold aval
  have HKE : Hid (∀ (k : Nat) (hk : k < 16), ∀ w, (Instr.index 71 (.agg (scells L).toArray) (.int .i64 k)).run Tryz.prog w = .ok (.string ⟨(L[k]'(by omega)).toArray⟩) w) := Lib.hid (fun k hk w => idx_strs L hL k hk w)
  have hcs : (scells L).toArray.size = 16 := by rw [List.size_toArray, scells_length, hL]
  have HI : Hid ((Tryz.prog.info? 71).map (·.size) = some (scells L).toArray.size) := Lib.hid (by rw [hcs]; kernel_rfl)
  have HRO : Hid ((w.alloc (.cells (scells L).toArray 71)).heap[w.heap.size]? = some (.cells (scells L).toArray 71 (0, 0))) := Lib.hid (heap_new_at w _ _ rfl)
  have HB : Hid (Below w.heap.size w (w.alloc (.cells (scells L).toArray 71))) := Lib.hid ((Below.refl _ w).alloc (Nat.le_refl _) _)
  obtain ⟨C, hC⟩ : ∃ C, (scells L).toArray = C := ⟨_, rfl⟩
  rw [hC] at HI HRO HB HKE ⊢
  have HN := Lib.hid hL
  clear hC hcs
  go_enter Tryz.func96, Tryz.ntmps96
  go_wp2_with (refine wpList_load_row (by rfl) _ _ (by rfl) w.heap.size (by rfl) _ C _ _ HRO.out Tryz.underlying71 (by rfl) HI.out ?_)
  generalize (w.alloc (.cells C 71)) = w0 at *
  go_loopw [3, 7] (fun b i wr => ∃ k c : Nat, k ≤ 16 ∧ i = .int .i64 k ∧ b = .int .i64 c ∧ c = Nd.bits8 (L.take k) ∧ c < 2 ^ k ∧ wr = w0) (fun _ i _ => 16 - (intOf i).toNat)
  case atStart => exact ⟨0, 0, Nat.zero_le _, rfl, rfl, rfl, by decide, rfl⟩
  case round =>
    obtain ⟨k, c, hk, rfl, rfl, hc, hc2, rfl⟩ := hrel
    have HC := Lib.hid hc
    have hcb : (c : Int) < 65536 := by
      have h1 : 2 ^ k ≤ 2 ^ 16 := Nat.pow_le_pow_right (by decide) hk
      have h2 : (2 : Nat) ^ 16 = 65536 := rfl
      omega
    have hc0 : (0 : Int) ≤ (c : Int) := by omega
    have HC2 := Lib.hid hc2
    clear hc hc2
    by_cases hlt : k < 16
    · have h1 : (k : Int) < 16 := by omega
      have h0 : (0 : Int) ≤ (k : Int) := by omega
      have n0 := HKE.out k hlt
      have HST := Lib.hid (Nd.bits8_step L k (by have := HN.out; omega))
      obtain ⟨x, hx⟩ : ∃ x, L[k]'(by have := HN.out; omega) = x := ⟨_, rfl⟩
      rw [hx] at n0 HST
      clear hx
      by_cases he : x = []
      · subst he
        rw [if_pos rfl] at HST
        go_wp2
        exact ⟨⟨k + 1, c * 2, by omega, by go_num, by go_num, by rw [HST.out, HC.out]; rfl, by rw [Nat.pow_succ]; have := HC2.out; omega, trivial⟩, by simp [intOf]; omega⟩
      · rw [if_neg he] at HST
        have he1 : (x == []) = false := by rw [beq_eq_false_iff_ne]; exact he
        have ho := or_one c (by omega)
        go_wp2
        exact ⟨⟨k + 1, c * 2 + 1, by omega, by go_num, by go_num, by rw [HST.out, HC.out], by rw [Nat.pow_succ]; have := HC2.out; omega, trivial⟩, by simp [intOf]; omega⟩
    · have h1 : ¬ ((k : Int) < 16) := by omega
      obtain rfl : k = 16 := by omega
      rw [List.take_of_length_le (by have := HN.out; omega)] at HC
      obtain ⟨b1, b2, b3⟩ := Nd.bits16 L HN.out
      rw [← HC.out] at b1
      obtain ⟨h, hh⟩ : ∃ h, Nd.bits8 (L.take 8) = h := ⟨_, rfl⟩
      obtain ⟨l, hll⟩ : ∃ l, Nd.bits8 (L.drop 8) = l := ⟨_, rfl⟩
      have HH := Lib.hid hh
      have HL := Lib.hid hll
      rw [hh, hll] at b1
      rw [hh] at b2
      rw [hll] at b3
      have kc := conv_two' wr (Nd.byteN h) (Nd.byteN l) ((c : Int) / 256) ((c : Int) % 256) (by rw [Nd.byteN, Code.ofNat_toNat _ b2]; omega) (by rw [Nd.byteN, Code.ofNat_toNat _ b3]; omega)
      clear hh hll b1 b2 b3
      go_wp2
      go_ret
      exact ⟨by rw [HH.out, HL.out]; rfl, HB.out.alloc HB.out.size _⟩
theorem Nd.join_flat (l : List (List UInt8)) : Lib.join l [] = l.flatten := by
  induction l with
  | nil => rfl
  | cons a l ih =>
    rw [Lib.join_cons, List.flatten_cons]
    simp [Lib.joinTail]
theorem njoin_any (L : List (List UInt8)) (g : Nat) (w : World) (hL : L.length = 16) (hg : g < w.heap.size) (hr : w.rangeAt g 3 (scells L)) (hl : L.flatten.length ≤ 1000000) :
    Calls Tryz.prog 97 #[.slice (some ⟨g, 3, none⟩) 16 16, .string ⟨#[]⟩] w fun e w' => e = .returned (.string ⟨L.flatten.toArray⟩) ∧ Below w.heap.size w w' := by
  have h1 : (L.map fun l => (⟨l.toArray⟩ : ByteArray)).length = 16 := by rw [List.length_map, hL]
  have h2 : (L.map fun l => (⟨l.toArray⟩ : ByteArray)).map (·.data.toList) = L := by
    rw [List.map_map]
    exact (List.map_congr_left (fun a _ => by simp)).trans (List.map_id _)
  have h3 := shelf_strings_Join g 3 16 (L.map fun l => ⟨l.toArray⟩) ⟨#[]⟩ w (fun j x hx => by
    rw [List.getElem?_map] at hx
    obtain ⟨l, hl1, rfl⟩ := Option.map_eq_some_iff.1 hx
    exact hr j _ (by simp [scells, hl1])) hg (by rw [h1]; omega) (by rw [h1]; omega) (by
    rw [h2]
    show (Lib.join L []).length ≤ _
    rw [Nd.join_flat]
    omega)
  rw [h1, h2] at h3
  rw [← Nd.join_flat]
  exact h3
theorem Nd.all32_flat (l : List (List UInt8)) (h : Nd.all32 l = true) : l.flatten.length ≤ 32 * l.length := by
  induction l with
  | nil => simp
  | cons a l ih =>
    rw [Nd.all32_cons, Bool.and_eq_true] at h
    have h1 := ih h.2
    have h2 : a.length ≤ 32 := by
      have := h.1
      simp only [Bool.or_eq_true, decide_eq_true_eq] at this
      rcases this with q | q
      · rw [q]; simp
      · omega
    rw [List.flatten_cons, List.length_append, List.length_cons]
    omega
theorem Nd.fine_parts {n : N} (h : Nd.fine n = true) : Nd.all32 n.kids = true ∧ Nib.fitL n.path = true ∧ n.path.length ≤ 16 ∧ n.val.length ≤ 32 ∧ (n.kind = 1 ∨ n.kind = 2 ∨ n.kind = 3) := by
  simp only [Nd.fine, Bool.and_eq_true, decide_eq_true_eq] at h
  obtain ⟨a, b, c, d, e⟩ := h
  refine ⟨a, b, c, d, ?_⟩
  by_cases k1 : n.kind = 1
  · exact Or.inl k1
  by_cases k2 : n.kind = 2
  · exact Or.inr (Or.inl k2)
  by_cases k3 : n.kind = 3
  · exact Or.inr (Or.inr k3)
  rw [if_neg k1, if_neg k2, if_neg k3] at e
  cases e
theorem Code.textL_le' (s : List UInt8) (n : Nat) (h : s.length ≤ n) (hn : n ≤ 100) : (Code.textL s).length ≤ n + 9 := by
  rw [Code.textL, List.length_append, Code.numL_length]
  have : Code.sz s.length ≤ 8 := Code.sz_le8 s.length (by omega)
  omega
end Go.Proofs.YtbkanebkobjnnaaGreatDoor
namespace Go.Proofs.YtbkanebkobjnnaaGreatDoor
open Go.RowKit
open Go.Proofs.YtbkanebkobjnnaaGreatDoor.Nd (N)
attribute [local go_sem ↓] Go.wp_at_zero Go.wp_at_succ

def load16 (v : Value) : Sem Value := Instr.loadAt 71 v
theorem wp_load16 {P : Program} {dst : Option Tmp} {x : Operand} {ty : TypeId} {pos : String} {after : Array Edge} {guard : Option (Nat × Bool)} {a : Act} {w : World} {K : Act → World → Prop} {Q : Exit → Act → World → Prop} :
    Oper.wp P { dst := dst, op := .load 71 x, type := ty, pos := pos, after := after, guard := guard } a w K Q = Oper.upon P { dst := dst, op := .load 71 x, type := ty, pos := pos, after := after, guard := guard } a K Q (((load16 (a.eval x)).run P w).andThen fun v w' => .ok (.value v) w') := by
  unfold Oper.wp execOp load16
  simp only [Sem.run_bind, Sem.run_pure]
attribute [local go_sem ↓] wp_load16
theorem run_l16 {w : World} {g o : Nat} {L : List (List UInt8)} (hc : w.rangeAt g o (scells L)) (hi : (Tryz.prog.info? 71).map (·.size) = some (scells L).length) : (load16 (.pointer (some ⟨g, o, none⟩))).run Tryz.prog w = .ok (aval L) w :=
  run_loadAt_mid (P := Tryz.prog) w g o 71 (scells L) _ hc Tryz.underlying71 rfl hi
def Nd.encS (n : N) : List UInt8 := if Nd.fine n then Nd.written n else []
def Nd.encC (n : N) : Int := if Nd.fine n then 0 else 80
set_option maxRecDepth 100000 in
set_option maxHeartbeats 2000000 in
theorem nencode_any (n : N) (w : World) (hn : n.kids.length = 16) :
    Calls Tryz.prog 82 #[ndval n] w fun e w' => e = .returned (.tuple #[.string ⟨(Nd.encS n).toArray⟩, .int .i64 (Nd.encC n)]) ∧ Below w.heap.size w w' := by
  obtain ⟨C, hC, HB0, HCE, HI, HI2⟩ := nbox n w hn
  have HCK := Lib.hid (fun w => ncheck_any n w hn)
  unfold Nd.encS Nd.encC
  unfold ndval at HCK ⊢
  rw [hC] at HCK ⊢
  clear hC
  obtain ⟨-, -, -, -, -, cR⟩ := HCE.out _ (Below.refl _ _)
  have HRO := Lib.hid cR
  clear cR
  cases hf : Nd.fine n with
  | false =>
    rw [hf] at HCK
    rw [if_neg (by decide), if_neg (by decide)]
    rw [if_neg (by decide)] at HCK
    clear hf
    go_enter Tryz.func82, Tryz.ntmps82
    go_wp2_with (refine wpList_load_row (by rfl) _ _ (by rfl) w.heap.size (by rfl) _ C _ _ HRO.out Tryz.underlying73 (by rfl) HI.out ?_)
    refine (HCK.out _).mono ?_
    rintro e w1 ⟨rfl, hb1⟩
    go_wp2
    go_ret2
    exact ⟨rfl, bchain HB0.out hb1⟩
  | true =>
    rw [hf] at HCK
    rw [if_pos rfl, if_pos rfl]
    rw [if_pos rfl] at HCK
    obtain ⟨hall, hfit, hp16, hv32, hkd⟩ := Nd.fine_parts hf
    have HTX := Lib.hid (fun w => text_any n.val w (by omega))
    have HPL := Lib.hid (fun w => npacked_any n.path true w hp16 hfit)
    have HPE := Lib.hid (fun w => npacked_any n.path false w hp16 hfit)
    have HTK := Lib.hid (fun w => ntaken_any n.kids w hn)
    have hfl := Nd.all32_flat n.kids hall
    have HJN := Lib.hid (fun g w hg hr => njoin_any n.kids g w hn hg hr (by omega))
    have ht1 := Code.textL_le' (Nib.packL n.path true) 9 (by rw [Nib.packL_length]; omega) (by omega)
    have ht2 := Code.textL_le' (Nib.packL n.path false) 9 (by rw [Nib.packL_length]; omega) (by omega)
    have ht3 := Code.textL_le' n.val 32 hv32 (by omega)
    have hw : Nd.written n = if n.kind = 3 then [3] ++ (([Nd.byteN (Nd.bits8 (n.kids.take 8)), Nd.byteN (Nd.bits8 (n.kids.drop 8))] ++ n.kids.flatten) ++ Code.textL n.val) else if n.kind = 1 then [1] ++ (Code.textL (Nib.packL n.path true) ++ Code.textL n.val) else [2] ++ (Code.textL (Nib.packL n.path false) ++ n.kids.getD 0 []) := by
      unfold Nd.written Nd.branchL
      rcases hkd with k | k | k <;> rw [k] <;> simp
    rw [hw]
    have hz32 : (n.kids.getD 0 []).length ≤ 32 := by
      have := List.all_eq_true.1 hall (n.kids[0]'(by omega)) (List.getElem_mem _)
      rw [List.getD_eq_getElem?_getD, List.getElem?_eq_getElem (by omega)]
      simp only [Bool.or_eq_true, decide_eq_true_eq] at this
      show (n.kids[0]'(by omega)).length ≤ 32
      rcases this with q | q
      · rw [q]; simp
      · omega
    clear hw hall hfit hp16 hv32 hf
    rcases hkd with hk | hk | hk
    · rw [if_neg (by rw [hk]; decide), if_pos hk]
      have HCF : Hid (∀ w', Below (w.alloc (.cells C 73)).heap.size (w.alloc (.cells C 73)) w' → w'.cell? ⟨w.heap.size, 0, none⟩ = some (.int .i64 1) ∧ w'.cell? ⟨w.heap.size, 1, none⟩ = some (.string ⟨n.path.toArray⟩) ∧ w'.cell? ⟨w.heap.size, 2, none⟩ = some (.string ⟨n.val.toArray⟩)) := Lib.hid (fun w' h => by obtain ⟨a, b, c, -⟩ := HCE.out w' h; rw [hk] at a; exact ⟨a, b, c⟩)
      obtain ⟨T1, hT1⟩ : ∃ T, Code.textL (Nib.packL n.path true) = T := ⟨_, rfl⟩
      obtain ⟨T2, hT2⟩ : ∃ T, Code.textL n.val = T := ⟨_, rfl⟩
      rw [hT1] at HPL ht1 ⊢
      rw [hT2] at HTX ht3 ⊢
      have h1 := cat_mk T1 T2
      have h2 := cat_mk [1] (T1 ++ T2)
      have hX1 : (T1 ++ T2).length ≤ 59 := by rw [List.length_append]; omega
      have hY1 : ([1] ++ (T1 ++ T2) : List UInt8).length ≤ 60 := by rw [List.length_append]; simp only [List.length_singleton]; omega
      obtain ⟨X, hX⟩ : ∃ X, T1 ++ T2 = X := ⟨_, rfl⟩
      rw [hX] at h1 h2 hX1 hY1 ⊢
      obtain ⟨Y, hY⟩ : ∃ Y, ([1] ++ X : List UInt8) = Y := ⟨_, rfl⟩
      rw [hY] at h2 hY1 ⊢
      clear hT1 hT2 hX hY HPE HTK HJN hz32 ht2 hfl
      go_enter Tryz.func82, Tryz.ntmps82
      go_wp2_with (refine wpList_load_row (by rfl) _ _ (by rfl) w.heap.size (by rfl) _ C _ _ HRO.out Tryz.underlying73 (by rfl) HI.out ?_)
      refine (HCK.out _).mono ?_
      rintro e w1 ⟨rfl, hb1⟩
      generalize (w.alloc (.cells C 73)) = w0 at *
      have hb2 : Below w0.heap.size w0 (w1.alloc (.cells #[.int .u8 1] 5)) := hb1.alloc hb1.size _
      obtain ⟨c0, c1, c2⟩ := HCF.out _ hb1
      obtain ⟨d0, d1, d2⟩ := HCF.out _ hb2
      have HB1 := Lib.hid hb1
      have HFI : Hid (∀ w', Below w0.heap.size w0 w' → Below w.heap.size w w') := Lib.hid (fun w' h => bchain HB0.out h)
      have HBD := Lib.hid hb2.drew
      have HPL' : Hid (∀ w', Below w0.heap.size w0 w' → Calls Tryz.prog 94 #[.string ⟨n.path.toArray⟩, .bool true] w' fun e w'' => e = .returned (.string ⟨T1.toArray⟩) ∧ Below w0.heap.size w0 w'') := Lib.hid (fun w' h => (HPL.out w').mono fun e w'' q => ⟨q.1, h.trans (q.2.mono h.size)⟩)
      have HTX' : Hid (∀ w', Below w0.heap.size w0 w' → Calls Tryz.prog 95 #[.string ⟨n.val.toArray⟩] w' fun e w'' => e = .returned (.string ⟨T2.toArray⟩) ∧ Below w0.heap.size w0 w'') := Lib.hid (fun w' h => (HTX.out w').mono fun e w'' q => ⟨q.1, h.trans (q.2.mono h.size)⟩)
      have kc := conv_one' w1 1 1 rfl w1.heap.size rfl
      clear hb1 hb2
      go_wp2
      have BD := HBD.out
      go_region_with (first | (go_at_call 94; refine (HPL'.out _ (by with_reducible assumption)).mono ?_; rintro e w2 ⟨rfl, hb2⟩; have e1 := (HCF.out _ hb2).2.1; have e2 := (HCF.out _ hb2).2.2) | (go_at_call 95; refine (HTX'.out _ (by with_reducible assumption)).mono ?_; rintro e w3 ⟨rfl, hb3⟩; have f1 := (HCF.out _ hb3).2.1; have f2 := (HCF.out _ hb3).2.2))
      all_goals
        go_wp2
        go_ret2
        first | exact ⟨rfl, HFI.out _ hb3⟩ | exact ⟨rfl, HFI.out _ hb2⟩
    · rw [if_neg (by rw [hk]; decide), if_neg (by rw [hk]; decide)]
      have HCF : Hid (∀ w', Below (w.alloc (.cells C 73)).heap.size (w.alloc (.cells C 73)) w' → w'.cell? ⟨w.heap.size, 0, none⟩ = some (.int .i64 2) ∧ w'.cell? ⟨w.heap.size, 1, none⟩ = some (.string ⟨n.path.toArray⟩) ∧ w'.cell? ⟨w.heap.size, 3, none⟩ = some (.string ⟨(n.kids.getD 0 []).toArray⟩)) := Lib.hid (fun w' h => by obtain ⟨a, b, -, c, -⟩ := HCE.out w' h; rw [hk] at a; exact ⟨a, b, c⟩)
      obtain ⟨T1, hT1⟩ : ∃ T, Code.textL (Nib.packL n.path false) = T := ⟨_, rfl⟩
      obtain ⟨T2, hT2⟩ : ∃ T, n.kids.getD 0 [] = T := ⟨_, rfl⟩
      rw [hT1] at HPE ht2 ⊢
      rw [hT2] at HCF hz32 ⊢
      have h1 := cat_mk T1 T2
      have h2 := cat_mk [2] (T1 ++ T2)
      have hX1 : (T1 ++ T2).length ≤ 59 := by rw [List.length_append]; omega
      have hY1 : ([2] ++ (T1 ++ T2) : List UInt8).length ≤ 60 := by rw [List.length_append]; simp only [List.length_singleton]; omega
      obtain ⟨X, hX⟩ : ∃ X, T1 ++ T2 = X := ⟨_, rfl⟩
      rw [hX] at h1 h2 hX1 hY1 ⊢
      obtain ⟨Y, hY⟩ : ∃ Y, ([2] ++ X : List UInt8) = Y := ⟨_, rfl⟩
      rw [hY] at h2 hY1 ⊢
      clear hT1 hT2 hX hY HPL HTK HJN HTX ht1 ht3 hfl
      go_enter Tryz.func82, Tryz.ntmps82
      go_wp2_with (refine wpList_load_row (by rfl) _ _ (by rfl) w.heap.size (by rfl) _ C _ _ HRO.out Tryz.underlying73 (by rfl) HI.out ?_)
      refine (HCK.out _).mono ?_
      rintro e w1 ⟨rfl, hb1⟩
      generalize (w.alloc (.cells C 73)) = w0 at *
      have hb2 : Below w0.heap.size w0 (w1.alloc (.cells #[.int .u8 2] 5)) := hb1.alloc hb1.size _
      obtain ⟨c0, c1, c2⟩ := HCF.out _ hb1
      obtain ⟨d0, d1, d2⟩ := HCF.out _ hb2
      have HFI : Hid (∀ w', Below w0.heap.size w0 w' → Below w.heap.size w w') := Lib.hid (fun w' h => bchain HB0.out h)
      have HBD := Lib.hid hb2.drew
      have HPL' : Hid (∀ w', Below w0.heap.size w0 w' → Calls Tryz.prog 94 #[.string ⟨n.path.toArray⟩, .bool false] w' fun e w'' => e = .returned (.string ⟨T1.toArray⟩) ∧ Below w0.heap.size w0 w'') := Lib.hid (fun w' h => (HPE.out w').mono fun e w'' q => ⟨q.1, h.trans (q.2.mono h.size)⟩)
      have kc := conv_one' w1 2 2 rfl w1.heap.size rfl
      clear hb1 hb2
      go_wp2
      have BD := HBD.out
      go_region_with (go_at_call 94; refine (HPL'.out _ (by with_reducible assumption)).mono ?_; rintro e w2 ⟨rfl, hb2⟩; have e1 := (HCF.out _ hb2).2.1; have e2 := (HCF.out _ hb2).2.2)
      all_goals
        go_wp2
        go_ret2
        exact ⟨rfl, HFI.out _ hb2⟩
    · rw [if_pos hk]
      have HCF : Hid (∀ w', Below (w.alloc (.cells C 73)).heap.size (w.alloc (.cells C 73)) w' → w'.cell? ⟨w.heap.size, 0, none⟩ = some (.int .i64 3) ∧ w'.cell? ⟨w.heap.size, 2, none⟩ = some (.string ⟨n.val.toArray⟩) ∧ (load16 (.pointer (some ⟨w.heap.size, 3, none⟩))).run Tryz.prog w' = .ok (aval n.kids) w') := Lib.hid (fun w' h => by obtain ⟨a, -, b, -, c, -⟩ := HCE.out w' h; rw [hk] at a; exact ⟨a, b, run_l16 c HI2.out⟩)
      obtain ⟨AV, hAV⟩ : ∃ v, aval n.kids = v := ⟨_, rfl⟩
      rw [hAV] at HCF HTK
      obtain ⟨T1, hT1⟩ : ∃ T, [Nd.byteN (Nd.bits8 (n.kids.take 8)), Nd.byteN (Nd.bits8 (n.kids.drop 8))] = T := ⟨_, rfl⟩
      obtain ⟨J, hJ⟩ : ∃ T, n.kids.flatten = T := ⟨_, rfl⟩
      obtain ⟨T2, hT2⟩ : ∃ T, Code.textL n.val = T := ⟨_, rfl⟩
      have hT1l : T1.length = 2 := by rw [← hT1]; rfl
      rw [hT1] at HTK ⊢
      rw [hJ] at HJN hfl ⊢
      rw [hT2] at HTX ht3 ⊢
      rw [hn] at hfl
      have h0 := cat_mk T1 J
      have h1 := cat_mk (T1 ++ J) T2
      have h2 := cat_mk [3] (T1 ++ J ++ T2)
      have hZ1 : (T1 ++ J).length ≤ 514 := by rw [List.length_append]; omega
      have hX1 : (T1 ++ J ++ T2).length ≤ 600 := by rw [List.length_append]; omega
      have hY1 : ([3] ++ (T1 ++ J ++ T2) : List UInt8).length ≤ 601 := by rw [List.length_append]; simp only [List.length_singleton]; omega
      obtain ⟨Z, hZ⟩ : ∃ Z, T1 ++ J = Z := ⟨_, rfl⟩
      rw [hZ] at h0 h1 h2 hZ1 hX1 hY1 ⊢
      obtain ⟨X, hX⟩ : ∃ X, Z ++ T2 = X := ⟨_, rfl⟩
      rw [hX] at h1 h2 hX1 hY1 ⊢
      obtain ⟨Y, hY⟩ : ∃ Y, ([3] ++ X : List UInt8) = Y := ⟨_, rfl⟩
      rw [hY] at h2 hY1 ⊢
      have hsz : w.heap.size < (w.alloc (.cells C 73)).heap.size := by simp
      clear hT1 hT2 hJ hZ hX hY HPL HPE ht1 ht2 hz32 hAV
      go_enter Tryz.func82, Tryz.ntmps82
      go_wp2_with (refine wpList_load_row (by rfl) _ _ (by rfl) w.heap.size (by rfl) _ C _ _ HRO.out Tryz.underlying73 (by rfl) HI.out ?_)
      refine (HCK.out _).mono ?_
      rintro e w1 ⟨rfl, hb1⟩
      generalize (w.alloc (.cells C 73)) = w0 at *
      have hb2 : Below w0.heap.size w0 (w1.alloc (.cells #[.int .u8 3] 5)) := hb1.alloc hb1.size _
      obtain ⟨c0, c1, c2⟩ := HCF.out _ hb1
      obtain ⟨d0, d1, d2⟩ := HCF.out _ hb2
      have HFI : Hid (∀ w', Below w0.heap.size w0 w' → Below w.heap.size w w') := Lib.hid (fun w' h => bchain HB0.out h)
      have HBD := Lib.hid hb2.drew
      have HTK' : Hid (∀ w', Below w0.heap.size w0 w' → Calls Tryz.prog 96 #[AV] w' fun e w'' => e = .returned (.string ⟨T1.toArray⟩) ∧ Below w0.heap.size w0 w'') := Lib.hid (fun w' h => (HTK.out w').mono fun e w'' q => ⟨q.1, h.trans (q.2.mono h.size)⟩)
      have HTX' : Hid (∀ w', Below w0.heap.size w0 w' → Calls Tryz.prog 95 #[.string ⟨n.val.toArray⟩] w' fun e w'' => e = .returned (.string ⟨T2.toArray⟩) ∧ Below w0.heap.size w0 w'') := Lib.hid (fun w' h => (HTX.out w').mono fun e w'' q => ⟨q.1, h.trans (q.2.mono h.size)⟩)
      have HJN' : Hid (∀ w', Below w0.heap.size w0 w' → Calls Tryz.prog 97 #[.slice (some ⟨w.heap.size, 3, none⟩) 16 16, .string ⟨#[]⟩] w' fun e w'' => e = .returned (.string ⟨J.toArray⟩) ∧ Below w0.heap.size w0 w'') := Lib.hid (fun w' h => (HJN.out w.heap.size w' (Nat.lt_of_lt_of_le hsz h.size) (HCE.out w' h).2.2.2.2.1).mono fun e w'' q => ⟨q.1, h.trans (q.2.mono h.size)⟩)
      have kc := conv_one' w1 3 3 rfl w1.heap.size rfl
      have e2 : (load16 (.pointer (some ⟨w.heap.size, 3, none⟩))).run Tryz.prog (w1.alloc (.cells #[.int .u8 3] 5)).drew = .ok AV (w1.alloc (.cells #[.int .u8 3] 5)).drew := (HCF.out _ HBD.out).2.2
      clear hb1 hb2 hsz hn
      go_wp2
      have BD := HBD.out
      go_region_with (first | (go_at_call 96; refine (HTK'.out _ (by with_reducible assumption)).mono ?_; rintro e w2 ⟨rfl, hb2⟩; have e1 := (HCF.out _ hb2).2.1; have e2 := (HCF.out _ hb2).2.2) | (go_at_call 97; refine (HJN'.out _ (by with_reducible assumption)).mono ?_; rintro e w3 ⟨rfl, hb3⟩; have f1 := (HCF.out _ hb3).2.1; have f2 := (HCF.out _ hb3).2.2) | (go_at_call 95; refine (HTX'.out _ (by with_reducible assumption)).mono ?_; rintro e w4 ⟨rfl, hb4⟩; have q1 := (HCF.out _ hb4).2.1; have q2 := (HCF.out _ hb4).2.2))
      all_goals
        go_wp2
        go_ret2
        first | exact ⟨rfl, HFI.out _ hb4⟩ | exact ⟨rfl, HFI.out _ hb3⟩ | exact ⟨rfl, HFI.out _ hb2⟩
end Go.Proofs.YtbkanebkobjnnaaGreatDoor
namespace Go.Proofs.YtbkanebkobjnnaaGreatDoor

abbrev Pw.St := List UInt8 × Int
end Go.Proofs.YtbkanebkobjnnaaGreatDoor
namespace Go.Proofs.YtbkanebkobjnnaaGreatDoor
open Go.RowKit

theorem Only.out {g : Nat} {w w' : World} (h : Only g w w') : Out (fun k => k = g) w w' := ⟨h.os, h.tape, h.output, h.size, h.block⟩
end Go.Proofs.YtbkanebkobjnnaaGreatDoor
namespace Go.Proofs.YtbkanebkobjnnaaGreatDoor
open Go.Proofs.YtbkanebkobjnnaaGreatDoor.Nd (N)

end Go.Proofs.YtbkanebkobjnnaaGreatDoor
namespace Go.Proofs.YtbkanebkobjnnaaGreatDoor
open Go.RowKit
open Go.Proofs.YtbkanebkobjnnaaGreatDoor.Nd (N)

/-- The sixteen read so far, the others empty. -/
def Nd.part (L : List (List UInt8)) : List (List UInt8) := L ++ List.replicate (16 - L.length) []
theorem Nd.part_len (L : List (List UInt8)) (h : L.length ≤ 16) : (Nd.part L).length = 16 := by
  unfold Nd.part
  rw [List.length_append, List.length_replicate]
  omega
theorem Nd.part_set (L : List (List UInt8)) (x : List UInt8) (h : L.length < 16) : (Nd.part L).set L.length x = Nd.part (L ++ [x]) := by
  unfold Nd.part
  rw [List.set_append_right _ _ (Nat.le_refl _), Nat.sub_self, List.length_append, List.append_assoc, List.length_singleton]
  obtain ⟨j, hj⟩ : ∃ j, 16 - L.length = j + 1 := ⟨16 - L.length - 1, by omega⟩
  rw [hj, show 16 - (L.length + 1) = j by omega, List.replicate_succ]
  rfl
theorem Nd.part_nil (L : List (List UInt8)) (h : L.length < 16) : Nd.part L = Nd.part (L ++ [[]]) := by
  unfold Nd.part
  rw [List.length_append, List.append_assoc, List.length_singleton]
  obtain ⟨j, hj⟩ : ∃ j, 16 - L.length = j + 1 := ⟨16 - L.length - 1, by omega⟩
  rw [hj, show 16 - (L.length + 1) = j by omega, List.replicate_succ]
  rfl
theorem Nd.part_all (L : List (List UInt8)) (h : L.length = 16) : Nd.part L = L := by
  unfold Nd.part
  rw [h]
  simp
theorem Out.setRow {F : Nat → Prop} {a w : World} (h : Out F a w) {q : Nat} (hq : F q) (cs : Array Value) : Out F a (w.setRow q cs) :=
  ⟨h.os, h.tape, h.output, by rw [size_setRow]; exact h.size, fun i hi hf => by
    have hne : q ≠ i := fun e => hf (e ▸ hq)
    refine Eq.trans ?_ (h.block i hi hf)
    simp only [World.setRow, Array.getElem?_modify, if_neg hne]⟩
theorem setRow_at {w : World} {q : Nat} {old cs : Array Value} {t : TypeId} {fr : Nat × Nat} (h : w.heap[q]? = some (.cells old t fr)) : (w.setRow q cs).heap[q]? = some (.cells cs t fr) := by
  simp [World.setRow, Array.getElem?_modify, h]
end Go.Proofs.YtbkanebkobjnnaaGreatDoor
namespace Go.Proofs.YtbkanebkobjnnaaGreatDoor
open Go.RowKit
open Go.Proofs.YtbkanebkobjnnaaGreatDoor.Nd (N)

theorem wpList_build_some {P : Program} {ops : Array Oper} {rest : List Oper} {o : Oper} {a : Act} {w : World} {Q : Exit → Act → World → Prop} (hg : o.guard = none) (t : TypeId) (parts : Array (Nat × Operand)) (ho : o.op = .build t parts)
    (L : List (Nat × Value)) (hL : (parts.map fun (i, x) => (i, a.eval x)).toList = L) (C : Array Value) (hC : P.built t L = some C)
    (h : wpList P ops Q rest (a.put o.dst (.agg C)) w) : wpList P ops Q (o :: rest) a w :=
  wpList_build hg t parts ho (by rw [hL, hC]; rfl) (by rw [hL, hC]; exact h)
theorem Only.two {g q : Nat} {a b : World} (h : Only g a b) : Out (fun j => j = g ∨ j = q) a b := h.out.mono (fun _ _ e => Or.inl e)
theorem NodeAt.setPath {w : World} {g : Nat} {n : N} (h : NodeAt w g n) (p : List UInt8) : NodeAt (w.setCell ⟨g, 1, none⟩ (.string ⟨p.toArray⟩)) g { n with path := p } := by
  have := heap_setCell_same w g 1 _ _ (.string ⟨p.toArray⟩) h
  unfold NodeAt
  rw [this]
  simp [ncl]
theorem NodeAt.setVal {w : World} {g : Nat} {n : N} (h : NodeAt w g n) (v : List UInt8) : NodeAt (w.setCell ⟨g, 2, none⟩ (.string ⟨v.toArray⟩)) g { n with val := v } := by
  have := heap_setCell_same w g 2 _ _ (.string ⟨v.toArray⟩) h
  unfold NodeAt
  rw [this]
  simp [ncl]
theorem NodeAt.setKid {w : World} {g : Nat} {n : N} (h : NodeAt w g n) (i : Nat) (x : List UInt8) : NodeAt (w.setCell ⟨g, 3 + i, none⟩ (.string ⟨x.toArray⟩)) g { n with kids := n.kids.set i x } := by
  have := heap_setCell_same w g (3 + i) _ _ (.string ⟨x.toArray⟩) h
  unfold NodeAt
  rw [this, Nat.add_comm 3 i]
  simp [ncl, scells_set]
theorem NodeAt.free {w : World} {g : Nat} {n : N} (h : NodeAt w g n) (i : Nat) : w.frozen? ⟨g, i, none⟩ = false := frozen_of_row _ _ _ _ _ h
theorem NodeAt.there {w : World} {g : Nat} {n : N} (h : NodeAt w g n) (hn : n.kids.length = 16) : w.there g 3 16 := fun j hj => ⟨by rw [h.kid j (by omega)]; rfl, h.free _⟩
theorem ncl_one (n : N) : (ncl n).toArray.all (·.oneCell') = true := by
  have := scells_one n.kids
  simp [ncl, scells, Value.oneCell']
end Go.Proofs.YtbkanebkobjnnaaGreatDoor
namespace Go.Proofs.YtbkanebkobjnnaaGreatDoor
open Go.RowKit
open Go.Proofs.YtbkanebkobjnnaaGreatDoor.Nd (N)

def Nd.bigB (n : N) : Bool := n.kids.any (fun k => decide (100 < k.length)) || (decide (100 < n.path.length) || decide (100 < n.val.length))
theorem Nd.small {n : N} (h : Nd.bigB n = false) : (∀ x ∈ n.kids, x.length ≤ 100) ∧ n.path.length ≤ 100 ∧ n.val.length ≤ 100 := by
  simp only [Nd.bigB, Bool.or_eq_false_iff, decide_eq_false_iff_not, List.any_eq_false, decide_eq_true_eq] at h
  exact ⟨fun x hx => by have := h.1 x hx; omega, by omega, by omega⟩

theorem Nd.written_most (m : N) (hm : m.kids.length = 16) (hf : Nd.fine m = true) : (Nd.written m).length ≤ 700 := by
  obtain ⟨a, b, c, d, e⟩ := Nd.fine_parts hf
  have h1 := Nd.all32_flat m.kids a
  have h2 := Code.textL_le' m.val 32 d (by omega)
  have h3 := Code.textL_le' (Nib.packL m.path (decide (m.kind = 1))) 9 (by rw [Nib.packL_length]; omega) (by omega)
  have hz : (m.kids.getD 0 []).length ≤ 32 := by
    have := List.all_eq_true.1 a (m.kids[0]'(by omega)) (List.getElem_mem _)
    rw [List.getD_eq_getElem?_getD, List.getElem?_eq_getElem (by omega)]
    simp only [Bool.or_eq_true, decide_eq_true_eq] at this
    show (m.kids[0]'(by omega)).length ≤ 32
    rcases this with q | q
    · rw [q]; simp
    · omega
  unfold Nd.written Nd.branchL
  rw [List.length_cons]
  split
  · simp only [List.length_cons, List.length_append]
    omega
  · rw [List.length_append]
    split <;> omega

/-! ### the chapter's examples -/
def Nd.wL : N := ⟨1, [4, 1], [118], Nd.none16⟩
end Go.Proofs.YtbkanebkobjnnaaGreatDoor
namespace Go.Proofs.YtbkanebkobjnnaaGreatDoor
open Go.RowKit

theorem fit_head (a : UInt8) (ha : a.toNat ≤ 15) (l : List UInt8) (h : Nib.fitL l = true) : Nib.fitL (a :: l) = true := Nib.fit_cons a l ha h
theorem kinds (n : Nat) : (Nib.kindL n false).toNat = n % 2 ∧ (Nib.kindL n true).toNat = n % 2 + 2 := by
  unfold Nib.kindL
  rcases Nat.mod_two_eq_zero_or_one n with h | h <;> simp [h]

set_option maxHeartbeats 400000 in
theorem rpack_even (l : List UInt8) (leaf : Bool) (w : World) (hl : l.length ≤ 100000) (hf : Nib.fitL l = true) (ho : l.length % 2 = 0) :
    Calls Tryz.prog 99 #[.string ⟨l.toArray⟩, .bool leaf] w fun e w' => e = .returned (.tuple #[.string ⟨(Nib.packL l leaf).toArray⟩, .int .i64 0]) ∧ Below w.heap.size w w' := by
  have HF := Lib.hid hf; clear hf
  have HP : Hid (Nib.packL l leaf = Nib.joinL ([Nib.kindL l.length leaf, 0] ++ l)) := by
    unfold Hid Nib.packL Nib.headL; rw [if_neg (by omega)]
  have hm : (l.length : Int) % 2 = 0 := by omega
  have HK := Lib.hid (kinds l.length)
  have HO := Lib.hid ho
  clear ho
  cases leaf
  · have hcv := conv_two' w (Nib.kindL l.length false) 0 0 0 (by rw [HK.out.1, HO.out]; rfl) rfl
    go_enter Tryz.func99, Tryz.ntmps99
    go_wp2_with fail
    refine (rfit_any l w (by omega)).mono ?_
    rintro e w1 ⟨rfl, rfl⟩
    rw [HF.out]
    go_wp2_with fail
    rw [cat_mk]
    refine (rkey_good ([Nib.kindL l.length false, 0] ++ l) _ (by simp; omega) (fit_head _ (by rw [HK.out.1]; omega) _ (fit_head 0 (by simp) l HF.out)) (by have := HO.out; simp; omega)).mono ?_
    rintro e w1 ⟨rfl, hb⟩
    go_wp2
    go_ret2
    rw [HP.out]
    exact ⟨rfl, bchain ((Below.refl _ _).alloc (Nat.le_refl _) _) hb⟩
  · have hcv := conv_two' w (Nib.kindL l.length true) 0 2 0 (by rw [HK.out.2, HO.out]; rfl) rfl
    go_enter Tryz.func99, Tryz.ntmps99
    go_wp2_with fail
    refine (rfit_any l w (by omega)).mono ?_
    rintro e w1 ⟨rfl, rfl⟩
    rw [HF.out]
    go_wp2_with fail
    rw [cat_mk]
    refine (rkey_good ([Nib.kindL l.length true, 0] ++ l) _ (by simp; omega) (fit_head _ (by rw [HK.out.2]; omega) _ (fit_head 0 (by simp) l HF.out)) (by have := HO.out; simp; omega)).mono ?_
    rintro e w1 ⟨rfl, hb⟩
    go_wp2
    go_ret2
    rw [HP.out]
    exact ⟨rfl, bchain ((Below.refl _ _).alloc (Nat.le_refl _) _) hb⟩

set_option maxHeartbeats 400000 in
theorem rpack_odd (l : List UInt8) (leaf : Bool) (w : World) (hl : l.length ≤ 100000) (hf : Nib.fitL l = true) (ho : l.length % 2 = 1) :
    Calls Tryz.prog 99 #[.string ⟨l.toArray⟩, .bool leaf] w fun e w' => e = .returned (.tuple #[.string ⟨(Nib.packL l leaf).toArray⟩, .int .i64 0]) ∧ Below w.heap.size w w' := by
  have HF := Lib.hid hf; clear hf
  have HP : Hid (Nib.packL l leaf = Nib.joinL ([Nib.kindL l.length leaf] ++ l)) := by
    unfold Hid Nib.packL Nib.headL; rw [if_pos ho]
  have hm : (l.length : Int) % 2 = 1 := by omega
  have HK := Lib.hid (kinds l.length)
  have HO := Lib.hid ho
  clear ho
  cases leaf
  · have hcv := conv_two' w (Nib.kindL l.length false) 0 1 0 (by rw [HK.out.1, HO.out]; rfl) rfl
    have hcw := conv_one' (w.alloc (.cells #[.int .u8 1, .int .u8 0] 5)) (Nib.kindL l.length false) 1 (by rw [HK.out.1, HO.out]; rfl) (w.heap.size + 1) (by simp)
    go_enter Tryz.func99, Tryz.ntmps99
    go_wp2_with fail
    refine (rfit_any l w (by omega)).mono ?_
    rintro e w1 ⟨rfl, rfl⟩
    rw [HF.out]
    go_wp2_with fail
    rw [cat_mk]
    refine (rkey_good ([Nib.kindL l.length false] ++ l) _ (by simp; omega) (fit_head _ (by rw [HK.out.1]; omega) l HF.out) (by have := HO.out; simp; omega)).mono ?_
    rintro e w1 ⟨rfl, hb⟩
    go_wp2
    go_ret2
    rw [HP.out]
    exact ⟨rfl, bchain (((Below.refl _ _).alloc (Nat.le_refl _) _).alloc (by simp) _) hb⟩
  · have hcv := conv_two' w (Nib.kindL l.length true) 0 3 0 (by rw [HK.out.2, HO.out]; rfl) rfl
    have hcw := conv_one' (w.alloc (.cells #[.int .u8 3, .int .u8 0] 5)) (Nib.kindL l.length true) 3 (by rw [HK.out.2, HO.out]; rfl) (w.heap.size + 1) (by simp)
    go_enter Tryz.func99, Tryz.ntmps99
    go_wp2_with fail
    refine (rfit_any l w (by omega)).mono ?_
    rintro e w1 ⟨rfl, rfl⟩
    rw [HF.out]
    go_wp2_with fail
    rw [cat_mk]
    refine (rkey_good ([Nib.kindL l.length true] ++ l) _ (by simp; omega) (fit_head _ (by rw [HK.out.2]; omega) l HF.out) (by have := HO.out; simp; omega)).mono ?_
    rintro e w1 ⟨rfl, hb⟩
    go_wp2
    go_ret2
    rw [HP.out]
    exact ⟨rfl, bchain (((Below.refl _ _).alloc (Nat.le_refl _) _).alloc (by simp) _) hb⟩

end Go.Proofs.YtbkanebkobjnnaaGreatDoor
namespace Go.Proofs.YtbkanebkobjnnaaGreatDoor
open Go.RowKit

end Go.Proofs.YtbkanebkobjnnaaGreatDoor
namespace Go.Proofs.YtbkanebkobjnnaaGreatDoor
open Go.RowKit

theorem rpack_good (l : List UInt8) (leaf : Bool) (w : World) (hl : l.length ≤ 100000) (hf : Nib.fitL l = true) :
    Calls Tryz.prog 99 #[.string ⟨l.toArray⟩, .bool leaf] w fun e w' => e = .returned (.tuple #[.string ⟨(Nib.packL l leaf).toArray⟩, .int .i64 0]) ∧ Below w.heap.size w w' := by
  rcases Nat.mod_two_eq_zero_or_one l.length with h | h
  · exact rpack_even l leaf w hl hf h
  · exact rpack_odd l leaf w hl hf h
end Go.Proofs.YtbkanebkobjnnaaGreatDoor
namespace Go.Proofs.YtbkanebkobjnnaaGreatDoor
open Go.RowKit

set_option maxRecDepth 100000 in
set_option maxHeartbeats 400000 in
theorem rNumber_any (n : Nat) (hn : n < 2 ^ 63) (w : World) :
    Calls Tryz.prog 120 #[.int .i64 n] w fun e w' => e = .returned (.string ⟨(Code.numL n).toArray⟩) ∧ Below w.heap.size w w' := by
  have hn1 : (n : Int) < 9223372036854775808 := by omega
  go_enter Tryz.func120, Tryz.ntmps120
  go_wp2
  go_loopw [0, 3] (fun m s wr => ∃ (a : Nat) (t : List UInt8), a ≤ n ∧ m = .int .i64 a ∧ s = .string ⟨t.toArray⟩ ∧ Code.be (Code.sz a) a ++ t = Code.be (Code.sz n) n ∧ Below w.heap.size w wr) (fun m _ _ => (intOf m).toNat)
  case atStart => exact ⟨n, [], Nat.le_refl _, rfl, rfl, by simp, Below.refl _ _⟩
  case round =>
    obtain ⟨a, t, ha, rfl, rfl, ht, hbel⟩ := hrel
    have HT := Lib.hid ht
    clear ht
    by_cases h0 : a = 0
    · subst h0
      have hz : t = Code.be (Code.sz n) n := by have := HT.out; rw [Code.sz_zero] at this; exact this
      have hl := Code.be_length (Code.sz n) n
      rw [← hz] at hl
      have h8 := Code.sz_le8 n (by omega)
      have hZ := Lib.hid hz
      have hcv := conv_one' wr (UInt8.ofNat (Code.sz n)) (t.length : Int) (by rw [Code.ofNat_toNat _ (by omega)]; omega) _ rfl
      have htl : (t.length : Int) < 256 := by omega
      have hcm : ((⟨[UInt8.ofNat (Code.sz n)].toArray⟩ : ByteArray) ++ (⟨t.toArray⟩ : ByteArray)) = ⟨(Code.numL n).toArray⟩ := by
        rw [cat_mk, Code.numL, hZ.out]; rfl
      have hbel2 := hbel.alloc hbel.size (.cells #[.int .u8 (t.length : Int)] 5)
      clear hz h8 hl
      generalize UInt8.ofNat (Code.sz n) = y at hcv hcm
      go_wp2
      go_ret
      exact ⟨rfl, hbel2⟩
    · have hst : Code.be (Code.sz (a / 256)) (a / 256) ++ (UInt8.ofNat (a % 256) :: t) = Code.be (Code.sz n) n := by
        have := HT.out
        rw [Code.sz_pos a h0, Code.be, List.append_assoc] at this
        exact this
      have hyn := Code.ofNat_toNat (a % 256) (by omega)
      obtain ⟨y, hy⟩ : ∃ y, UInt8.ofNat (a % 256) = y := ⟨_, rfl⟩
      rw [hy] at hst hyn
      have hcv := conv_one' wr y (y.toNat : Int) rfl _ rfl
      have hrem : (a : Int) % 256 = (y.toNat : Int) := by omega
      obtain ⟨q, hq⟩ : ∃ q, a / 256 = q := ⟨_, rfl⟩
      have hquo : (a : Int) / 256 = (q : Int) := by omega
      have hyb := y.toNat_lt
      have hcm := cat_mk [y] t
      rw [List.singleton_append] at hcm
      obtain ⟨u, hu⟩ : ∃ u, y :: t = u := ⟨_, rfl⟩
      rw [hu] at hcm hst
      rw [hq] at hst
      have hqa : q < a := by omega
      have hul : u.length = t.length + 1 := by rw [← hu]; rfl
      have htl : t.length ≤ 8 := by
        have h1 := congrArg List.length HT.out
        rw [List.length_append, Code.be_length, Code.be_length] at h1
        have := Code.sz_le8 n (by omega)
        omega
      have ha0 : (0 : Int) < a := by omega
      have hS := Lib.hid hst
      have hbel2 := hbel.alloc hbel.size (.cells #[.int .u8 (y.toNat : Int)] 5)
      have ha9 : (a : Int) ≤ 9223372036854775807 := by omega
      have hqa9 := Lib.hid hqa
      have ha8 := Lib.hid ha
      clear hst hy hyn hu hq hn1 hn ha h0 hqa
      go_wp2
      go_roundw
      case rel => exact ⟨q, u, by have := hqa9.out; have := ha8.out; omega, by go_num, rfl, hS.out, hbel2⟩
      case measure => simp [intOf]; omega

theorem rText_any (s : List UInt8) (w : World) (hl : s.length ≤ 100000000) :
    Calls Tryz.prog 98 #[.string ⟨s.toArray⟩] w fun e w' => e = .returned (.string ⟨(Code.textL s).toArray⟩) ∧ Below w.heap.size w w' := by
  have hcm : ((⟨(Code.numL s.length).toArray⟩ : ByteArray) ++ (⟨s.toArray⟩ : ByteArray)) = ⟨(Code.textL s).toArray⟩ := by rw [cat_mk]; rfl
  have hnl : (Code.numL s.length).length ≤ 9 := by
    have := Code.numL_length s.length
    have := Code.sz_le8 s.length (by omega)
    omega
  have HM := Lib.hid hcm
  clear hcm
  go_enter Tryz.func98, Tryz.ntmps98
  go_wp2_with fail
  refine (rNumber_any s.length (by omega) w).mono ?_
  rintro e w1 ⟨rfl, hb⟩
  have hcm := HM.out
  generalize Code.numL s.length = x at hcm hnl ⊢
  go_wp2
  go_ret
  exact ⟨rfl, hb⟩
end Go.Proofs.YtbkanebkobjnnaaGreatDoor
namespace Go.Proofs.YtbkanebkobjnnaaGreatDoor
open Go.RowKit
open Go.Proofs.YtbkanebkobjnnaaGreatDoor.Nd (N)

theorem Code.textL_le (s : List UInt8) (n : Nat) (h : s.length ≤ n) (hn : n ≤ 100) : (Code.textL s).length ≤ n + 9 := by
  rw [Code.textL_length]
  have : Code.sz s.length ≤ 8 := Code.sz_le8 s.length (by omega)
  omega
set_option maxRecDepth 100000 in
set_option maxHeartbeats 2000000 in
theorem rWritten_flat (n : N) (w : World) (hk : n.kind = 1 ∨ n.kind = 2) (hn : n.kids.length = 16) (hf : Nib.fitL n.path = true) (hp : n.path.length ≤ 16) (hv : n.val.length ≤ 32) (hk0 : (n.kids.getD 0 []).length ≤ 32) :
    Calls Tryz.prog 83 #[ndval n] w fun e w' => e = .returned (.string ⟨(Nd.written n).toArray⟩) ∧ Below w.heap.size w w' := by
  have hat : NodeAt (w.alloc (.cells (ncl n).toArray 73)) w.heap.size n := heap_new_at w _ _ rfl
  have HAT := Lib.hid hat
  have hb0 : Below w.heap.size w (w.alloc (.cells (ncl n).toArray 73)) := (Below.refl _ w).alloc (Nat.le_refl _) _
  have HB0 := Lib.hid hb0
  have hkid : ∀ w' g, NodeAt w' g n → w'.cell? ⟨g, 3, none⟩ = some (.string ⟨(n.kids.getD 0 []).toArray⟩) := fun w' g h => by
    have h1 := h.kid 0 (by omega)
    have h2 : n.kids.getD 0 [] = n.kids[0]'(by omega) := by
      rw [List.getD_eq_getElem?_getD, List.getElem?_eq_getElem (by omega)]
      rfl
    rw [h2]
    exact h1
  have HCE : Hid (∀ w', Below (w.alloc (.cells (ncl n).toArray 73)).heap.size (w.alloc (.cells (ncl n).toArray 73)) w' → w'.cell? ⟨w.heap.size, 0, none⟩ = some (.int .i64 n.kind) ∧ w'.cell? ⟨w.heap.size, 1, none⟩ = some (.string ⟨n.path.toArray⟩) ∧ w'.cell? ⟨w.heap.size, 2, none⟩ = some (.string ⟨n.val.toArray⟩) ∧ w'.cell? ⟨w.heap.size, 3, none⟩ = some (.string ⟨(n.kids.getD 0 []).toArray⟩)) := Lib.hid (fun w' h => by
    have := hat.below h
    exact ⟨this.kind, this.path, this.val, hkid w' _ this⟩)
  have HPK := Lib.hid (fun leaf w => rpack_good n.path leaf w (by omega) hf)
  have hpl := Nib.packL_length n.path
  have HT := Lib.hid (fun s (h : s.length ≤ 100) w => rText_any s w (by omega))
  have htl := Code.textL_le n.val 32 hv (by omega)
  unfold ndval
  obtain ⟨C, hC⟩ : ∃ C, (ncl n).toArray = C := ⟨_, rfl⟩
  obtain ⟨Z, hZ⟩ : ∃ Z, n.kids.getD 0 [] = Z := ⟨_, rfl⟩
  obtain ⟨T2, hT2⟩ : ∃ T, Code.textL n.val = T := ⟨_, rfl⟩
  rcases hk with hk | hk
  · have hpl1 : (Nib.packL n.path true).length ≤ 9 := by rw [hpl]; omega
    have htl1 := Code.textL_le _ 9 hpl1 (by omega)
    have HT1 := Lib.hid (fun w => HT.out (Nib.packL n.path true) (by omega) w)
    have HT2 := Lib.hid (fun w => HT.out n.val (by omega) w)
    have HPK1 := Lib.hid (fun w => HPK.out true w)
    obtain ⟨P, hP⟩ : ∃ P, Nib.packL n.path true = P := ⟨_, rfl⟩
    obtain ⟨T1, hT1⟩ : ∃ T, Code.textL P = T := ⟨_, rfl⟩
    have hW : Nd.written n = [1] ++ T1 ++ T2 := by
      unfold Nd.written
      rw [hk, if_neg (by decide), if_pos rfl, ← hT1, ← hP, ← hT2]
      simp
    have h1 := cat_mk [1] T1
    have h2 := cat_mk ([1] ++ T1) T2
    rw [hP] at HT1 HPK1 htl1
    rw [hT1] at HT1 htl1
    rw [hT2] at HT2 htl
    rw [hk] at HCE
    rw [hW]
    rw [hC] at HB0 HCE ⊢
    have hlX : ([1] ++ T1 : List UInt8).length ≤ 30 := by simp; omega
    have hlW : ([1] ++ T1 ++ T2 : List UInt8).length ≤ 100 := by simp; omega
    obtain ⟨X, hX⟩ : ∃ X, ([1] ++ T1 : List UInt8) = X := ⟨_, rfl⟩
    rw [hX] at h1 h2 hlX hlW ⊢
    obtain ⟨Y, hY⟩ : ∃ Y, X ++ T2 = Y := ⟨_, rfl⟩
    rw [hY] at h2 hlW ⊢
    clear HAT hat hb0 hkid hpl hP hT1 hT2 hW hX hY hC hZ hf hp hv hk0 HPK HT hpl1
    obtain ⟨b0, -, -, -⟩ := HCE.out _ (Below.refl _ _)
    have hb1 : Below (w.alloc (.cells C 73)).heap.size (w.alloc (.cells C 73)) ((w.alloc (.cells C 73)).alloc (.cells #[.int .u8 1] 5)) := (Below.refl _ _).alloc (Nat.le_refl _) _
    obtain ⟨c0, c1, c2, c3⟩ := HCE.out _ hb1
    have HB1 := Lib.hid hb1
    have HFI : Hid (∀ w', Below (w.alloc (.cells C 73)).heap.size (w.alloc (.cells C 73)) w' → Below w.heap.size w w') := Lib.hid (fun w' h => HB0.out.trans (h.mono (by simp)))
    clear hb1
    have kc := conv_one' (w.alloc (.cells C 73)) 1 1 rfl (w.heap.size + 1) (by simp)
    go_enter Tryz.func83, Tryz.ntmps83
    go_wp2_with fail
    refine (HPK1.out _).mono ?_
    rintro e w1 ⟨rfl, hb⟩
    have HB2 := Lib.hid (bchain HB1.out hb)
    clear hb b0 c0 c1 c2 c3
    go_wp2_with fail
    refine (HT1.out _).mono ?_
    rintro e w2 ⟨rfl, hb⟩
    have HB3 := Lib.hid (bchain HB2.out hb)
    clear hb
    obtain ⟨c0, c1, c2, c3⟩ := HCE.out _ HB3.out
    go_wp2_with fail
    refine (HT2.out _).mono ?_
    rintro e w3 ⟨rfl, hb⟩
    have HB4 := Lib.hid (bchain HB3.out hb)
    go_wp2
    go_ret
    exact ⟨rfl, HFI.out _ HB4.out⟩
  · have hpl1 : (Nib.packL n.path false).length ≤ 9 := by rw [hpl]; omega
    have htl1 := Code.textL_le _ 9 hpl1 (by omega)
    have HT1 := Lib.hid (fun w => HT.out (Nib.packL n.path false) (by omega) w)
    have HPK1 := Lib.hid (fun w => HPK.out false w)
    obtain ⟨P, hP⟩ : ∃ P, Nib.packL n.path false = P := ⟨_, rfl⟩
    obtain ⟨T1, hT1⟩ : ∃ T, Code.textL P = T := ⟨_, rfl⟩
    have hW : Nd.written n = [2] ++ T1 ++ Z := by
      unfold Nd.written
      rw [hk, if_neg (by decide), if_neg (by decide), ← hT1, ← hP, hZ]
      simp
    have h1 := cat_mk [2] T1
    have h2 := cat_mk ([2] ++ T1) Z
    rw [hP] at HT1 HPK1 htl1
    rw [hT1] at HT1 htl1
    rw [hZ] at hk0 HCE
    rw [hk] at HCE
    rw [hW]
    rw [hC] at HB0 HCE ⊢
    have hlX : ([2] ++ T1 : List UInt8).length ≤ 30 := by simp; omega
    have hlW : ([2] ++ T1 ++ Z : List UInt8).length ≤ 100 := by simp; omega
    obtain ⟨X, hX⟩ : ∃ X, ([2] ++ T1 : List UInt8) = X := ⟨_, rfl⟩
    rw [hX] at h1 h2 hlX hlW ⊢
    obtain ⟨Y, hY⟩ : ∃ Y, X ++ Z = Y := ⟨_, rfl⟩
    rw [hY] at h2 hlW ⊢
    clear HAT hat hb0 hkid hpl hP hT1 hT2 hW hX hY hC hZ hf hp hv HPK HT hpl1
    obtain ⟨b0, -, -, -⟩ := HCE.out _ (Below.refl _ _)
    have hb1 : Below (w.alloc (.cells C 73)).heap.size (w.alloc (.cells C 73)) ((w.alloc (.cells C 73)).alloc (.cells #[.int .u8 2] 5)) := (Below.refl _ _).alloc (Nat.le_refl _) _
    obtain ⟨c0, c1, c2, c3⟩ := HCE.out _ hb1
    have HB1 := Lib.hid hb1
    have HFI : Hid (∀ w', Below (w.alloc (.cells C 73)).heap.size (w.alloc (.cells C 73)) w' → Below w.heap.size w w') := Lib.hid (fun w' h => HB0.out.trans (h.mono (by simp)))
    clear hb1
    have kc := conv_one' (w.alloc (.cells C 73)) 2 2 rfl (w.heap.size + 1) (by simp)
    go_enter Tryz.func83, Tryz.ntmps83
    go_wp2_with fail
    refine (HPK1.out _).mono ?_
    rintro e w1 ⟨rfl, hb⟩
    have HB2 := Lib.hid (bchain HB1.out hb)
    clear hb b0 c0 c1 c2 c3
    go_wp2_with fail
    refine (HT1.out _).mono ?_
    rintro e w2 ⟨rfl, hb⟩
    have HB3 := Lib.hid (bchain HB2.out hb)
    clear hb
    obtain ⟨c0, c1, c2, c3⟩ := HCE.out _ HB3.out
    go_wp2
    go_ret
    exact ⟨rfl, HFI.out _ HB3.out⟩
end Go.Proofs.YtbkanebkobjnnaaGreatDoor
namespace Go.Proofs.YtbkanebkobjnnaaGreatDoor
open Go.RowKit

theorem size_list (s : List UInt8) : (⟨s.toArray⟩ : ByteArray).size = s.length := by simp [ByteArray.size]
theorem dclone_any (s : List UInt8) (w : World) (hl : s.length ≤ 140737488351232) :
    Calls Tryz.prog 43 #[.string ⟨s.toArray⟩] w fun e w' => e = .returned (.string ⟨s.toArray⟩) ∧ Below w.heap.size w w' := by
  go_enter Tryz.func43, Tryz.ntmps43
  go_wp2_with fail
  refine (shelf_clone ⟨s.toArray⟩ w (by rw [size_list]; omega)).mono ?_
  rintro e w1 ⟨rfl, hb⟩
  go_wp2
  go_ret
  exact ⟨rfl, hb⟩
end Go.Proofs.YtbkanebkobjnnaaGreatDoor
