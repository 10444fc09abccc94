/- NodeEnc, NodeEncode, NodeRdr -/
import Derived.Test.YtaficmboooaknaaGreatDoorPk05
import Derived.Test.YtaficmboooaknaaGreatDoorPk03
import Derived.Deep.RegionWith
import Derived.Laws.IdiomStrings
namespace Go.Proofs.YtaficmboooaknaaGreatDoor
open Go.RowKit
open Go.Proofs.YtaficmboooaknaaGreatDoor.Nd (N)

set_option maxRecDepth 100000 in
theorem npacked_any (p : List UInt8) (leaf : Bool) (w : World) (hp : p.length ≤ 16) (hf : Nib.fitL p = true) :
    Calls Tryz.prog 158 #[.string ⟨p.toArray⟩, .bool leaf] w fun e w' => e = .returned (.string ⟨(Code.textL (Nib.packL p leaf)).toArray⟩) ∧ Below w.heap.size w w' := by
  have HPK := Lib.hid (fun w => pack_good p leaf w (by omega) hf)
  have hl : (Nib.packL p leaf).length ≤ 9 := by rw [Nib.packL_length]; omega
  have HT := Lib.hid (fun w => text_any (Nib.packL p leaf) w (by omega))
  clear hp hf hl
  go_enter Tryz.func158, Tryz.ntmps158
  go_wp2_with fail
  refine (HPK.out _).mono ?_
  rintro e w1 ⟨rfl, hb1⟩
  go_wp2_with fail
  refine (HT.out _).mono ?_
  rintro e w2 ⟨rfl, hb2⟩
  have HB := Lib.hid (bchain hb1 hb2)
  go_wp2
  go_ret
  exact ⟨rfl, HB.out⟩

theorem Nd.bits8_step (l : List (List UInt8)) (k : Nat) (hk : k < l.length) : Nd.bits8 (l.take (k + 1)) = Nd.bits8 (l.take k) * 2 + if l[k] = [] then 0 else 1 := by
  unfold Nd.bits8
  rw [List.take_succ_eq_append_getElem hk, List.foldl_append]
  rfl
theorem Nd.bits8_app (a b : List (List UInt8)) : Nd.bits8 (a ++ b) = Nd.bits8 a * 2 ^ b.length + Nd.bits8 b := by
  have key : ∀ (b : List (List UInt8)) (s : Nat), b.foldl (fun a k => a * 2 + if k = [] then 0 else 1) s = s * 2 ^ b.length + b.foldl (fun a k => a * 2 + if k = [] then 0 else 1) 0 := by
    intro b
    induction b with
    | nil => intro s; simp
    | cons x b ih =>
      intro s
      rw [List.foldl_cons, List.foldl_cons, ih (s * 2 + _), ih (0 * 2 + _), List.length_cons, Nat.pow_succ]
      generalize (if x = [] then 0 else 1) = q
      rw [Nat.add_mul, Nat.zero_mul, Nat.zero_add, Nat.mul_assoc s 2, Nat.mul_comm 2]
      omega
  unfold Nd.bits8
  rw [List.foldl_append]
  exact key b _
theorem Nd.bits16 (L : List (List UInt8)) (hL : L.length = 16) : Nd.bits8 L = Nd.bits8 (L.take 8) * 256 + Nd.bits8 (L.drop 8) ∧ Nd.bits8 (L.take 8) < 256 ∧ Nd.bits8 (L.drop 8) < 256 := by
  have h := Nd.bits8_app (L.take 8) (L.drop 8)
  have hd : (L.drop 8).length = 8 := by rw [List.length_drop, hL]
  rw [List.take_append_drop, hd] at h
  exact ⟨h, Nd.bits8_lt _ (by rw [List.length_take, hL]; rfl), Nd.bits8_lt _ hd⟩
theorem or_one (b : Nat) (h : b < 65536) : bits .or .i64 ((b : Int) * 2) 1 = ((b * 2 + 1 : Nat) : Int) := by
  have h3 := i64_or_nat (b * 2) 1 (by omega) (by decide)
  have h4 : b * 2 ||| 1 = b * 2 + 1 := by
    have h5 := Nat.shiftLeft_add_eq_or_of_lt (show 1 < 2 ^ 1 by decide) b
    rw [Nat.shiftLeft_eq] at h5
    exact h5.symm
  rw [h4, Int.natCast_mul] at h3
  exact h3
set_option maxRecDepth 100000 in
theorem ntaken_any (L : List (List UInt8)) (w : World) (hL : L.length = 16) :
    Calls Tryz.prog 160 #[aval L] w fun e w' => e = .returned (.string ⟨[Nd.byteN (Nd.bits8 (L.take 8)), Nd.byteN (Nd.bits8 (L.drop 8))].toArray⟩) ∧ Below w.heap.size w w' := by
  unfold aval
  have HKE : Hid (∀ (k : Nat) (hk : k < 16), ∀ w, (Instr.index 108 (.agg (scells L).toArray) (.int .i64 k)).run Tryz.prog w = .ok (.string ⟨(L[k]'(by omega)).toArray⟩) w) := Lib.hid (fun k hk w => idx_strs L hL k hk w)
  have hcs : (scells L).toArray.size = 16 := by rw [List.size_toArray, scells_length, hL]
  have HI : Hid ((Tryz.prog.info? 108).map (·.size) = some (scells L).toArray.size) := Lib.hid (by rw [hcs]; kernel_rfl)
  have HRO : Hid ((w.alloc (.cells (scells L).toArray 108)).heap[w.heap.size]? = some (.cells (scells L).toArray 108 (0, 0))) := Lib.hid (heap_new_at w _ _ rfl)
  have HB : Hid (Below w.heap.size w (w.alloc (.cells (scells L).toArray 108))) := Lib.hid ((Below.refl _ w).alloc (Nat.le_refl _) _)
  obtain ⟨C, hC⟩ : ∃ C, (scells L).toArray = C := ⟨_, rfl⟩
  rw [hC] at HI HRO HB HKE ⊢
  have HN := Lib.hid hL
  clear hC hcs
  go_enter Tryz.func160, Tryz.ntmps160
  go_wp2_with (refine wpList_load_row (by rfl) _ _ (by rfl) w.heap.size (by rfl) _ C _ _ HRO.out Tryz.underlying108 (by rfl) HI.out ?_)
  generalize (w.alloc (.cells C 108)) = w0 at *
  go_loopw [3, 7] (fun b i wr => ∃ k c : Nat, k ≤ 16 ∧ i = .int .i64 k ∧ b = .int .i64 c ∧ c = Nd.bits8 (L.take k) ∧ c < 2 ^ k ∧ wr = w0) (fun _ i _ => 16 - (intOf i).toNat)
  case atStart => exact ⟨0, 0, Nat.zero_le _, rfl, rfl, rfl, by decide, rfl⟩
  case round =>
    obtain ⟨k, c, hk, rfl, rfl, hc, hc2, rfl⟩ := hrel
    have HC := Lib.hid hc
    have hcb : (c : Int) < 65536 := by
      have h1 : 2 ^ k ≤ 2 ^ 16 := Nat.pow_le_pow_right (by decide) hk
      have h2 : (2 : Nat) ^ 16 = 65536 := rfl
      omega
    have hc0 : (0 : Int) ≤ (c : Int) := by omega
    have HC2 := Lib.hid hc2
    clear hc hc2
    by_cases hlt : k < 16
    · have h1 : (k : Int) < 16 := by omega
      have h0 : (0 : Int) ≤ (k : Int) := by omega
      have n0 := HKE.out k hlt
      have HST := Lib.hid (Nd.bits8_step L k (by have := HN.out; omega))
      obtain ⟨x, hx⟩ : ∃ x, L[k]'(by have := HN.out; omega) = x := ⟨_, rfl⟩
      rw [hx] at n0 HST
      clear hx
      by_cases he : x = []
      · subst he
        rw [if_pos rfl] at HST
        go_wp2
        exact ⟨⟨k + 1, c * 2, by omega, by go_num, by go_num, by rw [HST.out, HC.out]; rfl, by rw [Nat.pow_succ]; have := HC2.out; omega, trivial⟩, by simp [intOf]; omega⟩
      · rw [if_neg he] at HST
        have he1 : (x == []) = false := by rw [beq_eq_false_iff_ne]; exact he
        have ho := or_one c (by omega)
        go_wp2
        exact ⟨⟨k + 1, c * 2 + 1, by omega, by go_num, by go_num, by rw [HST.out, HC.out], by rw [Nat.pow_succ]; have := HC2.out; omega, trivial⟩, by simp [intOf]; omega⟩
    · have h1 : ¬ ((k : Int) < 16) := by omega
      obtain rfl : k = 16 := by omega
      rw [List.take_of_length_le (by have := HN.out; omega)] at HC
      obtain ⟨b1, b2, b3⟩ := Nd.bits16 L HN.out
      rw [← HC.out] at b1
      obtain ⟨h, hh⟩ : ∃ h, Nd.bits8 (L.take 8) = h := ⟨_, rfl⟩
      obtain ⟨l, hll⟩ : ∃ l, Nd.bits8 (L.drop 8) = l := ⟨_, rfl⟩
      have HH := Lib.hid hh
      have HL := Lib.hid hll
      rw [hh, hll] at b1
      rw [hh] at b2
      rw [hll] at b3
      have kc := conv_two' wr (Nd.byteN h) (Nd.byteN l) ((c : Int) / 256) ((c : Int) % 256) (by rw [Nd.byteN, Code.ofNat_toNat _ b2]; omega) (by rw [Nd.byteN, Code.ofNat_toNat _ b3]; omega)
      clear hh hll b1 b2 b3
      go_wp2
      go_ret
      exact ⟨by rw [HH.out, HL.out]; rfl, HB.out.alloc HB.out.size _⟩
theorem Nd.join_flat (l : List (List UInt8)) : Lib.join l [] = l.flatten := by
  induction l with
  | nil => rfl
  | cons a l ih =>
    rw [Lib.join_cons, List.flatten_cons]
    simp [Lib.joinTail]
theorem njoin_any (L : List (List UInt8)) (g : Nat) (w : World) (hL : L.length = 16) (hg : g < w.heap.size) (hr : w.rangeAt g 3 (scells L)) (hl : L.flatten.length ≤ 1000000) :
    Calls Tryz.prog 161 #[.slice (some ⟨g, 3, none⟩) 16 16, .string ⟨#[]⟩] w fun e w' => e = .returned (.string ⟨L.flatten.toArray⟩) ∧ Below w.heap.size w w' := by
  have h1 : (L.map fun l => (⟨l.toArray⟩ : ByteArray)).length = 16 := by rw [List.length_map, hL]
  have h2 : (L.map fun l => (⟨l.toArray⟩ : ByteArray)).map (·.data.toList) = L := by
    rw [List.map_map]
    exact (List.map_congr_left (fun a _ => by simp)).trans (List.map_id _)
  have h3 := shelf_strings_Join g 3 16 (L.map fun l => ⟨l.toArray⟩) ⟨#[]⟩ w (fun j x hx => by
    rw [List.getElem?_map] at hx
    obtain ⟨l, hl1, rfl⟩ := Option.map_eq_some_iff.1 hx
    exact hr j _ (by simp [scells, hl1])) hg (by rw [h1]; omega) (by rw [h1]; omega) (by
    rw [h2]
    show (Lib.join L []).length ≤ _
    rw [Nd.join_flat]
    omega)
  rw [h1, h2] at h3
  rw [← Nd.join_flat]
  exact h3
theorem Nd.all32_flat (l : List (List UInt8)) (h : Nd.all32 l = true) : l.flatten.length ≤ 32 * l.length := by
  induction l with
  | nil => simp
  | cons a l ih =>
    rw [Nd.all32_cons, Bool.and_eq_true] at h
    have h1 := ih h.2
    have h2 : a.length ≤ 32 := by
      have := h.1
      simp only [Bool.or_eq_true, decide_eq_true_eq] at this
      rcases this with q | q
      · rw [q]; simp
      · omega
    rw [List.flatten_cons, List.length_append, List.length_cons]
    omega
theorem Nd.fine_parts {n : N} (h : Nd.fine n = true) : Nd.all32 n.kids = true ∧ Nib.fitL n.path = true ∧ n.path.length ≤ 16 ∧ n.val.length ≤ 32 ∧ (n.kind = 1 ∨ n.kind = 2 ∨ n.kind = 3) := by
  simp only [Nd.fine, Bool.and_eq_true, decide_eq_true_eq] at h
  obtain ⟨a, b, c, d, e⟩ := h
  refine ⟨a, b, c, d, ?_⟩
  by_cases k1 : n.kind = 1
  · exact Or.inl k1
  by_cases k2 : n.kind = 2
  · exact Or.inr (Or.inl k2)
  by_cases k3 : n.kind = 3
  · exact Or.inr (Or.inr k3)
  rw [if_neg k1, if_neg k2, if_neg k3] at e
  cases e
theorem Code.textL_le' (s : List UInt8) (n : Nat) (h : s.length ≤ n) (hn : n ≤ 100) : (Code.textL s).length ≤ n + 9 := by
  rw [Code.textL, List.length_append, Code.numL_length]
  have : Code.sz s.length ≤ 8 := Code.sz_le8 s.length (by omega)
  omega
end Go.Proofs.YtaficmboooaknaaGreatDoor
namespace Go.Proofs.YtaficmboooaknaaGreatDoor
open Go.RowKit
open Go.Proofs.YtaficmboooaknaaGreatDoor.Nd (N)
attribute [local go_sem ↓] Go.wp_at_zero Go.wp_at_succ

def load16 (v : Value) : Sem Value := Instr.loadAt 108 v
theorem wp_load16 {P : Program} {dst : Option Tmp} {x : Operand} {ty : TypeId} {pos : String} {after : Array Edge} {guard : Option (Nat × Bool)} {a : Act} {w : World} {K : Act → World → Prop} {Q : Exit → Act → World → Prop} :
    Oper.wp P { dst := dst, op := .load 108 x, type := ty, pos := pos, after := after, guard := guard } a w K Q = Oper.upon P { dst := dst, op := .load 108 x, type := ty, pos := pos, after := after, guard := guard } a K Q (((load16 (a.eval x)).run P w).andThen fun v w' => .ok (.value v) w') := by
  unfold Oper.wp execOp load16
  simp only [Sem.run_bind, Sem.run_pure]
attribute [local go_sem ↓] wp_load16
theorem run_l16 {w : World} {g o : Nat} {L : List (List UInt8)} (hc : w.rangeAt g o (scells L)) (hi : (Tryz.prog.info? 108).map (·.size) = some (scells L).length) : (load16 (.pointer (some ⟨g, o, none⟩))).run Tryz.prog w = .ok (aval L) w :=
  run_loadAt_mid (P := Tryz.prog) w g o 108 (scells L) _ hc Tryz.underlying108 rfl hi
def Nd.encS (n : N) : List UInt8 := if Nd.fine n then Nd.written n else []
def Nd.encC (n : N) : Int := if Nd.fine n then 0 else 80
set_option maxRecDepth 100000 in
set_option maxHeartbeats 2000000 in
theorem nencode_any (n : N) (w : World) (hn : n.kids.length = 16) :
    Calls Tryz.prog 130 #[ndval n] w fun e w' => e = .returned (.tuple #[.string ⟨(Nd.encS n).toArray⟩, .int .i64 (Nd.encC n)]) ∧ Below w.heap.size w w' := by
  obtain ⟨C, hC, HB0, HCE, HI, HI2⟩ := nbox n w hn
  have HCK := Lib.hid (fun w => ncheck_any n w hn)
  unfold Nd.encS Nd.encC
  unfold ndval at HCK ⊢
  rw [hC] at HCK ⊢
  clear hC
  obtain ⟨-, -, -, -, -, cR⟩ := HCE.out _ (Below.refl _ _)
  have HRO := Lib.hid cR
  clear cR
  cases hf : Nd.fine n with
  | false =>
    rw [hf] at HCK
    rw [if_neg (by decide), if_neg (by decide)]
    rw [if_neg (by decide)] at HCK
    clear hf
    go_enter Tryz.func130, Tryz.ntmps130
    go_wp2_with (refine wpList_load_row (by rfl) _ _ (by rfl) w.heap.size (by rfl) _ C _ _ HRO.out Tryz.underlying110 (by rfl) HI.out ?_)
    refine (HCK.out _).mono ?_
    rintro e w1 ⟨rfl, hb1⟩
    go_wp2
    go_ret2
    exact ⟨rfl, bchain HB0.out hb1⟩
  | true =>
    rw [hf] at HCK
    rw [if_pos rfl, if_pos rfl]
    rw [if_pos rfl] at HCK
    obtain ⟨hall, hfit, hp16, hv32, hkd⟩ := Nd.fine_parts hf
    have HTX := Lib.hid (fun w => text_any n.val w (by omega))
    have HPL := Lib.hid (fun w => npacked_any n.path true w hp16 hfit)
    have HPE := Lib.hid (fun w => npacked_any n.path false w hp16 hfit)
    have HTK := Lib.hid (fun w => ntaken_any n.kids w hn)
    have hfl := Nd.all32_flat n.kids hall
    have HJN := Lib.hid (fun g w hg hr => njoin_any n.kids g w hn hg hr (by omega))
    have ht1 := Code.textL_le' (Nib.packL n.path true) 9 (by rw [Nib.packL_length]; omega) (by omega)
    have ht2 := Code.textL_le' (Nib.packL n.path false) 9 (by rw [Nib.packL_length]; omega) (by omega)
    have ht3 := Code.textL_le' n.val 32 hv32 (by omega)
    have hw : Nd.written n = if n.kind = 3 then [3] ++ (([Nd.byteN (Nd.bits8 (n.kids.take 8)), Nd.byteN (Nd.bits8 (n.kids.drop 8))] ++ n.kids.flatten) ++ Code.textL n.val) else if n.kind = 1 then [1] ++ (Code.textL (Nib.packL n.path true) ++ Code.textL n.val) else [2] ++ (Code.textL (Nib.packL n.path false) ++ n.kids.getD 0 []) := by
      unfold Nd.written Nd.branchL
      rcases hkd with k | k | k <;> rw [k] <;> simp
    rw [hw]
    have hz32 : (n.kids.getD 0 []).length ≤ 32 := by
      have := List.all_eq_true.1 hall (n.kids[0]'(by omega)) (List.getElem_mem _)
      rw [List.getD_eq_getElem?_getD, List.getElem?_eq_getElem (by omega)]
      simp only [Bool.or_eq_true, decide_eq_true_eq] at this
      show (n.kids[0]'(by omega)).length ≤ 32
      rcases this with q | q
      · rw [q]; simp
      · omega
    clear hw hall hfit hp16 hv32 hf
    rcases hkd with hk | hk | hk
    · rw [if_neg (by rw [hk]; decide), if_pos hk]
      have HCF : Hid (∀ w', Below (w.alloc (.cells C 110)).heap.size (w.alloc (.cells C 110)) w' → w'.cell? ⟨w.heap.size, 0, none⟩ = some (.int .i64 1) ∧ w'.cell? ⟨w.heap.size, 1, none⟩ = some (.string ⟨n.path.toArray⟩) ∧ w'.cell? ⟨w.heap.size, 2, none⟩ = some (.string ⟨n.val.toArray⟩)) := Lib.hid (fun w' h => by obtain ⟨a, b, c, -⟩ := HCE.out w' h; rw [hk] at a; exact ⟨a, b, c⟩)
      obtain ⟨T1, hT1⟩ : ∃ T, Code.textL (Nib.packL n.path true) = T := ⟨_, rfl⟩
      obtain ⟨T2, hT2⟩ : ∃ T, Code.textL n.val = T := ⟨_, rfl⟩
      rw [hT1] at HPL ht1 ⊢
      rw [hT2] at HTX ht3 ⊢
      have h1 := cat_mk T1 T2
      have h2 := cat_mk [1] (T1 ++ T2)
      have hX1 : (T1 ++ T2).length ≤ 59 := by rw [List.length_append]; omega
      have hY1 : ([1] ++ (T1 ++ T2) : List UInt8).length ≤ 60 := by rw [List.length_append]; simp only [List.length_singleton]; omega
      obtain ⟨X, hX⟩ : ∃ X, T1 ++ T2 = X := ⟨_, rfl⟩
      rw [hX] at h1 h2 hX1 hY1 ⊢
      obtain ⟨Y, hY⟩ : ∃ Y, ([1] ++ X : List UInt8) = Y := ⟨_, rfl⟩
      rw [hY] at h2 hY1 ⊢
      clear hT1 hT2 hX hY HPE HTK HJN hz32 ht2 hfl
      go_enter Tryz.func130, Tryz.ntmps130
      go_wp2_with (refine wpList_load_row (by rfl) _ _ (by rfl) w.heap.size (by rfl) _ C _ _ HRO.out Tryz.underlying110 (by rfl) HI.out ?_)
      refine (HCK.out _).mono ?_
      rintro e w1 ⟨rfl, hb1⟩
      generalize (w.alloc (.cells C 110)) = w0 at *
      have hb2 : Below w0.heap.size w0 (w1.alloc (.cells #[.int .u8 1] 5)) := hb1.alloc hb1.size _
      obtain ⟨c0, c1, c2⟩ := HCF.out _ hb1
      obtain ⟨d0, d1, d2⟩ := HCF.out _ hb2
      have HB1 := Lib.hid hb1
      have HFI : Hid (∀ w', Below w0.heap.size w0 w' → Below w.heap.size w w') := Lib.hid (fun w' h => bchain HB0.out h)
      have HBD := Lib.hid hb2.drew
      have HPL' : Hid (∀ w', Below w0.heap.size w0 w' → Calls Tryz.prog 158 #[.string ⟨n.path.toArray⟩, .bool true] w' fun e w'' => e = .returned (.string ⟨T1.toArray⟩) ∧ Below w0.heap.size w0 w'') := Lib.hid (fun w' h => (HPL.out w').mono fun e w'' q => ⟨q.1, h.trans (q.2.mono h.size)⟩)
      have HTX' : Hid (∀ w', Below w0.heap.size w0 w' → Calls Tryz.prog 159 #[.string ⟨n.val.toArray⟩] w' fun e w'' => e = .returned (.string ⟨T2.toArray⟩) ∧ Below w0.heap.size w0 w'') := Lib.hid (fun w' h => (HTX.out w').mono fun e w'' q => ⟨q.1, h.trans (q.2.mono h.size)⟩)
      have kc := conv_one' w1 1 1 rfl w1.heap.size rfl
      clear hb1 hb2
      go_wp2
      have BD := HBD.out
      go_region_with (first | (go_at_call 158; refine (HPL'.out _ (by with_reducible assumption)).mono ?_; rintro e w2 ⟨rfl, hb2⟩; have e1 := (HCF.out _ hb2).2.1; have e2 := (HCF.out _ hb2).2.2) | (go_at_call 159; refine (HTX'.out _ (by with_reducible assumption)).mono ?_; rintro e w3 ⟨rfl, hb3⟩; have f1 := (HCF.out _ hb3).2.1; have f2 := (HCF.out _ hb3).2.2))
      all_goals
        go_wp2
        go_ret2
        first | exact ⟨rfl, HFI.out _ hb3⟩ | exact ⟨rfl, HFI.out _ hb2⟩
    · rw [if_neg (by rw [hk]; decide), if_neg (by rw [hk]; decide)]
      have HCF : Hid (∀ w', Below (w.alloc (.cells C 110)).heap.size (w.alloc (.cells C 110)) w' → w'.cell? ⟨w.heap.size, 0, none⟩ = some (.int .i64 2) ∧ w'.cell? ⟨w.heap.size, 1, none⟩ = some (.string ⟨n.path.toArray⟩) ∧ w'.cell? ⟨w.heap.size, 3, none⟩ = some (.string ⟨(n.kids.getD 0 []).toArray⟩)) := Lib.hid (fun w' h => by obtain ⟨a, b, -, c, -⟩ := HCE.out w' h; rw [hk] at a; exact ⟨a, b, c⟩)
      obtain ⟨T1, hT1⟩ : ∃ T, Code.textL (Nib.packL n.path false) = T := ⟨_, rfl⟩
      obtain ⟨T2, hT2⟩ : ∃ T, n.kids.getD 0 [] = T := ⟨_, rfl⟩
      rw [hT1] at HPE ht2 ⊢
      rw [hT2] at HCF hz32 ⊢
      have h1 := cat_mk T1 T2
      have h2 := cat_mk [2] (T1 ++ T2)
      have hX1 : (T1 ++ T2).length ≤ 59 := by rw [List.length_append]; omega
      have hY1 : ([2] ++ (T1 ++ T2) : List UInt8).length ≤ 60 := by rw [List.length_append]; simp only [List.length_singleton]; omega
      obtain ⟨X, hX⟩ : ∃ X, T1 ++ T2 = X := ⟨_, rfl⟩
      rw [hX] at h1 h2 hX1 hY1 ⊢
      obtain ⟨Y, hY⟩ : ∃ Y, ([2] ++ X : List UInt8) = Y := ⟨_, rfl⟩
      rw [hY] at h2 hY1 ⊢
      clear hT1 hT2 hX hY HPL HTK HJN HTX ht1 ht3 hfl
      go_enter Tryz.func130, Tryz.ntmps130
      go_wp2_with (refine wpList_load_row (by rfl) _ _ (by rfl) w.heap.size (by rfl) _ C _ _ HRO.out Tryz.underlying110 (by rfl) HI.out ?_)
      refine (HCK.out _).mono ?_
      rintro e w1 ⟨rfl, hb1⟩
      generalize (w.alloc (.cells C 110)) = w0 at *
      have hb2 : Below w0.heap.size w0 (w1.alloc (.cells #[.int .u8 2] 5)) := hb1.alloc hb1.size _
      obtain ⟨c0, c1, c2⟩ := HCF.out _ hb1
      obtain ⟨d0, d1, d2⟩ := HCF.out _ hb2
      have HFI : Hid (∀ w', Below w0.heap.size w0 w' → Below w.heap.size w w') := Lib.hid (fun w' h => bchain HB0.out h)
      have HBD := Lib.hid hb2.drew
      have HPL' : Hid (∀ w', Below w0.heap.size w0 w' → Calls Tryz.prog 158 #[.string ⟨n.path.toArray⟩, .bool false] w' fun e w'' => e = .returned (.string ⟨T1.toArray⟩) ∧ Below w0.heap.size w0 w'') := Lib.hid (fun w' h => (HPE.out w').mono fun e w'' q => ⟨q.1, h.trans (q.2.mono h.size)⟩)
      have kc := conv_one' w1 2 2 rfl w1.heap.size rfl
      clear hb1 hb2
      go_wp2
      have BD := HBD.out
      go_region_with (go_at_call 158; refine (HPL'.out _ (by with_reducible assumption)).mono ?_; rintro e w2 ⟨rfl, hb2⟩; have e1 := (HCF.out _ hb2).2.1; have e2 := (HCF.out _ hb2).2.2)
      all_goals
        go_wp2
        go_ret2
        exact ⟨rfl, HFI.out _ hb2⟩
    · rw [if_pos hk]
      have HCF : Hid (∀ w', Below (w.alloc (.cells C 110)).heap.size (w.alloc (.cells C 110)) w' → w'.cell? ⟨w.heap.size, 0, none⟩ = some (.int .i64 3) ∧ w'.cell? ⟨w.heap.size, 2, none⟩ = some (.string ⟨n.val.toArray⟩) ∧ (load16 (.pointer (some ⟨w.heap.size, 3, none⟩))).run Tryz.prog w' = .ok (aval n.kids) w') := Lib.hid (fun w' h => by obtain ⟨a, -, b, -, c, -⟩ := HCE.out w' h; rw [hk] at a; exact ⟨a, b, run_l16 c HI2.out⟩)
      obtain ⟨AV, hAV⟩ : ∃ v, aval n.kids = v := ⟨_, rfl⟩
      rw [hAV] at HCF HTK
      obtain ⟨T1, hT1⟩ : ∃ T, [Nd.byteN (Nd.bits8 (n.kids.take 8)), Nd.byteN (Nd.bits8 (n.kids.drop 8))] = T := ⟨_, rfl⟩
      obtain ⟨J, hJ⟩ : ∃ T, n.kids.flatten = T := ⟨_, rfl⟩
      obtain ⟨T2, hT2⟩ : ∃ T, Code.textL n.val = T := ⟨_, rfl⟩
      have hT1l : T1.length = 2 := by rw [← hT1]; rfl
      rw [hT1] at HTK ⊢
      rw [hJ] at HJN hfl ⊢
      rw [hT2] at HTX ht3 ⊢
      rw [hn] at hfl
      have h0 := cat_mk T1 J
      have h1 := cat_mk (T1 ++ J) T2
      have h2 := cat_mk [3] (T1 ++ J ++ T2)
      have hZ1 : (T1 ++ J).length ≤ 514 := by rw [List.length_append]; omega
      have hX1 : (T1 ++ J ++ T2).length ≤ 600 := by rw [List.length_append]; omega
      have hY1 : ([3] ++ (T1 ++ J ++ T2) : List UInt8).length ≤ 601 := by rw [List.length_append]; simp only [List.length_singleton]; omega
      obtain ⟨Z, hZ⟩ : ∃ Z, T1 ++ J = Z := ⟨_, rfl⟩
      rw [hZ] at h0 h1 h2 hZ1 hX1 hY1 ⊢
      obtain ⟨X, hX⟩ : ∃ X, Z ++ T2 = X := ⟨_, rfl⟩
      rw [hX] at h1 h2 hX1 hY1 ⊢
      obtain ⟨Y, hY⟩ : ∃ Y, ([3] ++ X : List UInt8) = Y := ⟨_, rfl⟩
      rw [hY] at h2 hY1 ⊢
      have hsz : w.heap.size < (w.alloc (.cells C 110)).heap.size := by simp
      clear hT1 hT2 hJ hZ hX hY HPL HPE ht1 ht2 hz32 hAV
      go_enter Tryz.func130, Tryz.ntmps130
      go_wp2_with (refine wpList_load_row (by rfl) _ _ (by rfl) w.heap.size (by rfl) _ C _ _ HRO.out Tryz.underlying110 (by rfl) HI.out ?_)
      refine (HCK.out _).mono ?_
      rintro e w1 ⟨rfl, hb1⟩
      generalize (w.alloc (.cells C 110)) = w0 at *
      have hb2 : Below w0.heap.size w0 (w1.alloc (.cells #[.int .u8 3] 5)) := hb1.alloc hb1.size _
      obtain ⟨c0, c1, c2⟩ := HCF.out _ hb1
      obtain ⟨d0, d1, d2⟩ := HCF.out _ hb2
      have HFI : Hid (∀ w', Below w0.heap.size w0 w' → Below w.heap.size w w') := Lib.hid (fun w' h => bchain HB0.out h)
      have HBD := Lib.hid hb2.drew
      have HTK' : Hid (∀ w', Below w0.heap.size w0 w' → Calls Tryz.prog 160 #[AV] w' fun e w'' => e = .returned (.string ⟨T1.toArray⟩) ∧ Below w0.heap.size w0 w'') := Lib.hid (fun w' h => (HTK.out w').mono fun e w'' q => ⟨q.1, h.trans (q.2.mono h.size)⟩)
      have HTX' : Hid (∀ w', Below w0.heap.size w0 w' → Calls Tryz.prog 159 #[.string ⟨n.val.toArray⟩] w' fun e w'' => e = .returned (.string ⟨T2.toArray⟩) ∧ Below w0.heap.size w0 w'') := Lib.hid (fun w' h => (HTX.out w').mono fun e w'' q => ⟨q.1, h.trans (q.2.mono h.size)⟩)
      have HJN' : Hid (∀ w', Below w0.heap.size w0 w' → Calls Tryz.prog 161 #[.slice (some ⟨w.heap.size, 3, none⟩) 16 16, .string ⟨#[]⟩] w' fun e w'' => e = .returned (.string ⟨J.toArray⟩) ∧ Below w0.heap.size w0 w'') := Lib.hid (fun w' h => (HJN.out w.heap.size w' (Nat.lt_of_lt_of_le hsz h.size) (HCE.out w' h).2.2.2.2.1).mono fun e w'' q => ⟨q.1, h.trans (q.2.mono h.size)⟩)
      have kc := conv_one' w1 3 3 rfl w1.heap.size rfl
      have e2 : (load16 (.pointer (some ⟨w.heap.size, 3, none⟩))).run Tryz.prog (w1.alloc (.cells #[.int .u8 3] 5)).drew = .ok AV (w1.alloc (.cells #[.int .u8 3] 5)).drew := (HCF.out _ HBD.out).2.2
      clear hb1 hb2 hsz hn
      go_wp2
      have BD := HBD.out
      go_region_with (first | (go_at_call 160; refine (HTK'.out _ (by with_reducible assumption)).mono ?_; rintro e w2 ⟨rfl, hb2⟩; have e1 := (HCF.out _ hb2).2.1; have e2 := (HCF.out _ hb2).2.2) | (go_at_call 161; refine (HJN'.out _ (by with_reducible assumption)).mono ?_; rintro e w3 ⟨rfl, hb3⟩; have f1 := (HCF.out _ hb3).2.1; have f2 := (HCF.out _ hb3).2.2) | (go_at_call 159; refine (HTX'.out _ (by with_reducible assumption)).mono ?_; rintro e w4 ⟨rfl, hb4⟩; have q1 := (HCF.out _ hb4).2.1; have q2 := (HCF.out _ hb4).2.2))
      all_goals
        go_wp2
        go_ret2
        first | exact ⟨rfl, HFI.out _ hb4⟩ | exact ⟨rfl, HFI.out _ hb3⟩ | exact ⟨rfl, HFI.out _ hb2⟩
end Go.Proofs.YtaficmboooaknaaGreatDoor
namespace Go.Proofs.YtaficmboooaknaaGreatDoor
open Go.RowKit
open Go.Proofs.YtaficmboooaknaaGreatDoor.Nd (N)

theorem nrtext_st (most : Int) (st : Nd.St) (g : Nat) (w : World) (h : Rd w g st.1 st.2) (hl : st.1.length ≤ 100000000) :
    Calls Tryz.prog 111 #[.pointer (some ⟨g, 0, none⟩), .int .i64 most] w fun e w' => e = .returned (.string ⟨(Nd.rdT most st).1.toArray⟩) ∧ Rd w' g (Nd.rdT most st).2.1 (Nd.rdT most st).2.2 ∧ Only g w w' := by
  unfold Nd.rdT
  by_cases hc : st.2 = 0
  · rw [if_neg (by simpa using hc)]
    rw [hc] at h
    exact rtext_any most st.1 g w h hl
  · rw [if_pos hc]
    obtain ⟨s, c⟩ := st
    dsimp only at h hc hl ⊢
    have h0 := h.left
    have h1 := h.code
    have hf0 := h.free0
    have hc1 : (c != 0) = true := by rw [bne_iff_ne]; exact hc
    go_enter Tryz.func111, Tryz.ntmps111
    go_wp2_with fail
    refine (count_stuck most s c g w h hc).mono ?_
    rintro e w1 ⟨rfl, rfl⟩
    go_wp2_with fail
    refine (bytes_stuck 0 s c g w1 h hc).mono ?_
    rintro e w2 ⟨rfl, rfl⟩
    go_wp2
    go_ret
    exact ⟨rfl, h.setLeft s, (Only.refl g _).setCell rfl _⟩
theorem nrbytes_st (n : Nat) (st : Nd.St) (g : Nat) (w : World) (h : Rd w g st.1 st.2) (hl : st.1.length ≤ 100000000) :
    Calls Tryz.prog 109 #[.pointer (some ⟨g, 0, none⟩), .int .i64 n] w fun e w' => e = .returned (.string ⟨(Nd.rdB n st).1.toArray⟩) ∧ Rd w' g (Nd.rdB n st).2.1 (Nd.rdB n st).2.2 ∧ Only g w w' := by
  unfold Nd.rdB
  by_cases hc : st.2 = 0
  · rw [if_neg (by simpa using hc)]
    rw [hc] at h
    refine (bytes_any n st.1 g w h hl).mono ?_
    rintro e w' ⟨rfl, h1, h2⟩
    have hb : Code.bytesR (n : Int) st.1 = if st.1.length < n then ([], st.1, 20) else (st.1.take n, st.1.drop n, 0) := by
      unfold Code.bytesR
      rw [if_neg (by omega)]
      rfl
    rw [hb] at h1 ⊢
    exact ⟨rfl, h1, h2⟩
  · rw [if_pos hc]
    refine (bytes_stuck n st.1 st.2 g w h hc).mono ?_
    rintro e w' ⟨rfl, rfl⟩
    exact ⟨rfl, h, Only.refl _ _⟩
theorem nunpack_any (s : List UInt8) (w : World) (hl : s.length ≤ 1000000) :
    Calls Tryz.prog 143 #[.string ⟨s.toArray⟩] w fun e w' => ∃ p is c, e = .returned (.tuple #[.string ⟨p.toArray⟩, .bool is, .int .i64 c]) ∧ (∀ leaf, Nd.unp leaf s = (p, c == 0 && is == leaf)) ∧ Below w.heap.size w w' := by
  match h : Nib.unpackL s with
  | none =>
    refine (unpack_none s w hl h).mono ?_
    rintro e w' ⟨rfl, hb⟩
    exact ⟨_, _, _, rfl, fun leaf => by unfold Nd.unp; rw [h]; rfl, hb⟩
  | some (p, is) =>
    refine (unpack_some s p is w hl h).mono ?_
    rintro e w' ⟨rfl, hb⟩
    exact ⟨_, _, _, rfl, fun leaf => by unfold Nd.unp; rw [h]; rfl, hb⟩
theorem Nd.rdT_len (most : Nat) (st : Nd.St) : (Nd.rdT most st).1.length ≤ most := by
  unfold Nd.rdT
  split
  · simp
  · unfold Code.textR
    split
    · simp
    · rename_i h
      split
      · simp
      · simp only [List.length_take]
        unfold Code.countL at h ⊢
        split
        · simp
        · split
          · simp
          · simp only
            omega
def PathPost (leaf : Bool) (st : Nd.St) (g : Nat) (w : World) (e : Ending) (w' : World) : Prop :=
  e = .returned (.tuple #[.string ⟨(Nd.rdP leaf st).1.1.toArray⟩, .bool (Nd.rdP leaf st).1.2]) ∧ Rd w' g (Nd.rdP leaf st).2.1 (Nd.rdP leaf st).2.2 ∧ Only g w w'
set_option maxRecDepth 100000 in
theorem nreadPath_st (leaf : Bool) (st : Nd.St) (g : Nat) (w : World) (h : Rd w g st.1 st.2) (hl : st.1.length ≤ 100000000) :
    Calls Tryz.prog 110 #[.pointer (some ⟨g, 0, none⟩), .bool leaf] w (PathPost leaf st g w) := by
  unfold PathPost
  have HT := Lib.hid (nrtext_st 9 st g w h hl)
  have hlen := Nd.rdT_len 9 st
  have HU := Lib.hid (fun w => nunpack_any (Nd.rdT 9 st).1 w (by have : (Nd.rdT ((9 : Nat) : Int) st).1.length ≤ 9 := hlen; rw [show ((9 : Nat) : Int) = 9 from rfl] at this; omega))
  obtain ⟨R, hR⟩ : ∃ R, Nd.rdP leaf st = R := ⟨_, rfl⟩
  have HR := Lib.hid hR
  rw [hR]
  unfold Nd.rdP at HR
  obtain ⟨⟨t, st1⟩, hT⟩ : ∃ T, Nd.rdT 9 st = T := ⟨_, rfl⟩
  rw [hT] at HR HT HU
  simp only at HR HT HU
  have HH := Lib.hid h
  clear hR hT hlen h
  go_enter Tryz.func110, Tryz.ntmps110
  go_wp2_with fail
  refine HT.out.mono ?_
  rintro e w1 ⟨rfl, hr1, ho1⟩
  have HR1 := Lib.hid hr1
  have HO1 := Lib.hid ho1
  clear hr1 ho1
  go_wp2_with fail
  refine (HU.out _).mono ?_
  rintro e w2 ⟨p, is, c, rfl, hu, hb2⟩
  obtain rfl : R = ((p, c == 0 && is == leaf), st1) := by rw [← HR.out, hu]
  have HF : Hid (Rd w2 g st1.1 st1.2 ∧ Only g w w2) := Lib.hid ⟨HR1.out.below hb2, HO1.out.trans (Only.of hb2)⟩
  clear hu hb2
  by_cases hc : c = 0
  · subst hc
    go_wp2
    go_ret2
    exact ⟨rfl, HF.out.1, HF.out.2⟩
  · have hc1 : (c == 0) = false := by rw [beq_eq_false_iff_ne]; exact hc
    go_wp2
    go_ret2
    first | exact ⟨rfl, HF.out.1, HF.out.2⟩ | exact ⟨by rw [hc1]; rfl, HF.out.1, HF.out.2⟩
theorem bytes_of (s : List UInt8) (w : World) : ∃ c W, (convert 9 126 (.string ⟨s.toArray⟩)).run Tryz.prog w = .ok (.slice (some ⟨w.heap.size, 0, none⟩) s.length c) W ∧ Below w.heap.size w W ∧ ∀ j (hj : j < s.length), W.cell? ⟨w.heap.size, j, none⟩ = some (.int .u8 (s[j].toNat : Int)) := by
  have h := run_bytes_of_string (P := Tryz.prog) w 9 126 5 ⟨s.toArray⟩ Tryz.underlying9 Tryz.underlying126 Tryz.underlying5
  have hsz : (⟨s.toArray⟩ : ByteArray).size = s.length := by simp [ByteArray.size]
  rw [hsz] at h
  refine ⟨_, _, h, ((Below.refl _ w).drew).alloc (Nat.le_refl _) _, fun j hj => ?_⟩
  refine (World.cell?_alloc_mark w.drew _ _ _ j).trans ?_
  rw [bytesRow_at _ _ _ (by simpa using hj)]
  simp
/-- The sixteen read so far, the others empty. -/
def Nd.part (L : List (List UInt8)) : List (List UInt8) := L ++ List.replicate (16 - L.length) []
theorem Nd.part_len (L : List (List UInt8)) (h : L.length ≤ 16) : (Nd.part L).length = 16 := by
  unfold Nd.part
  rw [List.length_append, List.length_replicate]
  omega
theorem Nd.part_set (L : List (List UInt8)) (x : List UInt8) (h : L.length < 16) : (Nd.part L).set L.length x = Nd.part (L ++ [x]) := by
  unfold Nd.part
  rw [List.set_append_right _ _ (Nat.le_refl _), Nat.sub_self, List.length_append, List.append_assoc, List.length_singleton]
  obtain ⟨j, hj⟩ : ∃ j, 16 - L.length = j + 1 := ⟨16 - L.length - 1, by omega⟩
  rw [hj, show 16 - (L.length + 1) = j by omega, List.replicate_succ]
  rfl
theorem Nd.part_nil (L : List (List UInt8)) (h : L.length < 16) : Nd.part L = Nd.part (L ++ [[]]) := by
  unfold Nd.part
  rw [List.length_append, List.append_assoc, List.length_singleton]
  obtain ⟨j, hj⟩ : ∃ j, 16 - L.length = j + 1 := ⟨16 - L.length - 1, by omega⟩
  rw [hj, show 16 - (L.length + 1) = j by omega, List.replicate_succ]
  rfl
theorem Nd.part_all (L : List (List UInt8)) (h : L.length = 16) : Nd.part L = L := by
  unfold Nd.part
  rw [h]
  simp
theorem Nd.num2_lt (b : List UInt8) : Nd.num2 b < 65536 := by
  unfold Nd.num2
  split
  · rename_i x y
    have := x.toNat_lt
    have := y.toNat_lt
    omega
  · decide
theorem and_one (m : Nat) (h : m < 9223372036854775808) : bits .and .i64 (m : Int) 1 = ((m % 2 : Nat) : Int) := by
  have hx : m % 2 < 2 := Nat.mod_lt _ (by decide)
  show IntKind.i64.wrap ((BitVec.ofInt 64 (m : Int) &&& BitVec.ofInt 64 ((1 : Nat) : Int)).toNat : Int) = _
  rw [BitVec.toNat_and, BitVec.ofInt_natCast, BitVec.toNat_ofNat, BitVec.ofInt_natCast, BitVec.toNat_ofNat, Nat.mod_eq_of_lt (by omega), Nat.mod_eq_of_lt (by omega), Nat.and_one_is_mod]
  simp only [IntKind.wrap, IntKind.bits, IntKind.signed]
  simp
  omega
theorem bit_int (n k : Nat) (h : n < 65536) : bits .and .i64 ((n : Int) / 2 ^ (15 - k)) 1 = if Nd.bitf n k = true then 1 else 0 := by
  have h1 : (n : Int) / 2 ^ (15 - k) = ((n / 2 ^ (15 - k) : Nat) : Int) := by simp
  have h2 : n / 2 ^ (15 - k) ≤ n := Nat.div_le_self _ _
  rw [h1, and_one _ (by omega)]
  unfold Nd.bitf
  rcases Nat.mod_two_eq_zero_or_one (n / 2 ^ (15 - k)) with e | e <;> simp [e]
theorem Nd.rdKids_le (b : Nat → Bool) (k : Nat) (st : Nd.St) : (Nd.rdKids b k st).2.1.length ≤ st.1.length := by
  induction k with
  | zero => exact Nat.le_refl _
  | succ k ih =>
    simp only [Nd.rdKids]
    split
    · exact Nat.le_trans (Nd.rdB_le _ _) ih
    · exact ih
theorem Out.setRow {F : Nat → Prop} {a w : World} (h : Out F a w) {q : Nat} (hq : F q) (cs : Array Value) : Out F a (w.setRow q cs) :=
  ⟨h.os, h.tape, h.output, by rw [size_setRow]; exact h.size, fun i hi hf => by
    have hne : q ≠ i := fun e => hf (e ▸ hq)
    refine Eq.trans ?_ (h.block i hi hf)
    simp only [World.setRow, Array.getElem?_modify, if_neg hne]⟩
theorem setRow_at {w : World} {q : Nat} {old cs : Array Value} {t : TypeId} {fr : Nat × Nat} (h : w.heap[q]? = some (.cells old t fr)) : (w.setRow q cs).heap[q]? = some (.cells cs t fr) := by
  simp [World.setRow, Array.getElem?_modify, h]
def KidsRPost (st : Nd.St) (g : Nat) (w : World) (e : Ending) (w' : World) : Prop :=
  e = .returned (aval (Nd.rdK st).1) ∧ Rd w' g (Nd.rdK st).2.1 (Nd.rdK st).2.2 ∧ Only g w w'
set_option maxRecDepth 100000 in
set_option maxHeartbeats 1000000 in
theorem nreadKids_st (st : Nd.St) (g : Nat) (w : World) (h : Rd w g st.1 st.2) (hl : st.1.length ≤ 100000000) :
    Calls Tryz.prog 112 #[.pointer (some ⟨g, 0, none⟩)] w (KidsRPost st g w) := by
  unfold KidsRPost
  obtain ⟨K, hK⟩ : ∃ K, Nd.rdK st = K := ⟨_, rfl⟩
  have HK := Lib.hid hK
  rw [hK]
  have hb0 : Below w.heap.size w (w.alloc (.cells (scells Nd.none16).toArray 108)) := (Below.refl _ w).alloc (Nat.le_refl _) _
  have HT := Lib.hid (fun w h => nrbytes_st 2 st g w h hl)
  have HRD := Lib.hid (h.below hb0)
  have HB0 := Lib.hid hb0
  have hz : (scells Nd.none16).toArray = #[.string ⟨#[]⟩, .string ⟨#[]⟩, .string ⟨#[]⟩, .string ⟨#[]⟩, .string ⟨#[]⟩, .string ⟨#[]⟩, .string ⟨#[]⟩, .string ⟨#[]⟩, .string ⟨#[]⟩, .string ⟨#[]⟩, .string ⟨#[]⟩, .string ⟨#[]⟩, .string ⟨#[]⟩, .string ⟨#[]⟩, .string ⟨#[]⟩, .string ⟨#[]⟩] := rfl
  have hle := Nd.rdB_le 2 st
  unfold Nd.rdK at HK
  obtain ⟨⟨b, st1⟩, hT⟩ : ∃ T, Nd.rdB 2 st = T := ⟨_, rfl⟩
  have hb2 : b = [] ∨ ∃ x y, b = [x, y] := by
    have : (Nd.rdB 2 st).1 = [] ∨ (Nd.rdB 2 st).1.length = 2 := by
      unfold Nd.rdB
      split
      · exact Or.inl rfl
      · split
        · exact Or.inl rfl
        · exact Or.inr (by simp only [List.length_take]; omega)
    rw [hT] at this
    rcases this with h | h
    · exact Or.inl h
    · match b, h with
      | [x, y], _ => exact Or.inr ⟨x, y, rfl⟩
  rw [hT] at HT HK hle
  simp only at HT HK hle
  have HL := Lib.hid (Nat.le_trans hle hl)
  have HGW := Lib.hid h.lt
  rw [hz] at HRD HB0
  clear hK hT hb0 h hl hle
  have HROW := Lib.hid (heap_new_at w (.cells (scells Nd.none16).toArray 108) w.heap.size rfl)
  rw [hz] at HROW
  go_enter Tryz.func112, Tryz.ntmps112
  go_wp2_with fail
  have hsz := lt_of_heap HROW.out
  obtain ⟨q, hq⟩ : ∃ q, w.heap.size = q := ⟨_, rfl⟩
  have HQ := Lib.hid hq
  rw [hq] at hsz HROW ⊢
  generalize (w.alloc (.cells #[.string ⟨#[]⟩, .string ⟨#[]⟩, .string ⟨#[]⟩, .string ⟨#[]⟩, .string ⟨#[]⟩, .string ⟨#[]⟩, .string ⟨#[]⟩, .string ⟨#[]⟩, .string ⟨#[]⟩, .string ⟨#[]⟩, .string ⟨#[]⟩, .string ⟨#[]⟩, .string ⟨#[]⟩, .string ⟨#[]⟩, .string ⟨#[]⟩, .string ⟨#[]⟩] 108)) = w0 at *
  refine (HT.out _ HRD.out).mono ?_
  rintro e w1 ⟨rfl, hr1, ho1⟩
  have HR1 := Lib.hid hr1
  have HO1 := Lib.hid ho1
  have HROW1 := Lib.hid (ho1.block)
  clear hr1 ho1 hq hsz hz
  rcases hb2 with rfl | ⟨x, y, rfl⟩
  · obtain ⟨cc, W, hcv, hbW, -⟩ := bytes_of [] w1
    have HBW := Lib.hid hbW
    clear hbW
    go_wp2
    go_loopw [3, 12] (fun b i wr => ∃ n : Nat, b = .int .i64 n ∧ n = 0 ∧ i = .int .i64 0 ∧ wr = W) (fun _ _ _ => 0)
    case atStart => exact ⟨0, rfl, rfl, rfl, rfl⟩
    case round =>
      obtain ⟨n, rfl, hn, rfl, rfl⟩ := hrel
      have HN : Hid (n = Nd.num2 []) := Lib.hid hn
      clear hn
      go_wp2_with fail
      obtain ⟨B, hB⟩ : ∃ B, Nd.num2 ([] : List UInt8) = B := ⟨_, rfl⟩
      rw [hB] at HK HN
      obtain rfl : n = B := HN.out
      have HROW2 := Lib.hid (heap_new_at wr (.cells (scells (Nd.part [])).toArray 108) wr.heap.size rfl)
      have HOW := Lib.hid (HO1.out.trans (Only.of HBW.out))
      have HRW := Lib.hid ((HR1.out.below HBW.out).below ((Below.refl _ wr).alloc (Nat.le_refl _) (.cells (scells (Nd.part [])).toArray 108)))
      have HNL : Hid (n < 65536) := Lib.hid (by have := HN.out; have := Nd.num2_lt ([] : List UInt8); omega)
      have HGQ : Hid (g < wr.heap.size) := Lib.hid ((HR1.out.below HBW.out).lt)
      have HGQ1 : Hid (q ≠ g) := Lib.hid (by have := HGW.out; have := HQ.out; omega)
      have hqw1 : q < w1.heap.size := Nat.lt_of_lt_of_le (lt_of_heap HROW.out) HO1.out.size
      have HQQ : Hid (q ≠ wr.heap.size) := Lib.hid (by have := HBW.out.size; omega)
      have HLE : Hid (w.heap.size ≤ wr.heap.size) := Lib.hid (by have := HBW.out.size; have := HQ.out; omega)
      have HQB : Hid ((wr.alloc (.cells (scells (Nd.part [])).toArray 108)).heap[q]? = some (.cells (scells Nd.none16).toArray 108 (0, 0))) := Lib.hid (heap_old_at _ ((HBW.out.block q hqw1).trans ((HO1.out.block q (lt_of_heap HROW.out) HGQ1.out).trans HROW.out)))
      have HWB : Hid (Only g w (wr.alloc (.cells (scells (Nd.part [])).toArray 108))) := Lib.hid (((Only.of HB0.out).trans (HO1.out.trans (Only.of HBW.out))).trans (Only.of ((Below.refl _ wr).alloc (Nat.le_refl _) _)))
      clear hqw1
      have hwz : wr.alloc (.cells (scells (Nd.part [])).toArray 108) = wr.alloc (.cells #[.string ⟨#[]⟩, .string ⟨#[]⟩, .string ⟨#[]⟩, .string ⟨#[]⟩, .string ⟨#[]⟩, .string ⟨#[]⟩, .string ⟨#[]⟩, .string ⟨#[]⟩, .string ⟨#[]⟩, .string ⟨#[]⟩, .string ⟨#[]⟩, .string ⟨#[]⟩, .string ⟨#[]⟩, .string ⟨#[]⟩, .string ⟨#[]⟩, .string ⟨#[]⟩] 108) := rfl
      rw [← hwz]
      have HBA : Hid (Below wr.heap.size wr (wr.alloc (.cells (scells (Nd.part [])).toArray 108))) := Lib.hid ((Below.refl _ wr).alloc (Nat.le_refl _) _)
      obtain ⟨q2, hq2⟩ : ∃ q2, wr.heap.size = q2 := ⟨_, rfl⟩
      have HQ2 := Lib.hid hq2
      rw [hq2] at HROW2 HGQ HQQ HLE ⊢
      clear hwz hB hq2
      generalize (wr.alloc (.cells (scells (Nd.part [])).toArray 108)) = wB at *
      go_loopw [22] (fun i wv => ∃ k : Nat, k ≤ 16 ∧ i = .int .i64 k ∧ Rd wv g (Nd.rdKids (Nd.bitf n) k st1).2.1 (Nd.rdKids (Nd.bitf n) k st1).2.2 ∧ wv.heap[q2]? = some (.cells (scells (Nd.part (Nd.rdKids (Nd.bitf n) k st1).1)).toArray 108 (0, 0)) ∧ Out (fun j => j = g ∨ j = q2) wB wv) (fun i _ => 16 - (intOf i).toNat)
      case atStart => exact ⟨0, Nat.zero_le _, rfl, HRW.out, HROW2.out, Out.refl _ _⟩
      case round =>
        obtain ⟨k, hk, rfl, hrd, hrow, hout⟩ := hrel
        have HRD2 := Lib.hid hrd
        have HRW2 := Lib.hid hrow
        have HOU := Lib.hid hout
        clear hrd hrow hout
        by_cases hlt : k < 16
        · have h1 : (k : Int) < 16 := by omega
          have h0 : (0 : Int) ≤ (k : Int) := by omega
          have hbit := bit_int n k (by have := HNL.out; omega)
          have HKL := Lib.hid (Nd.rdKids_len (Nd.bitf n) k st1)
          have HSL := Lib.hid (Nd.rdKids_le (Nd.bitf n) k st1)
          have HSU : Hid (Nd.rdKids (Nd.bitf n) (k + 1) st1 = if Nd.bitf n k then ((Nd.rdKids (Nd.bitf n) k st1).1 ++ [(Nd.rdB 32 (Nd.rdKids (Nd.bitf n) k st1).2).1], (Nd.rdB 32 (Nd.rdKids (Nd.bitf n) k st1).2).2) else ((Nd.rdKids (Nd.bitf n) k st1).1 ++ [[]], (Nd.rdKids (Nd.bitf n) k st1).2)) := Lib.hid rfl
          obtain ⟨⟨L, stk⟩, hLS⟩ : ∃ P, Nd.rdKids (Nd.bitf n) k st1 = P := ⟨_, rfl⟩
          rw [hLS] at HRD2 HRW2 HKL HSL HSU
          clear hLS
          cases hbf : Nd.bitf n k with
          | false =>
            rw [hbf] at hbit HSU
            rw [if_neg (by decide)] at hbit
            rw [if_neg (by decide)] at HSU
            clear hbf
            go_wp2_with fail
            refine ⟨⟨k + 1, by omega, by go_num, ?_, ?_, HOU.out⟩, by simp [intOf]; omega⟩
            · rw [HSU.out]; exact HRD2.out
            · rw [HSU.out]
              show wr.heap[q2]? = some (.cells (scells (Nd.part (L ++ [[]]))).toArray 108 (0, 0))
              rw [← Nd.part_nil L (by rw [HKL.out]; exact hlt)]
              exact HRW2.out
          | true =>
            rw [hbf] at hbit HSU
            rw [if_pos rfl] at hbit
            rw [if_pos rfl] at HSU
            clear hbf
            have HBY := Lib.hid (nrbytes_st 32 stk g wr HRD2.out (Nat.le_trans (show stk.1.length ≤ st1.1.length from HSL.out) HL.out))
            obtain ⟨⟨x3, st3⟩, hB3⟩ : ∃ P, Nd.rdB 32 stk = P := ⟨_, rfl⟩
            have hB3' : Nd.rdB 32 (L, stk).2 = (x3, st3) := hB3
            rw [hB3'] at HSU
            rw [hB3] at HBY
            simp only at HSU
            clear hB3 hB3'
            go_wp2_with fail
            refine HBY.out.mono ?_
            rintro e w3 ⟨rfl, hr3, ho3⟩
            have hrow3 : w3.heap[q2]? = some (.cells (scells (Nd.part L)).toArray 108 (0, 0)) := (ho3.block q2 (lt_of_heap HRW2.out) (Nat.ne_of_gt HGQ.out)).trans HRW2.out
            have hplen : (scells (Nd.part L)).length = 16 := by rw [scells_length, Nd.part_len L (by have : L.length = k := HKL.out; omega)]
            have hcell : ∃ v, w3.cell? ⟨q2, k, none⟩ = some v := ⟨(scells (Nd.part L))[k]'(by omega), by rw [cell_of_row w3 q2 k _ _ _ hrow3, List.getElem?_toArray, List.getElem?_eq_getElem]⟩
            obtain ⟨v3, hc3⟩ := hcell
            have hf3 : w3.frozen? ⟨q2, k, none⟩ = false := frozen_of_row w3 q2 k _ _ hrow3
            have HR3 : Hid (Rd (w3.setCell ⟨q2, k, none⟩ (.string ⟨x3.toArray⟩)) g st3.1 st3.2) := Lib.hid ((heap_setCell_other w3 ⟨q2, k, none⟩ g _ (Nat.ne_of_lt HGQ.out)).trans hr3)
            have HO3 : Hid (Out (fun j => j = g ∨ j = q2) wB (w3.setCell ⟨q2, k, none⟩ (.string ⟨x3.toArray⟩))) := Lib.hid ((HOU.out.trans (ho3.out.mono (fun j _ e => Or.inl e))).setCell (p := ⟨q2, k, none⟩) (Or.inr rfl) _)
            have HW3 : Hid ((w3.setCell ⟨q2, k, none⟩ (.string ⟨x3.toArray⟩)).heap[q2]? = some (.cells (scells (Nd.part (L ++ [x3]))).toArray 108 (0, 0))) := Lib.hid (by
              have h1 := heap_setCell_same w3 q2 k _ _ (.string ⟨x3.toArray⟩) hrow3
              rw [h1, ← Nd.part_set L x3 (by have : L.length = k := HKL.out; omega), scells_set, show L.length = k from HKL.out]
              simp)
            clear hr3 ho3 hrow3 hplen
            go_wp2_with fail
            refine ⟨⟨k + 1, by omega, by go_num, ?_, ?_, HO3.out⟩, by simp [intOf]; omega⟩
            · rw [HSU.out]; exact HR3.out
            · rw [HSU.out]; exact HW3.out
        · have h1 : ¬ ((k : Int) < 16) := by omega
          obtain rfl : k = 16 := by omega
          have hKK := HK.out
          have hlen16 := Nd.rdKids_len (Nd.bitf n) 16 st1
          rw [hKK] at HRD2 HRW2 hlen16
          rw [Nd.part_all _ hlen16] at HRW2
          have hcs : (scells K.1).toArray.size = 16 := by rw [List.size_toArray, scells_length, hlen16]
          have HI : Hid ((Tryz.prog.info? 108).map (·.size) = some (scells K.1).toArray.size) := Lib.hid (by rw [hcs]; kernel_rfl)
          have HON1 := Lib.hid (scells_one K.1)
          have HQR : Hid (wr.heap[q]? = some (.cells (scells Nd.none16).toArray 108 (0, 0))) := Lib.hid ((HOU.out.block q (lt_of_heap HQB.out) (fun e => by rcases e with e | e; exact HGQ1.out e; exact HQQ.out e)).trans HQB.out)
          have hold : (scells Nd.none16).toArray.size = (scells K.1).toArray.size := by rw [hcs]; rfl
          have HOLD := Lib.hid hold
          obtain ⟨A, hA⟩ : ∃ A, (scells K.1).toArray = A := ⟨_, rfl⟩
          rw [hA] at HRW2 HI HON1 HOLD
          have HFIN : Hid (Rd (wr.setRow q A) g K.2.1 K.2.2 ∧ Only g w (wr.setRow q A)) := Lib.hid (by
            refine ⟨?_, ?_⟩
            · have h2 := ((Out.refl (fun j => j = q) wr).setRow (q := q) rfl A).block g (lt_of_heap HRD2.out) (fun e => HGQ1.out e.symm)
              exact h2.trans HRD2.out
            · have h2 := (HOU.out.mono (G := fun j => j = g ∨ j = q2 ∨ j = q) (fun j _ e => e.elim Or.inl (fun e => Or.inr (Or.inl e)))).setRow (q := q) (Or.inr (Or.inr rfl)) A
              refine ⟨h2.os.trans HWB.out.os, h2.tape.trans HWB.out.tape, h2.output.trans HWB.out.output, Nat.le_trans HWB.out.size h2.size, fun i hi hg => ?_⟩
              refine (h2.block i (Nat.lt_of_lt_of_le hi HWB.out.size) (fun e => ?_)).trans (HWB.out.block i hi hg)
              rcases e with e | e | e
              · exact hg e
              · have := HLE.out; omega
              · have := HQ.out; omega)
          have HA := Lib.hid hA
          clear hold hA hcs hKK hlen16
          go_wp2_with (first | (refine wpList_load_row (by rfl) _ _ (by rfl) q2 (by rfl) _ A _ _ HRW2.out Tryz.underlying108 (by rfl) HI.out ?_) | (refine wpList_store_row (by rfl) _ _ _ (by rfl) q A (by rfl) (by rfl) _ _ HQR.out HI.out HOLD.out HON1.out ?_))
          refine bodyPost_ret (v := .agg A) (results_cell_row rfl _ _ q _ _ _ _ rfl (setRow_at HQR.out) Tryz.underlying108 rfl HI.out) rfl ⟨by rw [← HA.out]; rfl, HFIN.out.1, HFIN.out.2⟩
  · obtain ⟨cc, W, hcv, hbW, hce⟩ := bytes_of [x, y] w1
    have HBW := Lib.hid hbW
    have e0 := hce 0 (by simp)
    have e1 := hce 1 (by simp)
    simp only [List.getElem_cons_zero, List.getElem_cons_succ] at e0 e1
    have x1 := byte_lt x
    have y1 := byte_lt y
    have w1x : wrap64 (x.toNat : Int) = (x.toNat : Int) := IntWalk.wrap64_in _ (by omega)
    have w1y : wrap64 (y.toNat : Int) = (y.toNat : Int) := IntWalk.wrap64_in _ (by omega)
    have w2x : wrap64 ((x.toNat : Int) * 256) = (x.toNat : Int) * 256 := IntWalk.wrap64_in _ (by omega)
    have o0 : bits .or .i64 0 (x.toNat : Int) = ((x.toNat : Nat) : Int) := by
      have := or_int 0 x.toNat (by omega) (by omega)
      simpa using this
    have o1 : bits .or .i64 ((x.toNat : Int) * 256) (y.toNat : Int) = ((x.toNat * 256 + y.toNat : Nat) : Int) := or_int x.toNat y.toNat (by omega) (by omega)
    clear hbW hce
    go_wp2
    go_loopw [3, 12] (fun b i wr => ∃ k n : Nat, k ≤ 2 ∧ i = .int .i64 k ∧ b = .int .i64 n ∧ n = (if k = 0 then 0 else if k = 1 then x.toNat else x.toNat * 256 + y.toNat) ∧ wr = W) (fun _ i _ => 2 - (intOf i).toNat)
    case atStart => exact ⟨0, 0, Nat.zero_le _, rfl, rfl, rfl, rfl⟩
    case round =>
      obtain ⟨k, n, hk, rfl, rfl, hn, rfl⟩ := hrel
      match k, hk with
      | 0, _ =>
        obtain rfl : n = 0 := by simpa using hn
        clear hn
        go_wp2
        refine ⟨⟨1, x.toNat, by omega, rfl, rfl, rfl, trivial⟩, by simp [intOf]⟩
      | 1, _ =>
        obtain rfl : n = x.toNat := by simpa using hn
        clear hn
        go_wp2
        refine ⟨⟨2, x.toNat * 256 + y.toNat, by omega, rfl, by go_num, rfl, trivial⟩, by simp [intOf]⟩
      | 2, _ =>
        have HN : Hid (n = Nd.num2 [x, y]) := Lib.hid (by simpa [Nd.num2] using hn)
        have h22 : ((2 : Nat) : Int) = 2 := rfl
        rw [h22]
        clear hn h22
        go_wp2_with fail
        obtain ⟨B, hB⟩ : ∃ B, Nd.num2 [x, y] = B := ⟨_, rfl⟩
        rw [hB] at HK HN
        obtain rfl : n = B := HN.out
        have HROW2 := Lib.hid (heap_new_at wr (.cells (scells (Nd.part [])).toArray 108) wr.heap.size rfl)
        have HOW := Lib.hid (HO1.out.trans (Only.of HBW.out))
        have HRW := Lib.hid ((HR1.out.below HBW.out).below ((Below.refl _ wr).alloc (Nat.le_refl _) (.cells (scells (Nd.part [])).toArray 108)))
        have HNL : Hid (n < 65536) := Lib.hid (by have := HN.out; have := Nd.num2_lt [x, y]; omega)
        have HGQ : Hid (g < wr.heap.size) := Lib.hid ((HR1.out.below HBW.out).lt)
        have HGQ1 : Hid (q ≠ g) := Lib.hid (by have := HGW.out; have := HQ.out; omega)
        have hqw1 : q < w1.heap.size := Nat.lt_of_lt_of_le (lt_of_heap HROW.out) HO1.out.size
        have HQQ : Hid (q ≠ wr.heap.size) := Lib.hid (by have := HBW.out.size; omega)
        have HLE : Hid (w.heap.size ≤ wr.heap.size) := Lib.hid (by have := HBW.out.size; have := HQ.out; omega)
        have HQB : Hid ((wr.alloc (.cells (scells (Nd.part [])).toArray 108)).heap[q]? = some (.cells (scells Nd.none16).toArray 108 (0, 0))) := Lib.hid (heap_old_at _ ((HBW.out.block q hqw1).trans ((HO1.out.block q (lt_of_heap HROW.out) HGQ1.out).trans HROW.out)))
        have HWB : Hid (Only g w (wr.alloc (.cells (scells (Nd.part [])).toArray 108))) := Lib.hid (((Only.of HB0.out).trans (HO1.out.trans (Only.of HBW.out))).trans (Only.of ((Below.refl _ wr).alloc (Nat.le_refl _) _)))
        clear hqw1
        have hwz : wr.alloc (.cells (scells (Nd.part [])).toArray 108) = wr.alloc (.cells #[.string ⟨#[]⟩, .string ⟨#[]⟩, .string ⟨#[]⟩, .string ⟨#[]⟩, .string ⟨#[]⟩, .string ⟨#[]⟩, .string ⟨#[]⟩, .string ⟨#[]⟩, .string ⟨#[]⟩, .string ⟨#[]⟩, .string ⟨#[]⟩, .string ⟨#[]⟩, .string ⟨#[]⟩, .string ⟨#[]⟩, .string ⟨#[]⟩, .string ⟨#[]⟩] 108) := rfl
        rw [← hwz]
        have HBA : Hid (Below wr.heap.size wr (wr.alloc (.cells (scells (Nd.part [])).toArray 108))) := Lib.hid ((Below.refl _ wr).alloc (Nat.le_refl _) _)
        obtain ⟨q2, hq2⟩ : ∃ q2, wr.heap.size = q2 := ⟨_, rfl⟩
        have HQ2 := Lib.hid hq2
        rw [hq2] at HROW2 HGQ HQQ HLE ⊢
        clear hwz hB hq2
        generalize (wr.alloc (.cells (scells (Nd.part [])).toArray 108)) = wB at *
        go_loopw [22] (fun i wv => ∃ k : Nat, k ≤ 16 ∧ i = .int .i64 k ∧ Rd wv g (Nd.rdKids (Nd.bitf n) k st1).2.1 (Nd.rdKids (Nd.bitf n) k st1).2.2 ∧ wv.heap[q2]? = some (.cells (scells (Nd.part (Nd.rdKids (Nd.bitf n) k st1).1)).toArray 108 (0, 0)) ∧ Out (fun j => j = g ∨ j = q2) wB wv) (fun i _ => 16 - (intOf i).toNat)
        case atStart => exact ⟨0, Nat.zero_le _, rfl, HRW.out, HROW2.out, Out.refl _ _⟩
        case round =>
          obtain ⟨k, hk, rfl, hrd, hrow, hout⟩ := hrel
          have HRD2 := Lib.hid hrd
          have HRW2 := Lib.hid hrow
          have HOU := Lib.hid hout
          clear hrd hrow hout
          by_cases hlt : k < 16
          · have h1 : (k : Int) < 16 := by omega
            have h0 : (0 : Int) ≤ (k : Int) := by omega
            have hbit := bit_int n k (by have := HNL.out; omega)
            have HKL := Lib.hid (Nd.rdKids_len (Nd.bitf n) k st1)
            have HSL := Lib.hid (Nd.rdKids_le (Nd.bitf n) k st1)
            have HSU : Hid (Nd.rdKids (Nd.bitf n) (k + 1) st1 = if Nd.bitf n k then ((Nd.rdKids (Nd.bitf n) k st1).1 ++ [(Nd.rdB 32 (Nd.rdKids (Nd.bitf n) k st1).2).1], (Nd.rdB 32 (Nd.rdKids (Nd.bitf n) k st1).2).2) else ((Nd.rdKids (Nd.bitf n) k st1).1 ++ [[]], (Nd.rdKids (Nd.bitf n) k st1).2)) := Lib.hid rfl
            obtain ⟨⟨L, stk⟩, hLS⟩ : ∃ P, Nd.rdKids (Nd.bitf n) k st1 = P := ⟨_, rfl⟩
            rw [hLS] at HRD2 HRW2 HKL HSL HSU
            clear hLS
            cases hbf : Nd.bitf n k with
            | false =>
              rw [hbf] at hbit HSU
              rw [if_neg (by decide)] at hbit
              rw [if_neg (by decide)] at HSU
              clear hbf
              go_wp2_with fail
              refine ⟨⟨k + 1, by omega, by go_num, ?_, ?_, HOU.out⟩, by simp [intOf]; omega⟩
              · rw [HSU.out]; exact HRD2.out
              · rw [HSU.out]
                show wr.heap[q2]? = some (.cells (scells (Nd.part (L ++ [[]]))).toArray 108 (0, 0))
                rw [← Nd.part_nil L (by rw [HKL.out]; exact hlt)]
                exact HRW2.out
            | true =>
              rw [hbf] at hbit HSU
              rw [if_pos rfl] at hbit
              rw [if_pos rfl] at HSU
              clear hbf
              have HBY := Lib.hid (nrbytes_st 32 stk g wr HRD2.out (Nat.le_trans (show stk.1.length ≤ st1.1.length from HSL.out) HL.out))
              obtain ⟨⟨x3, st3⟩, hB3⟩ : ∃ P, Nd.rdB 32 stk = P := ⟨_, rfl⟩
              have hB3' : Nd.rdB 32 (L, stk).2 = (x3, st3) := hB3
              rw [hB3'] at HSU
              rw [hB3] at HBY
              simp only at HSU
              clear hB3 hB3'
              go_wp2_with fail
              refine HBY.out.mono ?_
              rintro e w3 ⟨rfl, hr3, ho3⟩
              have hrow3 : w3.heap[q2]? = some (.cells (scells (Nd.part L)).toArray 108 (0, 0)) := (ho3.block q2 (lt_of_heap HRW2.out) (Nat.ne_of_gt HGQ.out)).trans HRW2.out
              have hplen : (scells (Nd.part L)).length = 16 := by rw [scells_length, Nd.part_len L (by have : L.length = k := HKL.out; omega)]
              have hcell : ∃ v, w3.cell? ⟨q2, k, none⟩ = some v := ⟨(scells (Nd.part L))[k]'(by omega), by rw [cell_of_row w3 q2 k _ _ _ hrow3, List.getElem?_toArray, List.getElem?_eq_getElem]⟩
              obtain ⟨v3, hc3⟩ := hcell
              have hf3 : w3.frozen? ⟨q2, k, none⟩ = false := frozen_of_row w3 q2 k _ _ hrow3
              have HR3 : Hid (Rd (w3.setCell ⟨q2, k, none⟩ (.string ⟨x3.toArray⟩)) g st3.1 st3.2) := Lib.hid ((heap_setCell_other w3 ⟨q2, k, none⟩ g _ (Nat.ne_of_lt HGQ.out)).trans hr3)
              have HO3 : Hid (Out (fun j => j = g ∨ j = q2) wB (w3.setCell ⟨q2, k, none⟩ (.string ⟨x3.toArray⟩))) := Lib.hid ((HOU.out.trans (ho3.out.mono (fun j _ e => Or.inl e))).setCell (p := ⟨q2, k, none⟩) (Or.inr rfl) _)
              have HW3 : Hid ((w3.setCell ⟨q2, k, none⟩ (.string ⟨x3.toArray⟩)).heap[q2]? = some (.cells (scells (Nd.part (L ++ [x3]))).toArray 108 (0, 0))) := Lib.hid (by
                have h1 := heap_setCell_same w3 q2 k _ _ (.string ⟨x3.toArray⟩) hrow3
                rw [h1, ← Nd.part_set L x3 (by have : L.length = k := HKL.out; omega), scells_set, show L.length = k from HKL.out]
                simp)
              clear hr3 ho3 hrow3 hplen
              go_wp2_with fail
              refine ⟨⟨k + 1, by omega, by go_num, ?_, ?_, HO3.out⟩, by simp [intOf]; omega⟩
              · rw [HSU.out]; exact HR3.out
              · rw [HSU.out]; exact HW3.out
          · have h1 : ¬ ((k : Int) < 16) := by omega
            obtain rfl : k = 16 := by omega
            have hKK := HK.out
            have hlen16 := Nd.rdKids_len (Nd.bitf n) 16 st1
            rw [hKK] at HRD2 HRW2 hlen16
            rw [Nd.part_all _ hlen16] at HRW2
            have hcs : (scells K.1).toArray.size = 16 := by rw [List.size_toArray, scells_length, hlen16]
            have HI : Hid ((Tryz.prog.info? 108).map (·.size) = some (scells K.1).toArray.size) := Lib.hid (by rw [hcs]; kernel_rfl)
            have HON1 := Lib.hid (scells_one K.1)
            have HQR : Hid (wr.heap[q]? = some (.cells (scells Nd.none16).toArray 108 (0, 0))) := Lib.hid ((HOU.out.block q (lt_of_heap HQB.out) (fun e => by rcases e with e | e; exact HGQ1.out e; exact HQQ.out e)).trans HQB.out)
            have hold : (scells Nd.none16).toArray.size = (scells K.1).toArray.size := by rw [hcs]; rfl
            have HOLD := Lib.hid hold
            obtain ⟨A, hA⟩ : ∃ A, (scells K.1).toArray = A := ⟨_, rfl⟩
            rw [hA] at HRW2 HI HON1 HOLD
            have HFIN : Hid (Rd (wr.setRow q A) g K.2.1 K.2.2 ∧ Only g w (wr.setRow q A)) := Lib.hid (by
              refine ⟨?_, ?_⟩
              · have h2 := ((Out.refl (fun j => j = q) wr).setRow (q := q) rfl A).block g (lt_of_heap HRD2.out) (fun e => HGQ1.out e.symm)
                exact h2.trans HRD2.out
              · have h2 := (HOU.out.mono (G := fun j => j = g ∨ j = q2 ∨ j = q) (fun j _ e => e.elim Or.inl (fun e => Or.inr (Or.inl e)))).setRow (q := q) (Or.inr (Or.inr rfl)) A
                refine ⟨h2.os.trans HWB.out.os, h2.tape.trans HWB.out.tape, h2.output.trans HWB.out.output, Nat.le_trans HWB.out.size h2.size, fun i hi hg => ?_⟩
                refine (h2.block i (Nat.lt_of_lt_of_le hi HWB.out.size) (fun e => ?_)).trans (HWB.out.block i hi hg)
                rcases e with e | e | e
                · exact hg e
                · have := HLE.out; omega
                · have := HQ.out; omega)
            have HA := Lib.hid hA
            clear hold hA hcs hKK hlen16
            go_wp2_with (first | (refine wpList_load_row (by rfl) _ _ (by rfl) q2 (by rfl) _ A _ _ HRW2.out Tryz.underlying108 (by rfl) HI.out ?_) | (refine wpList_store_row (by rfl) _ _ _ (by rfl) q A (by rfl) (by rfl) _ _ HQR.out HI.out HOLD.out HON1.out ?_))
            refine bodyPost_ret (v := .agg A) (results_cell_row rfl _ _ q _ _ _ _ rfl (setRow_at HQR.out) Tryz.underlying108 rfl HI.out) rfl ⟨by rw [← HA.out]; rfl, HFIN.out.1, HFIN.out.2⟩
end Go.Proofs.YtaficmboooaknaaGreatDoor
