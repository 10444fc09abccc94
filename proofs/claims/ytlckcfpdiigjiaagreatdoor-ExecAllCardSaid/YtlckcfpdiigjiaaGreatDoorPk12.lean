/- NibOf, NibPack, NibUnpack, NibPackU, JoinShelf, NodeEnc, NodeEncode, NodeRdr, NodeDec, NodeLaw, NibRef, NibRefPack, NibRefUnpack, NibRefU, NodeRefWritten, NodeRefBranch, NodeRefFine, NodeDig, TriMem -/
import Derived.Test.YtlckcfpdiigjiaaGreatDoorPk11
import Derived.Test.YtlckcfpdiigjiaaGreatDoorPk10
import Derived.Shelf.Strings.Builder1
import Derived.Shelf.Strings.Builder2
import Derived.Shelf.Strings.OnBuilder
import Derived.Test.YtlckcfpdiigjiaaGreatDoorChecked
import Derived.Test.YtlckcfpdiigjiaaGreatDoorPk02
import Derived.Test.YtlckcfpdiigjiaaGreatDoorPk01
import Derived.Deep.RegionWith
import Derived.Laws.IdiomStrings
import Derived.Deep.MidRow
import Derived.Laws.CopyOwn
import Derived.WalkSpells
import Derived.WalkLawsBesides
import Derived.Lib.Hide
import Derived.Test.YtlckcfpdiigjiaaGreatDoorPk07
import Derived.Deep.DrawnRows
import Derived.Test.YtlckcfpdiigjiaaGreatDoorPk04
import Derived.Test.YtlckcfpdiigjiaaGreatDoorPk09
namespace Go.Proofs.YtlckcfpdiigjiaaGreatDoor
open Go.RowKit

set_option maxHeartbeats 400000 in
theorem of_any (l : List UInt8) (w : World) (hl : l.length ≤ 2000000) :
    Calls Tryz.prog 73 #[.string ⟨l.toArray⟩] w fun e w' => e = .returned (.string ⟨(Nib.ofL l).toArray⟩) ∧ Below w.heap.size w w' := by
  go_enter Tryz.func73, Tryz.ntmps73
  go_wp2_with fail
  refine (spread_any l w.heap.size _ [] w (Nat.le_refl _) hl (by simp) (ownsNil w _)).mono ?_
  rintro e w1 ⟨v', rfl, hown, hbel⟩
  have hc := conv_own hown
  go_wp2
  go_ret
  exact ⟨rfl, hbel⟩

set_option maxHeartbeats 400000 in
theorem key_odd (l : List UInt8) (w : World) (hl : l.length ≤ 1000000) (hf : Nib.fitL l = true) (ho : l.length % 2 = 1) :
    Calls Tryz.prog 36 #[.string ⟨l.toArray⟩] w fun e w' => e = .returned (.tuple #[.string ⟨#[]⟩, .int .i64 4]) ∧ Below w.heap.size w w' := by
  have HF := Lib.hid hf; clear hf
  have ho1 : ((l.length : Int) % 2 != 0) = true := by rw [bne_iff_ne]; omega
  clear ho
  go_enter Tryz.func36, Tryz.ntmps36
  go_wp2_with fail
  refine (fit_any l w hl).mono ?_
  rintro e w1 ⟨rfl, rfl⟩
  rw [HF.out]
  go_wp2
  go_ret2
  exact ⟨rfl, Below.refl _ _⟩

set_option maxHeartbeats 400000 in
theorem key_good (l : List UInt8) (w : World) (hl : l.length ≤ 1000000) (hf : Nib.fitL l = true) (ho : l.length % 2 = 0) :
    Calls Tryz.prog 36 #[.string ⟨l.toArray⟩] w fun e w' => e = .returned (.tuple #[.string ⟨(Nib.joinL l).toArray⟩, .int .i64 0]) ∧ Below w.heap.size w w' := by
  have HF := Lib.hid hf; clear hf
  have ho1 : ((l.length : Int) % 2 != 0) = false := by simp; omega
  clear ho
  go_enter Tryz.func36, Tryz.ntmps36
  go_wp2_with fail
  refine (fit_any l w hl).mono ?_
  rintro e w1 ⟨rfl, rfl⟩
  rw [HF.out]
  go_wp2_with fail
  refine (join_any l w.heap.size _ [] w (Nat.le_refl _) hl (by simp) HF.out (ownsNil w _)).mono ?_
  rintro e w1 ⟨v', rfl, hown, hbel⟩
  have hc := conv_own hown
  go_wp2
  go_ret2
  exact ⟨rfl, hbel⟩

end Go.Proofs.YtlckcfpdiigjiaaGreatDoor
namespace Go.Proofs.YtlckcfpdiigjiaaGreatDoor
open Go.RowKit

set_option maxHeartbeats 400000 in
theorem pack_even (l : List UInt8) (leaf : Bool) (w : World) (hl : l.length ≤ 1000000) (hf : Nib.fitL l = true) (ho : l.length % 2 = 0) :
    Calls Tryz.prog 124 #[.string ⟨l.toArray⟩, .bool leaf] w fun e w' => e = .returned (.tuple #[.string ⟨(Nib.packL l leaf).toArray⟩, .int .i64 0]) ∧ Below w.heap.size w w' := by
  have HF := Lib.hid hf; clear hf
  have HP := Lib.hid (Nib.packL_even l leaf ho)
  have ho1 : ((l.length : Int) % 2 != 0) = false := by simp; omega
  clear ho
  cases leaf
  · go_enter Tryz.func124, Tryz.ntmps124
    go_wp2_with fail
    refine (fit_any l w hl).mono ?_
    rintro e w1 ⟨rfl, rfl⟩
    rw [HF.out]
    go_wp2_with fail
    refine (join_any l w.heap.size _ [0] _ (by simp) hl (by simp) HF.out (ownsOne w _ (Nat.le_refl _) 0 _ rfl)).mono ?_
    rintro e w1 ⟨v', rfl, hown, hbel⟩
    have hc := conv_own hown
    go_wp2
    go_ret2
    rw [HP.out]
    exact ⟨rfl, ((Below.refl _ _).alloc (Nat.le_refl _) _).trans hbel⟩
  · go_enter Tryz.func124, Tryz.ntmps124
    go_wp2_with fail
    refine (fit_any l w hl).mono ?_
    rintro e w1 ⟨rfl, rfl⟩
    rw [HF.out]
    go_wp2_with fail
    refine (join_any l w.heap.size _ [32] _ (by simp) hl (by simp) HF.out (ownsOne w _ (Nat.le_refl _) 32 _ or_0_32)).mono ?_
    rintro e w1 ⟨v', rfl, hown, hbel⟩
    have hc := conv_own hown
    go_wp2
    go_ret2
    rw [HP.out]
    exact ⟨rfl, ((Below.refl _ _).alloc (Nat.le_refl _) _).trans hbel⟩

set_option maxHeartbeats 400000 in
theorem pack_odd (a : UInt8) (t : List UInt8) (leaf : Bool) (w : World) (hl : (a :: t).length ≤ 1000000) (hf : Nib.fitL (a :: t) = true) (ho : t.length % 2 = 0) :
    Calls Tryz.prog 124 #[.string ⟨(a :: t).toArray⟩, .bool leaf] w fun e w' => e = .returned (.tuple #[.string ⟨(Nib.packL (a :: t) leaf).toArray⟩, .int .i64 0]) ∧ Below w.heap.size w w' := by
  have HF := Lib.hid hf; clear hf
  have HP := Lib.hid (Nib.packL_odd a t leaf ho)
  have ho1 : (((t.length : Int) + 1) % 2 != 0) = true := by rw [bne_iff_ne]; omega
  clear ho
  have HA := Lib.hid (Nib.fitL_get (a :: t) HF.out 0 (by simp))
  have HT := Lib.hid (Nib.fitL_tail a t HF.out)
  have hlt : t.length ≤ 1000000 := by simp at hl; omega
  cases leaf
  · go_enter Tryz.func124, Tryz.ntmps124
    go_wp2_with fail
    refine (fit_any (a :: t) w hl).mono ?_
    rintro e w1 ⟨rfl, rfl⟩
    rw [HF.out]
    go_wp2_with fail
    rw [extract_mk_tail]
    refine (join_any t w.heap.size _ [16 + a] _ (by simp) hlt (by simp) HT.out (ownsOne w _ (Nat.le_refl _) (16 + a) _ (or_head0 a HA.out))).mono ?_
    rintro e w1 ⟨v', rfl, hown, hbel⟩
    have hc := conv_own hown
    go_wp2
    go_ret2
    rw [HP.out]
    exact ⟨rfl, ((Below.refl _ _).alloc (Nat.le_refl _) _).trans hbel⟩
  · go_enter Tryz.func124, Tryz.ntmps124
    go_wp2_with fail
    refine (fit_any (a :: t) w hl).mono ?_
    rintro e w1 ⟨rfl, rfl⟩
    rw [HF.out]
    go_wp2_with fail
    rw [extract_mk_tail]
    refine (join_any t w.heap.size _ [48 + a] _ (by simp) hlt (by simp) HT.out (ownsOne w _ (Nat.le_refl _) (48 + a) _ (or_head2 a HA.out))).mono ?_
    rintro e w1 ⟨v', rfl, hown, hbel⟩
    have hc := conv_own hown
    go_wp2
    go_ret2
    rw [HP.out]
    exact ⟨rfl, ((Below.refl _ _).alloc (Nat.le_refl _) _).trans hbel⟩

end Go.Proofs.YtlckcfpdiigjiaaGreatDoor
namespace Go.Proofs.YtlckcfpdiigjiaaGreatDoor
open Go.RowKit

end Go.Proofs.YtlckcfpdiigjiaaGreatDoor
namespace Go.Proofs.YtlckcfpdiigjiaaGreatDoor
open Go.RowKit

theorem pack_good (l : List UInt8) (leaf : Bool) (w : World) (hl : l.length ≤ 1000000) (hf : Nib.fitL l = true) :
    Calls Tryz.prog 124 #[.string ⟨l.toArray⟩, .bool leaf] w fun e w' => e = .returned (.tuple #[.string ⟨(Nib.packL l leaf).toArray⟩, .int .i64 0]) ∧ Below w.heap.size w w' := by
  rcases Nat.mod_two_eq_zero_or_one l.length with h | h
  · exact pack_even l leaf w hl hf h
  · match l, hl, hf, h with
    | a :: t, hl, hf, h => exact pack_odd a t leaf w hl hf (by simp at h; omega)
end Go.Proofs.YtlckcfpdiigjiaaGreatDoor
namespace Go.Proofs.YtlckcfpdiigjiaaGreatDoor
open Go.Shelf Go.RowKit
def lays156_ren : Go.Shelf.Ren := ⟨fun | 156 => 114 | 165 => 125 | 166 => 126 | 169 => 127 | 240 => 132 | 241 => 133 | 276 => 135 | 277 => 136 | n => n, fun | 31 => 154 | 9 => 9 | 3 => 3 | 4 => 4 | 0 => 0 | 20 => 20 | 72 => 165 | 76 => 169 | 70 => 163 | 37 => 110 | 75 => 168 | 127 => 128 | 164 => 177 | 5 => 5 | 80 => 65 | n => n, fun | n => n⟩
theorem lays156 : Go.Proofs.Lays.n156 Tryz.prog lays156_ren := {
  mixed := by kernel_rfl
  f156 := Tryz.func114.trans (congrArg some (by kernel_rfl))
  f165 := Tryz.func125.trans (congrArg some (by kernel_rfl))
  f166 := Tryz.func126.trans (congrArg some (by kernel_rfl))
  f169 := Tryz.func127.trans (congrArg some (by kernel_rfl))
  f240 := Tryz.func132.trans (congrArg some (by kernel_rfl))
  f241 := Tryz.func133.trans (congrArg some (by kernel_rfl))
  f276 := Tryz.func135.trans (congrArg some (by kernel_rfl))
  f277 := Tryz.func136.trans (congrArg some (by kernel_rfl))
  t0 := Tryz.underlying0
  a0 := Tryz.isAgg0
  z0 := Tryz.sizeOf0
  v0 := Tryz.zeroValue0
  t3 := Tryz.underlying3
  a3 := Tryz.isAgg3
  z3 := Tryz.sizeOf3
  v3 := Tryz.zeroValue3
  t4 := Tryz.underlying4
  a4 := Tryz.isAgg4
  z4 := Tryz.sizeOf4
  v4 := Tryz.zeroValue4
  t9 := Tryz.underlying9
  a9 := Tryz.isAgg9
  z9 := Tryz.sizeOf9
  v9 := Tryz.zeroValue9
  t20 := Tryz.underlying20
  a20 := Tryz.isAgg20
  z20 := Tryz.sizeOf20
  v20 := Tryz.zeroValue20
  t31 := Tryz.underlying154
  a31 := Tryz.isAgg154
  z31 := Tryz.sizeOf154
  v31 := Tryz.zeroValue154
  t37 := Tryz.underlying110
  a37 := Tryz.isAgg110
  z37 := Tryz.sizeOf110
  v37 := Tryz.zeroValue110
  t70 := Tryz.underlying163
  a70 := Tryz.isAgg163
  z70 := Tryz.sizeOf163
  v70 := Tryz.zeroValue163
  t72 := Tryz.underlying165
  a72 := Tryz.isAgg165
  z72 := Tryz.sizeOf165
  v72 := Tryz.zeroValue165
  t75 := Tryz.underlying168
  a75 := Tryz.isAgg168
  z75 := Tryz.sizeOf168
  v75 := Tryz.zeroValue168
  t76 := Tryz.underlying169
  a76 := Tryz.isAgg169
  z76 := Tryz.sizeOf169
  v76 := Tryz.zeroValue169
  t127 := Tryz.underlying128
  a127 := Tryz.isAgg128
  z127 := Tryz.sizeOf128
  v127 := Tryz.zeroValue128
  t164 := Tryz.underlying177
  a164 := Tryz.isAgg177
  z164 := Tryz.sizeOf177
  v164 := Tryz.zeroValue177 }
theorem shelf_Builder_Extra_156 : Builder.Extra Tryz.prog lays156_ren := {
  sizeBuilder := by kernel_rfl
  liesBuilder := by kernel_rfl
  t5 := Tryz.underlying5
  a5 := Tryz.isAgg5
  z5 := Tryz.sizeOf5
  v5 := Tryz.zeroValue5
  infoByte := by kernel_rfl
  cellsByte := by kernel_rfl
  sizeByte := by kernel_rfl
  neB5 := by decide }
open Go.RowKit in
theorem shelf_strings_Join (bk o c : Nat) (xs : List ByteArray) (sep : ByteArray) (w : World) (hcells : ∀ (j : Nat) x, xs[j]? = some x → w.cell? ⟨bk, o + j, none⟩ = some (.string x)) (hbk : bk < w.heap.size) (hN : xs.length ≤ 140737488355328) (hcap : xs.length ≤ c) (hlen : (Lib.join (xs.map (·.data.toList)) sep.data.toList).length ≤ 140737488355328) :
    Calls Tryz.prog 114 #[.slice (some ⟨bk, o, none⟩) xs.length c, .string sep] w fun e w' => e = .returned (.string ⟨(Lib.join (xs.map (·.data.toList)) sep.data.toList).toArray⟩) ∧ Below w.heap.size w w' := Any.strings_Join lays156 shelf_Builder_Extra_156 bk o c xs sep w hcells hbk hN hcap hlen
end Go.Proofs.YtlckcfpdiigjiaaGreatDoor
namespace Go.Proofs.YtlckcfpdiigjiaaGreatDoor
open Go.RowKit
open Go.Proofs.YtlckcfpdiigjiaaGreatDoor.Nd (N)

set_option maxRecDepth 100000 in
theorem npacked_any (p : List UInt8) (leaf : Bool) (w : World) (hp : p.length ≤ 16) (hf : Nib.fitL p = true) :
    Calls Tryz.prog 112 #[.string ⟨p.toArray⟩, .bool leaf] w fun e w' => e = .returned (.string ⟨(Code.textL (Nib.packL p leaf)).toArray⟩) ∧ Below w.heap.size w w' := by
  have HPK := Lib.hid (fun w => pack_good p leaf w (by omega) hf)
  have hl : (Nib.packL p leaf).length ≤ 9 := by rw [Nib.packL_length]; omega
  have HT := Lib.hid (fun w => text_any (Nib.packL p leaf) w (by omega))
  clear hp hf hl
  go_enter Tryz.func112, Tryz.ntmps112
  go_wp2_with fail
  refine (HPK.out _).mono ?_
  rintro e w1 ⟨rfl, hb1⟩
  go_wp2_with fail
  refine (HT.out _).mono ?_
  rintro e w2 ⟨rfl, hb2⟩
  have HB := Lib.hid (bchain hb1 hb2)
  go_wp2
  go_ret
  exact ⟨rfl, HB.out⟩

theorem Nd.bits8_step (l : List (List UInt8)) (k : Nat) (hk : k < l.length) : Nd.bits8 (l.take (k + 1)) = Nd.bits8 (l.take k) * 2 + if l[k] = [] then 0 else 1 := by
  unfold Nd.bits8
  rw [List.take_succ_eq_append_getElem hk, List.foldl_append]
  rfl
theorem Nd.bits8_app (a b : List (List UInt8)) : Nd.bits8 (a ++ b) = Nd.bits8 a * 2 ^ b.length + Nd.bits8 b := by
  have key : ∀ (b : List (List UInt8)) (s : Nat), b.foldl (fun a k => a * 2 + if k = [] then 0 else 1) s = s * 2 ^ b.length + b.foldl (fun a k => a * 2 + if k = [] then 0 else 1) 0 := by
    intro b
    induction b with
    | nil => intro s; simp
    | cons x b ih =>
      intro s
      rw [List.foldl_cons, List.foldl_cons, ih (s * 2 + _), ih (0 * 2 + _), List.length_cons, Nat.pow_succ]
      generalize (if x = [] then 0 else 1) = q
      rw [Nat.add_mul, Nat.zero_mul, Nat.zero_add, Nat.mul_assoc s 2, Nat.mul_comm 2]
      omega
  unfold Nd.bits8
  rw [List.foldl_append]
  exact key b _
theorem Nd.bits16 (L : List (List UInt8)) (hL : L.length = 16) : Nd.bits8 L = Nd.bits8 (L.take 8) * 256 + Nd.bits8 (L.drop 8) ∧ Nd.bits8 (L.take 8) < 256 ∧ Nd.bits8 (L.drop 8) < 256 := by
  have h := Nd.bits8_app (L.take 8) (L.drop 8)
  have hd : (L.drop 8).length = 8 := by rw [List.length_drop, hL]
  rw [List.take_append_drop, hd] at h
  exact ⟨h, Nd.bits8_lt _ (by rw [List.length_take, hL]; rfl), Nd.bits8_lt _ hd⟩
theorem or_one (b : Nat) (h : b < 65536) : bits .or .i64 ((b : Int) * 2) 1 = ((b * 2 + 1 : Nat) : Int) := by
  have h3 := i64_or_nat (b * 2) 1 (by omega) (by decide)
  have h4 : b * 2 ||| 1 = b * 2 + 1 := by
    have h5 := Nat.shiftLeft_add_eq_or_of_lt (show 1 < 2 ^ 1 by decide) b
    rw [Nat.shiftLeft_eq] at h5
    exact h5.symm
  rw [h4, Int.natCast_mul] at h3
  exact h3
set_option maxRecDepth 100000 in
theorem ntaken_any (L : List (List UInt8)) (w : World) (hL : L.length = 16) :
    Calls Tryz.prog 113 #[aval L] w fun e w' => e = .returned (.string ⟨[Nd.byteN (Nd.bits8 (L.take 8)), Nd.byteN (Nd.bits8 (L.drop 8))].toArray⟩) ∧ Below w.heap.size w w' := by
  unfold aval
  have HKE : Hid (∀ (k : Nat) (hk : k < 16), ∀ w, (Instr.index 124 (.agg (scells L).toArray) (.int .i64 k)).run Tryz.prog w = .ok (.string ⟨(L[k]'(by omega)).toArray⟩) w) := Lib.hid (fun k hk w => idx_strs L hL k hk w)
  have hcs : (scells L).toArray.size = 16 := by rw [List.size_toArray, scells_length, hL]
  have HI : Hid ((Tryz.prog.info? 124).map (·.size) = some (scells L).toArray.size) := Lib.hid (by rw [hcs]; kernel_rfl)
  have HRO : Hid ((w.alloc (.cells (scells L).toArray 124)).heap[w.heap.size]? = some (.cells (scells L).toArray 124 (0, 0))) := Lib.hid (heap_new_at w _ _ rfl)
  have HB : Hid (Below w.heap.size w (w.alloc (.cells (scells L).toArray 124))) := Lib.hid ((Below.refl _ w).alloc (Nat.le_refl _) _)
  obtain ⟨C, hC⟩ : ∃ C, (scells L).toArray = C := ⟨_, rfl⟩
  rw [hC] at HI HRO HB HKE ⊢
  have HN := Lib.hid hL
  clear hC hcs
  go_enter Tryz.func113, Tryz.ntmps113
  go_wp2_with (refine wpList_load_row (by rfl) _ _ (by rfl) w.heap.size (by rfl) _ C _ _ HRO.out Tryz.underlying124 (by rfl) HI.out ?_)
  generalize (w.alloc (.cells C 124)) = w0 at *
  go_loopw [3, 7] (fun b i wr => ∃ k c : Nat, k ≤ 16 ∧ i = .int .i64 k ∧ b = .int .i64 c ∧ c = Nd.bits8 (L.take k) ∧ c < 2 ^ k ∧ wr = w0) (fun _ i _ => 16 - (intOf i).toNat)
  case atStart => exact ⟨0, 0, Nat.zero_le _, rfl, rfl, rfl, by decide, rfl⟩
  case round =>
    obtain ⟨k, c, hk, rfl, rfl, hc, hc2, rfl⟩ := hrel
    have HC := Lib.hid hc
    have hcb : (c : Int) < 65536 := by
      have h1 : 2 ^ k ≤ 2 ^ 16 := Nat.pow_le_pow_right (by decide) hk
      have h2 : (2 : Nat) ^ 16 = 65536 := rfl
      omega
    have hc0 : (0 : Int) ≤ (c : Int) := by omega
    have HC2 := Lib.hid hc2
    clear hc hc2
    by_cases hlt : k < 16
    · have h1 : (k : Int) < 16 := by omega
      have h0 : (0 : Int) ≤ (k : Int) := by omega
      have n0 := HKE.out k hlt
      have HST := Lib.hid (Nd.bits8_step L k (by have := HN.out; omega))
      obtain ⟨x, hx⟩ : ∃ x, L[k]'(by have := HN.out; omega) = x := ⟨_, rfl⟩
      rw [hx] at n0 HST
      clear hx
      by_cases he : x = []
      · subst he
        rw [if_pos rfl] at HST
        go_wp2
        exact ⟨⟨k + 1, c * 2, by omega, by go_num, by go_num, by rw [HST.out, HC.out]; rfl, by rw [Nat.pow_succ]; have := HC2.out; omega, trivial⟩, by simp [intOf]; omega⟩
      · rw [if_neg he] at HST
        have he1 : (x == []) = false := by rw [beq_eq_false_iff_ne]; exact he
        have ho := or_one c (by omega)
        go_wp2
        exact ⟨⟨k + 1, c * 2 + 1, by omega, by go_num, by go_num, by rw [HST.out, HC.out], by rw [Nat.pow_succ]; have := HC2.out; omega, trivial⟩, by simp [intOf]; omega⟩
    · have h1 : ¬ ((k : Int) < 16) := by omega
      obtain rfl : k = 16 := by omega
      rw [List.take_of_length_le (by have := HN.out; omega)] at HC
      obtain ⟨b1, b2, b3⟩ := Nd.bits16 L HN.out
      rw [← HC.out] at b1
      obtain ⟨h, hh⟩ : ∃ h, Nd.bits8 (L.take 8) = h := ⟨_, rfl⟩
      obtain ⟨l, hll⟩ : ∃ l, Nd.bits8 (L.drop 8) = l := ⟨_, rfl⟩
      have HH := Lib.hid hh
      have HL := Lib.hid hll
      rw [hh, hll] at b1
      rw [hh] at b2
      rw [hll] at b3
      have kc := conv_two' wr (Nd.byteN h) (Nd.byteN l) ((c : Int) / 256) ((c : Int) % 256) (by rw [Nd.byteN, Code.ofNat_toNat _ b2]; omega) (by rw [Nd.byteN, Code.ofNat_toNat _ b3]; omega)
      clear hh hll b1 b2 b3
      go_wp2
      go_ret
      exact ⟨by rw [HH.out, HL.out]; rfl, HB.out.alloc HB.out.size _⟩
theorem Nd.join_flat (l : List (List UInt8)) : Lib.join l [] = l.flatten := by
  induction l with
  | nil => rfl
  | cons a l ih =>
    rw [Lib.join_cons, List.flatten_cons]
    simp [Lib.joinTail]
theorem njoin_any (L : List (List UInt8)) (g : Nat) (w : World) (hL : L.length = 16) (hg : g < w.heap.size) (hr : w.rangeAt g 3 (scells L)) (hl : L.flatten.length ≤ 1000000) :
    Calls Tryz.prog 114 #[.slice (some ⟨g, 3, none⟩) 16 16, .string ⟨#[]⟩] w fun e w' => e = .returned (.string ⟨L.flatten.toArray⟩) ∧ Below w.heap.size w w' := by
  have h1 : (L.map fun l => (⟨l.toArray⟩ : ByteArray)).length = 16 := by rw [List.length_map, hL]
  have h2 : (L.map fun l => (⟨l.toArray⟩ : ByteArray)).map (·.data.toList) = L := by
    rw [List.map_map]
    exact (List.map_congr_left (fun a _ => by simp)).trans (List.map_id _)
  have h3 := shelf_strings_Join g 3 16 (L.map fun l => ⟨l.toArray⟩) ⟨#[]⟩ w (fun j x hx => by
    rw [List.getElem?_map] at hx
    obtain ⟨l, hl1, rfl⟩ := Option.map_eq_some_iff.1 hx
    exact hr j _ (by simp [scells, hl1])) hg (by rw [h1]; omega) (by rw [h1]; omega) (by
    rw [h2]
    show (Lib.join L []).length ≤ _
    rw [Nd.join_flat]
    omega)
  rw [h1, h2] at h3
  rw [← Nd.join_flat]
  exact h3
theorem Nd.all32_flat (l : List (List UInt8)) (h : Nd.all32 l = true) : l.flatten.length ≤ 32 * l.length := by
  induction l with
  | nil => simp
  | cons a l ih =>
    rw [Nd.all32_cons, Bool.and_eq_true] at h
    have h1 := ih h.2
    have h2 : a.length ≤ 32 := by
      have := h.1
      simp only [Bool.or_eq_true, decide_eq_true_eq] at this
      rcases this with q | q
      · rw [q]; simp
      · omega
    rw [List.flatten_cons, List.length_append, List.length_cons]
    omega
theorem Nd.fine_parts {n : N} (h : Nd.fine n = true) : Nd.all32 n.kids = true ∧ Nib.fitL n.path = true ∧ n.path.length ≤ 16 ∧ n.val.length ≤ 32 ∧ (n.kind = 1 ∨ n.kind = 2 ∨ n.kind = 3) := by
  simp only [Nd.fine, Bool.and_eq_true, decide_eq_true_eq] at h
  obtain ⟨a, b, c, d, e⟩ := h
  refine ⟨a, b, c, d, ?_⟩
  by_cases k1 : n.kind = 1
  · exact Or.inl k1
  by_cases k2 : n.kind = 2
  · exact Or.inr (Or.inl k2)
  by_cases k3 : n.kind = 3
  · exact Or.inr (Or.inr k3)
  rw [if_neg k1, if_neg k2, if_neg k3] at e
  cases e
theorem Code.textL_le' (s : List UInt8) (n : Nat) (h : s.length ≤ n) (hn : n ≤ 100) : (Code.textL s).length ≤ n + 9 := by
  rw [Code.textL, List.length_append, Code.numL_length]
  have : Code.sz s.length ≤ 8 := Code.sz_le8 s.length (by omega)
  omega
end Go.Proofs.YtlckcfpdiigjiaaGreatDoor
namespace Go.Proofs.YtlckcfpdiigjiaaGreatDoor
open Go.RowKit
open Go.Proofs.YtlckcfpdiigjiaaGreatDoor.Nd (N)
attribute [local go_sem ↓] Go.wp_at_zero Go.wp_at_succ

def load16 (v : Value) : Sem Value := Instr.loadAt 124 v
theorem wp_load16 {P : Program} {dst : Option Tmp} {x : Operand} {ty : TypeId} {pos : String} {after : Array Edge} {guard : Option (Nat × Bool)} {a : Act} {w : World} {K : Act → World → Prop} {Q : Exit → Act → World → Prop} :
    Oper.wp P { dst := dst, op := .load 124 x, type := ty, pos := pos, after := after, guard := guard } a w K Q = Oper.upon P { dst := dst, op := .load 124 x, type := ty, pos := pos, after := after, guard := guard } a K Q (((load16 (a.eval x)).run P w).andThen fun v w' => .ok (.value v) w') := by
  unfold Oper.wp execOp load16
  simp only [Sem.run_bind, Sem.run_pure]
attribute [local go_sem ↓] wp_load16
theorem run_l16 {w : World} {g o : Nat} {L : List (List UInt8)} (hc : w.rangeAt g o (scells L)) (hi : (Tryz.prog.info? 124).map (·.size) = some (scells L).length) : (load16 (.pointer (some ⟨g, o, none⟩))).run Tryz.prog w = .ok (aval L) w :=
  run_loadAt_mid (P := Tryz.prog) w g o 124 (scells L) _ hc Tryz.underlying124 rfl hi
def Nd.encS (n : N) : List UInt8 := if Nd.fine n then Nd.written n else []
def Nd.encC (n : N) : Int := if Nd.fine n then 0 else 80
set_option maxRecDepth 100000 in
set_option maxHeartbeats 2000000 in
theorem nencode_any (n : N) (w : World) (hn : n.kids.length = 16) :
    Calls Tryz.prog 100 #[ndval n] w fun e w' => e = .returned (.tuple #[.string ⟨(Nd.encS n).toArray⟩, .int .i64 (Nd.encC n)]) ∧ Below w.heap.size w w' := by
  obtain ⟨C, hC, HB0, HCE, HI, HI2⟩ := nbox n w hn
  have HCK := Lib.hid (fun w => ncheck_any n w hn)
  unfold Nd.encS Nd.encC
  unfold ndval at HCK ⊢
  rw [hC] at HCK ⊢
  clear hC
  obtain ⟨-, -, -, -, -, cR⟩ := HCE.out _ (Below.refl _ _)
  have HRO := Lib.hid cR
  clear cR
  cases hf : Nd.fine n with
  | false =>
    rw [hf] at HCK
    rw [if_neg (by decide), if_neg (by decide)]
    rw [if_neg (by decide)] at HCK
    clear hf
    go_enter Tryz.func100, Tryz.ntmps100
    go_wp2_with (refine wpList_load_row (by rfl) _ _ (by rfl) w.heap.size (by rfl) _ C _ _ HRO.out Tryz.underlying126 (by rfl) HI.out ?_)
    refine (HCK.out _).mono ?_
    rintro e w1 ⟨rfl, hb1⟩
    go_wp2
    go_ret2
    exact ⟨rfl, bchain HB0.out hb1⟩
  | true =>
    rw [hf] at HCK
    rw [if_pos rfl, if_pos rfl]
    rw [if_pos rfl] at HCK
    obtain ⟨hall, hfit, hp16, hv32, hkd⟩ := Nd.fine_parts hf
    have HTX := Lib.hid (fun w => text_any n.val w (by omega))
    have HPL := Lib.hid (fun w => npacked_any n.path true w hp16 hfit)
    have HPE := Lib.hid (fun w => npacked_any n.path false w hp16 hfit)
    have HTK := Lib.hid (fun w => ntaken_any n.kids w hn)
    have hfl := Nd.all32_flat n.kids hall
    have HJN := Lib.hid (fun g w hg hr => njoin_any n.kids g w hn hg hr (by omega))
    have ht1 := Code.textL_le' (Nib.packL n.path true) 9 (by rw [Nib.packL_length]; omega) (by omega)
    have ht2 := Code.textL_le' (Nib.packL n.path false) 9 (by rw [Nib.packL_length]; omega) (by omega)
    have ht3 := Code.textL_le' n.val 32 hv32 (by omega)
    have hw : Nd.written n = if n.kind = 3 then [3] ++ (([Nd.byteN (Nd.bits8 (n.kids.take 8)), Nd.byteN (Nd.bits8 (n.kids.drop 8))] ++ n.kids.flatten) ++ Code.textL n.val) else if n.kind = 1 then [1] ++ (Code.textL (Nib.packL n.path true) ++ Code.textL n.val) else [2] ++ (Code.textL (Nib.packL n.path false) ++ n.kids.getD 0 []) := by
      unfold Nd.written Nd.branchL
      rcases hkd with k | k | k <;> rw [k] <;> simp
    rw [hw]
    have hz32 : (n.kids.getD 0 []).length ≤ 32 := by
      have := List.all_eq_true.1 hall (n.kids[0]'(by omega)) (List.getElem_mem _)
      rw [List.getD_eq_getElem?_getD, List.getElem?_eq_getElem (by omega)]
      simp only [Bool.or_eq_true, decide_eq_true_eq] at this
      show (n.kids[0]'(by omega)).length ≤ 32
      rcases this with q | q
      · rw [q]; simp
      · omega
    clear hw hall hfit hp16 hv32 hf
    rcases hkd with hk | hk | hk
    · rw [if_neg (by rw [hk]; decide), if_pos hk]
      have HCF : Hid (∀ w', Below (w.alloc (.cells C 126)).heap.size (w.alloc (.cells C 126)) w' → w'.cell? ⟨w.heap.size, 0, none⟩ = some (.int .i64 1) ∧ w'.cell? ⟨w.heap.size, 1, none⟩ = some (.string ⟨n.path.toArray⟩) ∧ w'.cell? ⟨w.heap.size, 2, none⟩ = some (.string ⟨n.val.toArray⟩)) := Lib.hid (fun w' h => by obtain ⟨a, b, c, -⟩ := HCE.out w' h; rw [hk] at a; exact ⟨a, b, c⟩)
      obtain ⟨T1, hT1⟩ : ∃ T, Code.textL (Nib.packL n.path true) = T := ⟨_, rfl⟩
      obtain ⟨T2, hT2⟩ : ∃ T, Code.textL n.val = T := ⟨_, rfl⟩
      rw [hT1] at HPL ht1 ⊢
      rw [hT2] at HTX ht3 ⊢
      have h1 := cat_mk T1 T2
      have h2 := cat_mk [1] (T1 ++ T2)
      have hX1 : (T1 ++ T2).length ≤ 59 := by rw [List.length_append]; omega
      have hY1 : ([1] ++ (T1 ++ T2) : List UInt8).length ≤ 60 := by rw [List.length_append]; simp only [List.length_singleton]; omega
      obtain ⟨X, hX⟩ : ∃ X, T1 ++ T2 = X := ⟨_, rfl⟩
      rw [hX] at h1 h2 hX1 hY1 ⊢
      obtain ⟨Y, hY⟩ : ∃ Y, ([1] ++ X : List UInt8) = Y := ⟨_, rfl⟩
      rw [hY] at h2 hY1 ⊢
      clear hT1 hT2 hX hY HPE HTK HJN hz32 ht2 hfl
      go_enter Tryz.func100, Tryz.ntmps100
      go_wp2_with (refine wpList_load_row (by rfl) _ _ (by rfl) w.heap.size (by rfl) _ C _ _ HRO.out Tryz.underlying126 (by rfl) HI.out ?_)
      refine (HCK.out _).mono ?_
      rintro e w1 ⟨rfl, hb1⟩
      generalize (w.alloc (.cells C 126)) = w0 at *
      have hb2 : Below w0.heap.size w0 (w1.alloc (.cells #[.int .u8 1] 5)) := hb1.alloc hb1.size _
      obtain ⟨c0, c1, c2⟩ := HCF.out _ hb1
      obtain ⟨d0, d1, d2⟩ := HCF.out _ hb2
      have HB1 := Lib.hid hb1
      have HFI : Hid (∀ w', Below w0.heap.size w0 w' → Below w.heap.size w w') := Lib.hid (fun w' h => bchain HB0.out h)
      have HBD := Lib.hid hb2.drew
      have HPL' : Hid (∀ w', Below w0.heap.size w0 w' → Calls Tryz.prog 112 #[.string ⟨n.path.toArray⟩, .bool true] w' fun e w'' => e = .returned (.string ⟨T1.toArray⟩) ∧ Below w0.heap.size w0 w'') := Lib.hid (fun w' h => (HPL.out w').mono fun e w'' q => ⟨q.1, h.trans (q.2.mono h.size)⟩)
      have HTX' : Hid (∀ w', Below w0.heap.size w0 w' → Calls Tryz.prog 92 #[.string ⟨n.val.toArray⟩] w' fun e w'' => e = .returned (.string ⟨T2.toArray⟩) ∧ Below w0.heap.size w0 w'') := Lib.hid (fun w' h => (HTX.out w').mono fun e w'' q => ⟨q.1, h.trans (q.2.mono h.size)⟩)
      have kc := conv_one' w1 1 1 rfl w1.heap.size rfl
      clear hb1 hb2
      go_wp2
      have BD := HBD.out
      go_region_with (first | (go_at_call 112; refine (HPL'.out _ (by with_reducible assumption)).mono ?_; rintro e w2 ⟨rfl, hb2⟩; have e1 := (HCF.out _ hb2).2.1; have e2 := (HCF.out _ hb2).2.2) | (go_at_call 92; refine (HTX'.out _ (by with_reducible assumption)).mono ?_; rintro e w3 ⟨rfl, hb3⟩; have f1 := (HCF.out _ hb3).2.1; have f2 := (HCF.out _ hb3).2.2))
      all_goals
        go_wp2
        go_ret2
        first | exact ⟨rfl, HFI.out _ hb3⟩ | exact ⟨rfl, HFI.out _ hb2⟩
    · rw [if_neg (by rw [hk]; decide), if_neg (by rw [hk]; decide)]
      have HCF : Hid (∀ w', Below (w.alloc (.cells C 126)).heap.size (w.alloc (.cells C 126)) w' → w'.cell? ⟨w.heap.size, 0, none⟩ = some (.int .i64 2) ∧ w'.cell? ⟨w.heap.size, 1, none⟩ = some (.string ⟨n.path.toArray⟩) ∧ w'.cell? ⟨w.heap.size, 3, none⟩ = some (.string ⟨(n.kids.getD 0 []).toArray⟩)) := Lib.hid (fun w' h => by obtain ⟨a, b, -, c, -⟩ := HCE.out w' h; rw [hk] at a; exact ⟨a, b, c⟩)
      obtain ⟨T1, hT1⟩ : ∃ T, Code.textL (Nib.packL n.path false) = T := ⟨_, rfl⟩
      obtain ⟨T2, hT2⟩ : ∃ T, n.kids.getD 0 [] = T := ⟨_, rfl⟩
      rw [hT1] at HPE ht2 ⊢
      rw [hT2] at HCF hz32 ⊢
      have h1 := cat_mk T1 T2
      have h2 := cat_mk [2] (T1 ++ T2)
      have hX1 : (T1 ++ T2).length ≤ 59 := by rw [List.length_append]; omega
      have hY1 : ([2] ++ (T1 ++ T2) : List UInt8).length ≤ 60 := by rw [List.length_append]; simp only [List.length_singleton]; omega
      obtain ⟨X, hX⟩ : ∃ X, T1 ++ T2 = X := ⟨_, rfl⟩
      rw [hX] at h1 h2 hX1 hY1 ⊢
      obtain ⟨Y, hY⟩ : ∃ Y, ([2] ++ X : List UInt8) = Y := ⟨_, rfl⟩
      rw [hY] at h2 hY1 ⊢
      clear hT1 hT2 hX hY HPL HTK HJN HTX ht1 ht3 hfl
      go_enter Tryz.func100, Tryz.ntmps100
      go_wp2_with (refine wpList_load_row (by rfl) _ _ (by rfl) w.heap.size (by rfl) _ C _ _ HRO.out Tryz.underlying126 (by rfl) HI.out ?_)
      refine (HCK.out _).mono ?_
      rintro e w1 ⟨rfl, hb1⟩
      generalize (w.alloc (.cells C 126)) = w0 at *
      have hb2 : Below w0.heap.size w0 (w1.alloc (.cells #[.int .u8 2] 5)) := hb1.alloc hb1.size _
      obtain ⟨c0, c1, c2⟩ := HCF.out _ hb1
      obtain ⟨d0, d1, d2⟩ := HCF.out _ hb2
      have HFI : Hid (∀ w', Below w0.heap.size w0 w' → Below w.heap.size w w') := Lib.hid (fun w' h => bchain HB0.out h)
      have HBD := Lib.hid hb2.drew
      have HPL' : Hid (∀ w', Below w0.heap.size w0 w' → Calls Tryz.prog 112 #[.string ⟨n.path.toArray⟩, .bool false] w' fun e w'' => e = .returned (.string ⟨T1.toArray⟩) ∧ Below w0.heap.size w0 w'') := Lib.hid (fun w' h => (HPE.out w').mono fun e w'' q => ⟨q.1, h.trans (q.2.mono h.size)⟩)
      have kc := conv_one' w1 2 2 rfl w1.heap.size rfl
      clear hb1 hb2
      go_wp2
      have BD := HBD.out
      go_region_with (go_at_call 112; refine (HPL'.out _ (by with_reducible assumption)).mono ?_; rintro e w2 ⟨rfl, hb2⟩; have e1 := (HCF.out _ hb2).2.1; have e2 := (HCF.out _ hb2).2.2)
      all_goals
        go_wp2
        go_ret2
        exact ⟨rfl, HFI.out _ hb2⟩
    · rw [if_pos hk]
      have HCF : Hid (∀ w', Below (w.alloc (.cells C 126)).heap.size (w.alloc (.cells C 126)) w' → w'.cell? ⟨w.heap.size, 0, none⟩ = some (.int .i64 3) ∧ w'.cell? ⟨w.heap.size, 2, none⟩ = some (.string ⟨n.val.toArray⟩) ∧ (load16 (.pointer (some ⟨w.heap.size, 3, none⟩))).run Tryz.prog w' = .ok (aval n.kids) w') := Lib.hid (fun w' h => by obtain ⟨a, -, b, -, c, -⟩ := HCE.out w' h; rw [hk] at a; exact ⟨a, b, run_l16 c HI2.out⟩)
      obtain ⟨AV, hAV⟩ : ∃ v, aval n.kids = v := ⟨_, rfl⟩
      rw [hAV] at HCF HTK
      obtain ⟨T1, hT1⟩ : ∃ T, [Nd.byteN (Nd.bits8 (n.kids.take 8)), Nd.byteN (Nd.bits8 (n.kids.drop 8))] = T := ⟨_, rfl⟩
      obtain ⟨J, hJ⟩ : ∃ T, n.kids.flatten = T := ⟨_, rfl⟩
      obtain ⟨T2, hT2⟩ : ∃ T, Code.textL n.val = T := ⟨_, rfl⟩
      have hT1l : T1.length = 2 := by rw [← hT1]; rfl
      rw [hT1] at HTK ⊢
      rw [hJ] at HJN hfl ⊢
      rw [hT2] at HTX ht3 ⊢
      rw [hn] at hfl
      have h0 := cat_mk T1 J
      have h1 := cat_mk (T1 ++ J) T2
      have h2 := cat_mk [3] (T1 ++ J ++ T2)
      have hZ1 : (T1 ++ J).length ≤ 514 := by rw [List.length_append]; omega
      have hX1 : (T1 ++ J ++ T2).length ≤ 600 := by rw [List.length_append]; omega
      have hY1 : ([3] ++ (T1 ++ J ++ T2) : List UInt8).length ≤ 601 := by rw [List.length_append]; simp only [List.length_singleton]; omega
      obtain ⟨Z, hZ⟩ : ∃ Z, T1 ++ J = Z := ⟨_, rfl⟩
      rw [hZ] at h0 h1 h2 hZ1 hX1 hY1 ⊢
      obtain ⟨X, hX⟩ : ∃ X, Z ++ T2 = X := ⟨_, rfl⟩
      rw [hX] at h1 h2 hX1 hY1 ⊢
      obtain ⟨Y, hY⟩ : ∃ Y, ([3] ++ X : List UInt8) = Y := ⟨_, rfl⟩
      rw [hY] at h2 hY1 ⊢
      have hsz : w.heap.size < (w.alloc (.cells C 126)).heap.size := by simp
      clear hT1 hT2 hJ hZ hX hY HPL HPE ht1 ht2 hz32 hAV
      go_enter Tryz.func100, Tryz.ntmps100
      go_wp2_with (refine wpList_load_row (by rfl) _ _ (by rfl) w.heap.size (by rfl) _ C _ _ HRO.out Tryz.underlying126 (by rfl) HI.out ?_)
      refine (HCK.out _).mono ?_
      rintro e w1 ⟨rfl, hb1⟩
      generalize (w.alloc (.cells C 126)) = w0 at *
      have hb2 : Below w0.heap.size w0 (w1.alloc (.cells #[.int .u8 3] 5)) := hb1.alloc hb1.size _
      obtain ⟨c0, c1, c2⟩ := HCF.out _ hb1
      obtain ⟨d0, d1, d2⟩ := HCF.out _ hb2
      have HFI : Hid (∀ w', Below w0.heap.size w0 w' → Below w.heap.size w w') := Lib.hid (fun w' h => bchain HB0.out h)
      have HBD := Lib.hid hb2.drew
      have HTK' : Hid (∀ w', Below w0.heap.size w0 w' → Calls Tryz.prog 113 #[AV] w' fun e w'' => e = .returned (.string ⟨T1.toArray⟩) ∧ Below w0.heap.size w0 w'') := Lib.hid (fun w' h => (HTK.out w').mono fun e w'' q => ⟨q.1, h.trans (q.2.mono h.size)⟩)
      have HTX' : Hid (∀ w', Below w0.heap.size w0 w' → Calls Tryz.prog 92 #[.string ⟨n.val.toArray⟩] w' fun e w'' => e = .returned (.string ⟨T2.toArray⟩) ∧ Below w0.heap.size w0 w'') := Lib.hid (fun w' h => (HTX.out w').mono fun e w'' q => ⟨q.1, h.trans (q.2.mono h.size)⟩)
      have HJN' : Hid (∀ w', Below w0.heap.size w0 w' → Calls Tryz.prog 114 #[.slice (some ⟨w.heap.size, 3, none⟩) 16 16, .string ⟨#[]⟩] w' fun e w'' => e = .returned (.string ⟨J.toArray⟩) ∧ Below w0.heap.size w0 w'') := Lib.hid (fun w' h => (HJN.out w.heap.size w' (Nat.lt_of_lt_of_le hsz h.size) (HCE.out w' h).2.2.2.2.1).mono fun e w'' q => ⟨q.1, h.trans (q.2.mono h.size)⟩)
      have kc := conv_one' w1 3 3 rfl w1.heap.size rfl
      have e2 : (load16 (.pointer (some ⟨w.heap.size, 3, none⟩))).run Tryz.prog (w1.alloc (.cells #[.int .u8 3] 5)).drew = .ok AV (w1.alloc (.cells #[.int .u8 3] 5)).drew := (HCF.out _ HBD.out).2.2
      clear hb1 hb2 hsz hn
      go_wp2
      have BD := HBD.out
      go_region_with (first | (go_at_call 113; refine (HTK'.out _ (by with_reducible assumption)).mono ?_; rintro e w2 ⟨rfl, hb2⟩; have e1 := (HCF.out _ hb2).2.1; have e2 := (HCF.out _ hb2).2.2) | (go_at_call 114; refine (HJN'.out _ (by with_reducible assumption)).mono ?_; rintro e w3 ⟨rfl, hb3⟩; have f1 := (HCF.out _ hb3).2.1; have f2 := (HCF.out _ hb3).2.2) | (go_at_call 92; refine (HTX'.out _ (by with_reducible assumption)).mono ?_; rintro e w4 ⟨rfl, hb4⟩; have q1 := (HCF.out _ hb4).2.1; have q2 := (HCF.out _ hb4).2.2))
      all_goals
        go_wp2
        go_ret2
        first | exact ⟨rfl, HFI.out _ hb4⟩ | exact ⟨rfl, HFI.out _ hb3⟩ | exact ⟨rfl, HFI.out _ hb2⟩
end Go.Proofs.YtlckcfpdiigjiaaGreatDoor
namespace Go.Proofs.YtlckcfpdiigjiaaGreatDoor
open Go.RowKit
open Go.Proofs.YtlckcfpdiigjiaaGreatDoor.Nd (N)

/-- The sixteen read so far, the others empty. -/
def Nd.part (L : List (List UInt8)) : List (List UInt8) := L ++ List.replicate (16 - L.length) []
theorem Nd.part_len (L : List (List UInt8)) (h : L.length ≤ 16) : (Nd.part L).length = 16 := by
  unfold Nd.part
  rw [List.length_append, List.length_replicate]
  omega
theorem Nd.part_set (L : List (List UInt8)) (x : List UInt8) (h : L.length < 16) : (Nd.part L).set L.length x = Nd.part (L ++ [x]) := by
  unfold Nd.part
  rw [List.set_append_right _ _ (Nat.le_refl _), Nat.sub_self, List.length_append, List.append_assoc, List.length_singleton]
  obtain ⟨j, hj⟩ : ∃ j, 16 - L.length = j + 1 := ⟨16 - L.length - 1, by omega⟩
  rw [hj, show 16 - (L.length + 1) = j by omega, List.replicate_succ]
  rfl
theorem Nd.part_nil (L : List (List UInt8)) (h : L.length < 16) : Nd.part L = Nd.part (L ++ [[]]) := by
  unfold Nd.part
  rw [List.length_append, List.append_assoc, List.length_singleton]
  obtain ⟨j, hj⟩ : ∃ j, 16 - L.length = j + 1 := ⟨16 - L.length - 1, by omega⟩
  rw [hj, show 16 - (L.length + 1) = j by omega, List.replicate_succ]
  rfl
theorem Nd.part_all (L : List (List UInt8)) (h : L.length = 16) : Nd.part L = L := by
  unfold Nd.part
  rw [h]
  simp
theorem Out.setRow {F : Nat → Prop} {a w : World} (h : Out F a w) {q : Nat} (hq : F q) (cs : Array Value) : Out F a (w.setRow q cs) :=
  ⟨h.os, h.tape, h.output, by rw [size_setRow]; exact h.size, fun i hi hf => by
    have hne : q ≠ i := fun e => hf (e ▸ hq)
    refine Eq.trans ?_ (h.block i hi hf)
    simp only [World.setRow, Array.getElem?_modify, if_neg hne]⟩
theorem setRow_at {w : World} {q : Nat} {old cs : Array Value} {t : TypeId} {fr : Nat × Nat} (h : w.heap[q]? = some (.cells old t fr)) : (w.setRow q cs).heap[q]? = some (.cells cs t fr) := by
  simp [World.setRow, Array.getElem?_modify, h]
end Go.Proofs.YtlckcfpdiigjiaaGreatDoor
namespace Go.Proofs.YtlckcfpdiigjiaaGreatDoor
open Go.RowKit
open Go.Proofs.YtlckcfpdiigjiaaGreatDoor.Nd (N)

theorem wpList_build_some {P : Program} {ops : Array Oper} {rest : List Oper} {o : Oper} {a : Act} {w : World} {Q : Exit → Act → World → Prop} (hg : o.guard = none) (t : TypeId) (parts : Array (Nat × Operand)) (ho : o.op = .build t parts)
    (L : List (Nat × Value)) (hL : (parts.map fun (i, x) => (i, a.eval x)).toList = L) (C : Array Value) (hC : P.built t L = some C)
    (h : wpList P ops Q rest (a.put o.dst (.agg C)) w) : wpList P ops Q (o :: rest) a w :=
  wpList_build hg t parts ho (by rw [hL, hC]; rfl) (by rw [hL, hC]; exact h)
theorem Only.two {g q : Nat} {a b : World} (h : Only g a b) : Out (fun j => j = g ∨ j = q) a b := h.out.mono (fun _ _ e => Or.inl e)
theorem NodeAt.setPath {w : World} {g : Nat} {n : N} (h : NodeAt w g n) (p : List UInt8) : NodeAt (w.setCell ⟨g, 1, none⟩ (.string ⟨p.toArray⟩)) g { n with path := p } := by
  have := heap_setCell_same w g 1 _ _ (.string ⟨p.toArray⟩) h
  unfold NodeAt
  rw [this]
  simp [ncl]
theorem NodeAt.setVal {w : World} {g : Nat} {n : N} (h : NodeAt w g n) (v : List UInt8) : NodeAt (w.setCell ⟨g, 2, none⟩ (.string ⟨v.toArray⟩)) g { n with val := v } := by
  have := heap_setCell_same w g 2 _ _ (.string ⟨v.toArray⟩) h
  unfold NodeAt
  rw [this]
  simp [ncl]
theorem NodeAt.setKid {w : World} {g : Nat} {n : N} (h : NodeAt w g n) (i : Nat) (x : List UInt8) : NodeAt (w.setCell ⟨g, 3 + i, none⟩ (.string ⟨x.toArray⟩)) g { n with kids := n.kids.set i x } := by
  have := heap_setCell_same w g (3 + i) _ _ (.string ⟨x.toArray⟩) h
  unfold NodeAt
  rw [this, Nat.add_comm 3 i]
  simp [ncl, scells_set]
theorem NodeAt.free {w : World} {g : Nat} {n : N} (h : NodeAt w g n) (i : Nat) : w.frozen? ⟨g, i, none⟩ = false := frozen_of_row _ _ _ _ _ h
theorem NodeAt.there {w : World} {g : Nat} {n : N} (h : NodeAt w g n) (hn : n.kids.length = 16) : w.there g 3 16 := fun j hj => ⟨by rw [h.kid j (by omega)]; rfl, h.free _⟩
end Go.Proofs.YtlckcfpdiigjiaaGreatDoor
namespace Go.Proofs.YtlckcfpdiigjiaaGreatDoor
open Go.RowKit
open Go.Proofs.YtlckcfpdiigjiaaGreatDoor.Nd (N)

def Nd.bigB (n : N) : Bool := n.kids.any (fun k => decide (100 < k.length)) || (decide (100 < n.path.length) || decide (100 < n.val.length))
theorem Nd.small {n : N} (h : Nd.bigB n = false) : (∀ x ∈ n.kids, x.length ≤ 100) ∧ n.path.length ≤ 100 ∧ n.val.length ≤ 100 := by
  simp only [Nd.bigB, Bool.or_eq_false_iff, decide_eq_false_iff_not, List.any_eq_false, decide_eq_true_eq] at h
  exact ⟨fun x hx => by have := h.1 x hx; omega, by omega, by omega⟩

theorem Nd.written_most (m : N) (hm : m.kids.length = 16) (hf : Nd.fine m = true) : (Nd.written m).length ≤ 700 := by
  obtain ⟨a, b, c, d, e⟩ := Nd.fine_parts hf
  have h1 := Nd.all32_flat m.kids a
  have h2 := Code.textL_le' m.val 32 d (by omega)
  have h3 := Code.textL_le' (Nib.packL m.path (decide (m.kind = 1))) 9 (by rw [Nib.packL_length]; omega) (by omega)
  have hz : (m.kids.getD 0 []).length ≤ 32 := by
    have := List.all_eq_true.1 a (m.kids[0]'(by omega)) (List.getElem_mem _)
    rw [List.getD_eq_getElem?_getD, List.getElem?_eq_getElem (by omega)]
    simp only [Bool.or_eq_true, decide_eq_true_eq] at this
    show (m.kids[0]'(by omega)).length ≤ 32
    rcases this with q | q
    · rw [q]; simp
    · omega
  unfold Nd.written Nd.branchL
  rw [List.length_cons]
  split
  · simp only [List.length_cons, List.length_append]
    omega
  · rw [List.length_append]
    split <;> omega

/-! ### the chapter's examples -/
end Go.Proofs.YtlckcfpdiigjiaaGreatDoor
namespace Go.Proofs.YtlckcfpdiigjiaaGreatDoor
open Go.RowKit

end Go.Proofs.YtlckcfpdiigjiaaGreatDoor
namespace Go.Proofs.YtlckcfpdiigjiaaGreatDoor
open Go.RowKit

end Go.Proofs.YtlckcfpdiigjiaaGreatDoor
namespace Go.Proofs.YtlckcfpdiigjiaaGreatDoor
open Go.RowKit

end Go.Proofs.YtlckcfpdiigjiaaGreatDoor
namespace Go.Proofs.YtlckcfpdiigjiaaGreatDoor
open Go.RowKit

end Go.Proofs.YtlckcfpdiigjiaaGreatDoor
namespace Go.Proofs.YtlckcfpdiigjiaaGreatDoor
open Go.RowKit
open Go.Proofs.YtlckcfpdiigjiaaGreatDoor.Nd (N)

end Go.Proofs.YtlckcfpdiigjiaaGreatDoor
namespace Go.Proofs.YtlckcfpdiigjiaaGreatDoor
open Go.RowKit
open Go.Proofs.YtlckcfpdiigjiaaGreatDoor.Nd (N)

theorem Nd.flat_take (l : List (List UInt8)) (k : Nat) (hk : k < l.length) : (l.take (k + 1)).flatten = (l.take k).flatten ++ l[k] := by
  rw [List.take_succ_eq_append_getElem hk, List.flatten_append]
  simp
end Go.Proofs.YtlckcfpdiigjiaaGreatDoor
namespace Go.Proofs.YtlckcfpdiigjiaaGreatDoor
open Go.RowKit
open Go.Proofs.YtlckcfpdiigjiaaGreatDoor.Nd (N)

/-- What is asked of a node beside its kids' lengths, its path and its value's length. -/
def Nd.kindB (n : N) : Bool :=
  if n.kind = 1 then decide ((Nd.kidsL n.kids).length = 0) && decide (n.val ≠ [])
  else if n.kind = 2 then decide ((Nd.kidsL n.kids).length = 1) && (decide (n.kids.getD 0 [] ≠ []) && (decide (1 ≤ n.path.length) && decide (n.val = [])))
  else if n.kind = 3 then decide (n.path.length = 0) && (decide (2 ≤ (Nd.kidsL n.kids).length) || (decide ((Nd.kidsL n.kids).length = 1) && decide (n.val ≠ [])))
  else false
end Go.Proofs.YtlckcfpdiigjiaaGreatDoor
namespace Go.Proofs.YtlckcfpdiigjiaaGreatDoor
open Go.RowKit
open Go.Proofs.YtlckcfpdiigjiaaGreatDoor.Nd (N)

def Nd.sumS (n : N) : List UInt8 := if Nd.fine n then Dig.sum 1 (Nd.written n) else []
set_option maxRecDepth 100000 in
set_option maxHeartbeats 1000000 in
theorem ndigest_any (n : N) (w : World) (hn : n.kids.length = 16) (hT : Tab w) :
    Calls Tryz.prog 80 #[ndval n] w fun e w' => e = .returned (.string ⟨(Nd.sumS n).toArray⟩) ∧ Below w.heap.size w w' := by
  obtain ⟨C, hC, HB0, HCE, HI, HI2⟩ := nbox n w hn
  have HE := Lib.hid (fun w => nencode_any n w hn)
  have HTW := Lib.hid (fun w' (h : Below w.heap.size w w') => hT.below h)
  unfold Nd.sumS
  unfold Nd.encS Nd.encC ndval at HE
  unfold ndval
  rw [hC] at HE ⊢
  obtain ⟨-, -, -, -, -, cR⟩ := HCE.out _ (Below.refl _ _)
  have HRO := Lib.hid cR
  clear hC cR hT
  cases hf : Nd.fine n with
  | false =>
    rw [hf] at HE
    rw [if_neg (by decide)]
    rw [if_neg (by decide), if_neg (by decide)] at HE
    clear hf
    go_enter Tryz.func80, Tryz.ntmps80
    go_wp2_with (refine wpList_load_row (by rfl) _ _ (by rfl) w.heap.size (by rfl) _ C _ _ HRO.out Tryz.underlying126 (by rfl) HI.out ?_)
    refine (HE.out _).mono ?_
    rintro e w1 ⟨rfl, hb1⟩
    go_wp2
    go_ret
    exact ⟨rfl, bchain HB0.out hb1⟩
  | true =>
    have hl := Nd.written_most n hn hf
    rw [hf] at HE
    rw [if_pos rfl]
    rw [if_pos rfl, if_pos rfl] at HE
    obtain ⟨T, hT⟩ : ∃ T, Nd.written n = T := ⟨_, rfl⟩
    rw [hT] at HE hl ⊢
    have HL := Lib.hid hl
    obtain ⟨S, hS⟩ : ∃ S, Dig.sum 1 T = S := ⟨_, rfl⟩
    have HSU : Hid (∀ w', Tab w' → Calls Tryz.prog 78 #[.int .i64 1, .string ⟨T.toArray⟩] w' fun e w'' => e = .returned (.tuple #[.string ⟨S.toArray⟩, .int .i64 0]) ∧ Below w'.heap.size w' w'') := Lib.hid (fun w' h => by
      have := dsum_any 1 T w' h (by omega)
      rw [hS, show Dig.sumC 1 = 0 from by decide] at this
      exact this)
    rw [hS]
    clear hf hT hl hS
    go_enter Tryz.func80, Tryz.ntmps80
    go_wp2_with (refine wpList_load_row (by rfl) _ _ (by rfl) w.heap.size (by rfl) _ C _ _ HRO.out Tryz.underlying126 (by rfl) HI.out ?_)
    refine (HE.out _).mono ?_
    rintro e w1 ⟨rfl, hb1⟩
    have HB1 := Lib.hid (bchain HB0.out hb1)
    clear hb1
    go_wp2_with fail
    refine (HSU.out _ (HTW.out _ HB1.out)).mono ?_
    rintro e w2 ⟨rfl, hb2⟩
    go_wp2
    go_ret
    exact ⟨rfl, bchain HB1.out hb2⟩

end Go.Proofs.YtlckcfpdiigjiaaGreatDoor
namespace Go.Proofs.YtlckcfpdiigjiaaGreatDoor
open Go.RowKit
open Go.Proofs.YtlckcfpdiigjiaaGreatDoor.Nd (N)
namespace Tri
open Sto (T)
def Tr.kind : Tr → Nat
  | .nil => 0
  | .leaf _ _ => 1
  | .ext _ _ => 2
  | .br _ _ => 3
def Tr.pth : Tr → T
  | .leaf p _ => p
  | .ext p _ => p
  | _ => []
def Tr.vl : Tr → T
  | .leaf _ v => v
  | .br v _ => v
  | _ => []
def Tr.kid : Tr → Fin 16 → Tr
  | .ext _ t, i => if i = 0 then t else .nil
  | .br _ k, i => k i
  | _, _ => .nil
theorem kid_ind {P : Tr → Prop} (h0 : P .nil) (h : ∀ t : Tr, ¬ t.isNil → (∀ i, P (t.kid i)) → P t) (t : Tr) : P t := by
  induction t with
  | nil => exact h0
  | leaf p v => exact h _ id fun i => h0
  | ext p t ih =>
    refine h _ id fun i => ?_
    simp only [Tr.kid]
    split
    · exact ih
    · exact h0
  | br v k ih => exact h _ id ih
theorem kid_ext {t u : Tr} (h1 : t.kind = u.kind) (h2 : t.pth = u.pth) (h3 : t.vl = u.vl) (h4 : ∀ i, t.kid i = u.kid i) : t = u := by
  cases t <;> cases u <;> simp_all [Tr.kind, Tr.pth, Tr.vl, Tr.kid]
  · have := h4 0
    simpa using this
  · funext i; exact h4 i
theorem rep_ofFn (a : T) : a :: List.replicate 15 [] = List.ofFn fun i : Fin 16 => if i = 0 then a else [] := by
  simp [List.ofFn_succ, List.replicate]
theorem rep_ofFn0 : List.replicate 16 ([] : T) = List.ofFn fun _ : Fin 16 => [] := by simp [List.ofFn_succ, List.replicate]
theorem node_kid (dg : N → T) {t : Tr} (h : ¬ t.isNil) : t.node dg = ⟨t.kind, t.pth, t.vl, List.ofFn fun i => (t.kid i).sum dg⟩ := by
  cases t with
  | nil => exact absurd trivial h
  | leaf p v => simp only [Tr.node, Tr.kind, Tr.pth, Tr.vl, Tr.kid, Tr.sum, rep_ofFn0]; rfl
  | ext p t =>
    simp only [Tr.node, Tr.kind, Tr.pth, Tr.vl, rep_ofFn]
    congr 2
    funext i
    simp only [Tr.kid]
    split <;> rfl
  | br v k => rfl
theorem kind_nil {t : Tr} : t.kind = 0 ↔ t.isNil := by cases t <;> simp [Tr.kind, Tr.isNil]
theorem kid_canon {t : Tr} (h : t.canon) (i : Fin 16) : (t.kid i).canon := by
  cases t with
  | nil => trivial
  | leaf p v => trivial
  | ext p t =>
    simp only [Tr.kid]; split
    · exact h.2.2
    · trivial
  | br v k => exact h.1 i
theorem kid_fits {t : Tr} (h : t.fits) (i : Fin 16) : (t.kid i).fits := by
  cases t with
  | nil => trivial
  | leaf p v => trivial
  | ext p t =>
    simp only [Tr.kid]; split
    · exact h.2
    · trivial
  | br v k => exact h i
theorem kid_small {t : Tr} (h : t.small) (i : Fin 16) : (t.kid i).small := by
  cases t with
  | nil => trivial
  | leaf p v => trivial
  | ext p t =>
    simp only [Tr.kid]; split
    · exact h.2
    · trivial
  | br v k => exact h.2 i
/-- What may be a node of a trie. -/
structure Ok (t : Tr) : Prop where
  canon : t.canon
  fits : t.fits
  small : t.small
theorem Ok.kid {t : Tr} (h : Ok t) (i : Fin 16) : Ok (t.kid i) := ⟨kid_canon h.canon i, kid_fits h.fits i, kid_small h.small i⟩
theorem sumS_len (n : N) (_ : n.kids.length = 16) (h : Nd.fine n = true) : (Nd.sumS n).length = 32 := by
  unfold Nd.sumS
  rw [if_pos h]
  rw [Dig.sum, if_pos (by decide)]; exact Sha.sumP_length _
theorem Ok.fine {t : Tr} (h : Ok t) (hn : ¬ t.isNil) : Nd.fine (t.node Nd.sumS) = true := node_fine Nd.sumS sumS_len h.canon h.fits h.small hn
theorem Ok.sum_len {t : Tr} (h : Ok t) (hn : ¬ t.isNil) : (t.sum Nd.sumS).length = 32 := by
  rw [sum_node _ hn]
  exact sumS_len _ (node_kids _ _) (h.fine hn)
theorem Ok.sum_ne {t : Tr} (h : Ok t) (hn : ¬ t.isNil) : t.sum Nd.sumS ≠ [] := fun e => by have := h.sum_len hn; rw [e] at this; cases this
end Tri
open Sto (T)
open Tri (Tr Ok)

abbrev Ks := Fin 16 → Value
def nilp : Value := .pointer none
def ptr (g : Nat) : Value := .pointer (some ⟨g, 0, none⟩)
theorem ptr_inj {a b : Nat} (h : ptr a = ptr b) : a = b := by
  unfold ptr at h
  injection h with h; injection h with h; injection h
def pcl (kind : Nat) (p x : T) (K : Ks) (s : T) : List Value := .int .i64 kind :: .string ⟨p.toArray⟩ :: .string ⟨x.toArray⟩ :: (List.ofFn K ++ [.string ⟨s.toArray⟩])
theorem pcl_length (kind : Nat) (p x : T) (K : Ks) (s : T) : (pcl kind p x K s).length = 20 := by simp [pcl]
theorem ofFn_injV {f g : Ks} (h : List.ofFn f = List.ofFn g) : f = g := by
  funext i
  have := List.getElem_of_eq h (i := i.val) (by rw [List.length_ofFn]; exact i.isLt)
  rwa [List.getElem_ofFn, List.getElem_ofFn] at this
theorem pcl_inj {k k' : Nat} {p p' x x' s s' : T} {K K' : Ks} (h : pcl k p x K s = pcl k' p' x' K' s') : k = k' ∧ p = p' ∧ x = x' ∧ K = K' ∧ s = s' := by
  unfold pcl at h
  obtain ⟨h1, h⟩ := List.cons.inj h
  obtain ⟨h2, h⟩ := List.cons.inj h
  obtain ⟨h3, h⟩ := List.cons.inj h
  obtain ⟨h4, h⟩ := List.append_inj h (by simp)
  refine ⟨?_, str_inj h2, str_inj h3, ofFn_injV h4, str_inj (List.cons.inj h).1⟩
  injection h1 with _ h1
  exact Int.ofNat_inj.1 h1
/-- A part in a block. -/
def RowP (w : World) (g kind : Nat) (p x : T) (K : Ks) (s : T) : Prop := w.heap[g]? = some (.cells (pcl kind p x K s).toArray 87 (0, 0))
theorem RowP.inj {w : World} {g k k' : Nat} {p p' x x' s s' : T} {K K' : Ks} (h : RowP w g k p x K s) (h' : RowP w g k' p' x' K' s') : k = k' ∧ p = p' ∧ x = x' ∧ K = K' ∧ s = s' := by
  unfold RowP at h h'
  rw [h] at h'
  injection h' with h'; injection h' with h'
  exact pcl_inj (List.toArray_inj h')
/-- Which blocks a tree's parts may lie in: true of one that has its sum. -/
abbrev Fm := Bool → Nat → Prop
/-- What has no sum yet is new from B on. -/
def Fm.from (B : Nat) : Fm := fun s g => s = false → B ≤ g
def Fm.off (F : Fm) (q : Nat) : Fm := fun s g => F s g ∧ g ≠ q
def Blk (w : World) (F : Fm) (s : Bool) (kind : Nat) (p x sum : T) (v : Value) (R : Bool → Ks → Prop) : Prop :=
  ∃ g s' K, v = ptr g ∧ (s = true → s' = true) ∧ F s' g ∧ RowP w g kind p x K (if s' then sum else []) ∧ R s' K
/-- A tree in memory: what has its sum, has those below it. s: all have theirs. -/
def PAt (w : World) (F : Fm) : Bool → Tr → Value → Prop
  | _, .nil, v => v = nilp
  | s, .leaf p x, v => Blk w F s 1 p x (Tr.sum Nd.sumS (.leaf p x)) v fun _ K => ∀ i, K i = nilp
  | s, .ext p t, v => Blk w F s 2 p [] (Tr.sum Nd.sumS (.ext p t)) v fun s' K => PAt w F s' t (K 0) ∧ ∀ i, i ≠ 0 → K i = nilp
  | s, .br x k, v => Blk w F s 3 [] x (Tr.sum Nd.sumS (.br x k)) v fun s' K => ∀ i, PAt w F s' (k i) (K i)
theorem Blk.imp {w w' : World} {F F' : Fm} {s s2 : Bool} {kind : Nat} {p x sum : T} {v : Value} {R R' : Bool → Ks → Prop} (h : Blk w F s kind p x sum v R) (hs : s2 = true → s = true) (hF : ∀ s g, g < w.heap.size → F s g → F' s g) (hw : ∀ g K s' s2, F s2 g → RowP w g kind p x K s' → RowP w' g kind p x K s') (hR : ∀ s' K, R s' K → R' s' K) : Blk w' F' s2 kind p x sum v R' := by
  obtain ⟨g, s', K, rfl, h1, h2, h3, h4⟩ := h
  exact ⟨g, s', K, rfl, fun h => h1 (hs h), hF _ _ (lt_of_heap h3) h2, hw _ _ _ _ h2 h3, hR _ _ h4⟩
theorem PAt.nil (w : World) (F : Fm) (s : Bool) : PAt w F s .nil nilp := rfl
theorem PAt.iff {w : World} {F : Fm} {s : Bool} {t : Tr} {v : Value} (h : ¬ t.isNil) : PAt w F s t v ↔ Blk w F s t.kind t.pth t.vl (t.sum Nd.sumS) v fun s' K => ∀ i, PAt w F s' (t.kid i) (K i) := by
  cases t with
  | nil => exact absurd trivial h
  | leaf p x => exact Iff.rfl
  | ext p t =>
    constructor
    · intro h
      refine Blk.imp h id (fun _ _ _ h => h) (fun _ _ _ _ _ h => h) fun s' K hk i => ?_
      simp only [Tri.Tr.kid]
      split
      · rename_i e; rw [e]; exact hk.1
      · rename_i e; exact hk.2 i e
    · intro h
      refine Blk.imp h id (fun _ _ _ h => h) (fun _ _ _ _ _ h => h) fun s' K hk => ⟨?_, fun i hi => ?_⟩
      · have := hk 0
        simpa [Tri.Tr.kid] using this
      · have := hk i
        simp only [Tri.Tr.kid, if_neg hi] at this
        exact this
  | br x k => exact Iff.rfl
theorem PAt.row {w : World} {F : Fm} {s : Bool} {t : Tr} {v : Value} (h : PAt w F s t v) (hn : ¬ t.isNil) : ∃ g s' K, v = ptr g ∧ (s = true → s' = true) ∧ F s' g ∧ RowP w g t.kind t.pth t.vl K (if s' then t.sum Nd.sumS else []) ∧ ∀ i, PAt w F s' (t.kid i) (K i) := (PAt.iff hn).1 h
theorem PAt.change {w w' : World} {F F' : Fm} (hF : ∀ s g, g < w.heap.size → F s g → F' s g) (hw : ∀ g k p x K s s2, F s2 g → RowP w g k p x K s → RowP w' g k p x K s) {s : Bool} {t : Tr} {v : Value} (h : PAt w F s t v) : PAt w' F' s t v := by
  induction t using Tri.kid_ind generalizing s v with
  | h0 => exact h
  | h t hn ih => exact (PAt.iff hn).2 (Blk.imp ((PAt.iff hn).1 h) id hF (fun _ _ _ _ => hw _ _ _ _ _ _ _) fun s' K hk i => ih i (hk i))
theorem RowP.below {w w' : World} {g k : Nat} {p x s : T} {K : Ks} (h : RowP w g k p x K s) (hb : Below w.heap.size w w') : RowP w' g k p x K s := (hb.block g (lt_of_heap h)).trans h
theorem PAt.below {w w' : World} {F : Fm} {s : Bool} {t : Tr} {v : Value} (h : PAt w F s t v) (hb : Below w.heap.size w w') : PAt w' F s t v := h.change (fun _ _ _ h => h) fun _ _ _ _ _ _ _ _ h => h.below hb
theorem PAt.imp {w : World} {F F' : Fm} {s : Bool} {t : Tr} {v : Value} (h : PAt w F s t v) (hF : ∀ s g, g < w.heap.size → F s g → F' s g) : PAt w F' s t v := h.change hF fun _ _ _ _ _ _ _ _ h => h
/-- What was there lies not in a block that is new. -/
theorem PAt.new_off {w : World} {F : Fm} {s : Bool} {t : Tr} {v : Value} (h : PAt w F s t v) {q : Nat} (hq : w.heap.size ≤ q) : PAt w (F.off q) s t v := h.imp fun _ g hg hf => ⟨hf, by omega⟩
theorem PAt.on {w : World} {F : Fm} {q : Nat} {s : Bool} {t : Tr} {v : Value} (h : PAt w (F.off q) s t v) : PAt w F s t v := h.imp fun _ _ _ h => h.1
/-- A store into a block that the tree does not lie in. -/
theorem PAt.off {w : World} {F : Fm} {q : Nat} {s : Bool} {t : Tr} {v : Value} (h : PAt w (F.off q) s t v) (i : Nat) (u : Value) : PAt (w.setCell ⟨q, i, none⟩ u) F s t v :=
  h.change (fun _ _ _ h => h.1) fun g _ _ _ _ _ _ hf hr => (Below.heap_setCell _ ⟨q, i, none⟩ _ g hf.2).trans hr
/-- What has its sums may be told of other blocks, and as what may have none. -/
theorem PAt.sealed {w : World} {F F' : Fm} {t : Tr} {v : Value} (h : PAt w F true t v) (hF : ∀ g, F true g → F' true g) (s : Bool) : PAt w F' s t v := by
  induction t using Tri.kid_ind generalizing s v with
  | h0 => exact h
  | h t hn ih =>
    obtain ⟨g, s', K, rfl, h1, h2, h3, h4⟩ := h.row hn
    obtain rfl := h1 rfl
    exact (PAt.iff hn).2 ⟨g, true, K, rfl, fun _ => rfl, hF _ h2, h3, fun i => ih i (h4 i) true⟩
theorem PAt.weak {w : World} {F : Fm} {s : Bool} {t : Tr} {v : Value} (h : PAt w F s t v) : PAt w F false t v := by
  cases s with
  | false => exact h
  | true => exact h.sealed (fun _ h => h) false
theorem PAt.isNil {w : World} {F : Fm} {s : Bool} {t : Tr} (h : PAt w F s t nilp) : t.isNil := by
  refine Classical.byContradiction fun hn => ?_
  obtain ⟨g, _, _, e, _⟩ := h.row hn
  unfold nilp ptr at e
  injection e with e; cases e
theorem PAt.one {w : World} {F F' : Fm} {s s' : Bool} {t u : Tr} {v : Value} (h : PAt w F s t v) (h' : PAt w F' s' u v) : t = u := by
  induction t using Tri.kid_ind generalizing s s' v u with
  | h0 =>
    have e : v = nilp := h
    subst e
    exact (Tri.isNil_eq h'.isNil).symm
  | h t hn ih =>
    obtain ⟨g, a, K, e, _, _, r1, k1⟩ := h.row hn
    have hu : ¬ u.isNil := fun hu => by
      rw [Tri.isNil_eq hu] at h'
      have e2 : v = nilp := h'
      rw [e] at e2
      unfold nilp ptr at e2
      injection e2 with e2; cases e2
    obtain ⟨g', a', K', e', _, _, r2, k2⟩ := h'.row hu
    obtain rfl := ptr_inj (e.symm.trans e')
    obtain ⟨q1, q2, q3, rfl, _⟩ := r1.inj r2
    exact Tri.kid_ext q1 q2 q3 fun i => ih i (k1 i) (k2 i)
theorem pcl_set (k : Nat) (p x : T) (K : Ks) (s s' : T) : (pcl k p x K s).toArray.setIfInBounds 19 (.string ⟨s'.toArray⟩) = (pcl k p x K s').toArray := by
  rw [List.setIfInBounds_toArray]
  simp [pcl, List.ofFn_succ]
theorem RowP.seal {w : World} {g k : Nat} {p x s : T} {K : Ks} (h : RowP w g k p x K s) (s' : T) : RowP (w.setCell ⟨g, 19, none⟩ (.string ⟨s'.toArray⟩)) g k p x K s' := by
  have := heap_setCell_same _ _ 19 _ _ (.string ⟨s'.toArray⟩) h
  rw [pcl_set] at this
  exact this
/-- A part whose kids have their sums gets its own: no tree is another one by it. -/
theorem PAt.seals {w : World} {F : Fm} {g : Nat} {t : Tr} {K : Ks} {sx : T} (hF : ∀ s g, F s g → F true g) (hr : RowP w g t.kind t.pth t.vl K sx) (hk : ∀ i, PAt w F true (t.kid i) (K i)) {s : Bool} {u : Tr} {v : Value} (h : PAt w F s u v) :
    PAt (w.setCell ⟨g, 19, none⟩ (.string ⟨(t.sum Nd.sumS).toArray⟩)) F s u v := by
  induction u using Tri.kid_ind generalizing s v with
  | h0 => exact h
  | h u hu ih =>
    obtain ⟨g', s', K', rfl, h1, h2, h3, h4⟩ := h.row hu
    by_cases e : g' = g
    · subst e
      obtain ⟨q1, q2, q3, rfl, q5⟩ := hr.inj h3
      have htu : t = u := Tri.kid_ext q1 q2 q3 fun i => (hk i).one (h4 i)
      subst htu
      refine (PAt.iff hu).2 ⟨g', true, K, rfl, fun _ => rfl, hF _ _ h2, hr.seal _, fun i => ih i (hk i)⟩
    · refine (PAt.iff hu).2 ⟨g', s', K', rfl, h1, h2, ?_, fun i => ih i (h4 i)⟩
      exact (Below.heap_setCell _ ⟨g, 19, none⟩ _ g' e).trans h3
theorem PAt.seal {w : World} {F : Fm} {g : Nat} {t : Tr} {K : Ks} {sx : T} (hF : ∀ s g, F s g → F true g) (hg : F true g) (hn : ¬ t.isNil) (hr : RowP w g t.kind t.pth t.vl K sx) (hk : ∀ i, PAt w F true (t.kid i) (K i)) :
    PAt (w.setCell ⟨g, 19, none⟩ (.string ⟨(t.sum Nd.sumS).toArray⟩)) F true t (ptr g) :=
  (PAt.iff hn).2 ⟨g, true, K, rfl, fun _ => rfl, hg, hr.seal _, fun i => PAt.seals hF hr hk (hk i)⟩
theorem RowP.cell {w : World} {g k : Nat} {p x s : T} {K : Ks} (h : RowP w g k p x K s) (i : Nat) : w.cell? ⟨g, i, none⟩ = (pcl k p x K s)[i]? := by
  rw [cell_of_row w g i _ _ _ h, List.getElem?_toArray]
theorem RowP.kind {w : World} {g k : Nat} {p x s : T} {K : Ks} (h : RowP w g k p x K s) : w.cell? ⟨g, 0, none⟩ = some (.int .i64 k) := h.cell 0
theorem RowP.path {w : World} {g k : Nat} {p x s : T} {K : Ks} (h : RowP w g k p x K s) : w.cell? ⟨g, 1, none⟩ = some (.string ⟨p.toArray⟩) := h.cell 1
theorem RowP.val {w : World} {g k : Nat} {p x s : T} {K : Ks} (h : RowP w g k p x K s) : w.cell? ⟨g, 2, none⟩ = some (.string ⟨x.toArray⟩) := h.cell 2
theorem RowP.kid {w : World} {g k : Nat} {p x s : T} {K : Ks} (h : RowP w g k p x K s) (i : Fin 16) : w.cell? ⟨g, 3 + i.val, none⟩ = some (K i) := by
  have hi := i.isLt
  rw [h.cell (3 + i.val), Nat.add_comm 3 i.val]
  show (List.ofFn K ++ [.string ⟨s.toArray⟩])[i.val]? = _
  rw [List.getElem?_append_left (by simp), List.getElem?_ofFn, dif_pos hi]
theorem RowP.sum {w : World} {g k : Nat} {p x s : T} {K : Ks} (h : RowP w g k p x K s) : w.cell? ⟨g, 19, none⟩ = some (.string ⟨s.toArray⟩) := by
  rw [h.cell 19]
  show (List.ofFn K ++ [.string ⟨s.toArray⟩])[16]? = _
  rw [List.getElem?_append_right (by simp)]
  simp
end Go.Proofs.YtlckcfpdiigjiaaGreatDoor
