/- Small facts that the walks over half bytes share: a byte slice's cells, the bit operations as numbers, the byte type's row of the table, strings as lists of bytes. -/
import Derived.Test.YteolephlajhghaaChecked
import Derived.Test.YteolephlajhghaaNibMath
import Derived.WalkKit
import Derived.WalkSmall
import Derived.ShutString
import Derived.Laws.IdiomStrings
import Derived.Laws.BytesArg
namespace Go.Proofs.Yteolephlajhghaa
open Go.RowKit

def cellsL (l : List UInt8) : List Value := l.map fun b => .int .u8 (b.toNat : Int)
theorem cellsL_append (a b : List UInt8) : cellsL (a ++ b) = cellsL a ++ cellsL b := by simp [cellsL]
theorem cellsL_length (a : List UInt8) : (cellsL a).length = a.length := by simp [cellsL]
theorem Try.infoByte : (Try.prog.info? 5).map (fun i => (i.zero, i.size, i.bytes)) = some (some (.int .u8 0), 1, 1) := by kernel_rfl
theorem byte_lt (b : UInt8) : (b.toNat : Int) < 256 := by have := b.toNat_lt; simp at this; omega
theorem byte_and15 (b : UInt8) : bits .and .u8 (b.toNat : Int) 15 = (((b % 16).toNat : Nat) : Int) := by
  rw [Nib.toNat_mod16]; exact u8_and15 (x := (b.toNat : Int)) (Int.natCast_nonneg _) (byte_lt b)
theorem byte_join (a b : UInt8) (ha : a.toNat ≤ 15) (hb : b.toNat ≤ 15) : bits .or .u8 ((a.toNat : Int) * 16 % 256) (b.toNat : Int) = (((a * 16 + b).toNat : Nat) : Int) := by
  have e : ((a.toNat : Int) * 16 % 256) = ((a.toNat * 16 : Nat) : Int) := by omega
  rw [e, u8_or_nat _ _ (by omega) (by omega), Nib.or_join _ _ (by omega)]
  simp [UInt8.toNat_add, UInt8.toNat_mul]
  omega
set_option maxRecDepth 100000 in
theorem conv_own {w : World} {B : Nat} {v : Value} {ys : List UInt8} (h : w.ownsRow B 5 1 v ys.length (cellsL ys)) : (convert 78 9 v).run Try.prog w = .ok (.string ⟨ys.toArray⟩) w := by
  rcases h.2 with ⟨rfl, h0⟩ | ⟨g, cap, cur, rfl, _⟩
  · obtain rfl : ys = [] := List.eq_nil_of_length_eq_zero h0
    rfl
  · refine run_convert_bytes_back w 78 9 5 ⟨g, 0, none⟩ cap ys Try.underlying78 Try.underlying5 Try.underlying9 ?_
    intro j hj
    exact h.cells (g := g) rfl j _ (by simp [cellsL, hj])
theorem ownsNil (w : World) (B : Nat) : w.ownsRow B 5 1 (.slice none 0 0) ([] : List UInt8).length (cellsL []) := ⟨rfl, Or.inl ⟨rfl, rfl⟩⟩
theorem ownsOne (w : World) (B : Nat) (hB : B ≤ w.heap.size) (b : UInt8) (z : Int) (hz : z = (b.toNat : Int)) : (w.alloc (.cells #[.int .u8 z] 5)).ownsRow B 5 1 (.slice (some ⟨w.heap.size, 0, none⟩) 1 1) [b].length (cellsL [b]) := by
  subst hz
  exact ⟨rfl, Or.inr ⟨w.heap.size, 1, #[.int .u8 (b.toNat : Int)], rfl, hB, heap_alloc_new w _, Nat.le_refl _, by unfold maxLen; omega, rfl, rfl⟩⟩
theorem or_16 (a : UInt8) (ha : a.toNat ≤ 15) : bits .or .u8 16 (a.toNat : Int) = ((16 + a.toNat : Nat) : Int) := by
  have := u8_or_nat 16 a.toNat (by omega) (by omega)
  have e := Nib.or_join 1 a.toNat (by omega)
  rw [show (16 : Int) = ((16 : Nat) : Int) from rfl, this]
  simp at e; omega
theorem or_head0 (a : UInt8) (ha : a.toNat ≤ 15) : bits .or .u8 0 (bits .or .u8 16 (a.toNat : Int)) = (((16 + a).toNat : Nat) : Int) := by
  rw [or_16 a ha, show (0 : Int) = ((0 : Nat) : Int) from rfl, u8_or_nat _ _ (by omega) (by omega)]
  simp [UInt8.toNat_add]; omega
theorem or_head2 (a : UInt8) (ha : a.toNat ≤ 15) : bits .or .u8 (bits .or .u8 0 32) (bits .or .u8 16 (a.toNat : Int)) = (((48 + a).toNat : Nat) : Int) := by
  have e0 : bits .or .u8 0 32 = ((32 : Nat) : Int) := by decide +kernel
  have e := Nat.two_pow_add_eq_or_of_lt (i := 5) (b := 16 + a.toNat) (by omega) 1
  rw [or_16 a ha, e0, u8_or_nat _ _ (by omega) (by omega)]
  simp [UInt8.toNat_add]; simp at e; omega
theorem or_0_32 : bits .or .u8 0 32 = (((32 : UInt8).toNat : Nat) : Int) := by decide +kernel
theorem bytes_list (a : ByteArray) : ∃ l : List UInt8, a = ⟨l.toArray⟩ := ⟨a.data.toList, by simp⟩
theorem cat_list (p x : List UInt8) : ((⟨p.toArray⟩ : ByteArray) ++ (⟨x.toArray⟩ : ByteArray)).toList = p ++ x := by
  rw [ByteArray.toList_eq]; simp
theorem ownsTwo (w : World) (B : Nat) (hB : B ≤ w.heap.size) (a b : UInt8) (x y : Int) (hx : x = (a.toNat : Int)) (hy : y = (b.toNat : Int)) : (w.alloc (.cells #[.int .u8 x, .int .u8 y] 5)).ownsRow B 5 1 (.slice (some ⟨w.heap.size, 0, none⟩) 2 2) [a, b].length (cellsL [a, b]) := by
  subst hx; subst hy
  exact ⟨rfl, Or.inr ⟨w.heap.size, 2, #[.int .u8 (a.toNat : Int), .int .u8 (b.toNat : Int)], rfl, hB, heap_alloc_new w _, Nat.le_refl _, by unfold maxLen; omega, rfl, rfl⟩⟩
theorem conv_two (w : World) (a b : UInt8) (x y : Int) (hx : x = (a.toNat : Int)) (hy : y = (b.toNat : Int)) :
    (convert 78 9 (.slice (some ⟨w.heap.size, 0, none⟩) 2 2)).run Try.prog (w.alloc (.cells #[.int .u8 x, .int .u8 y] 5)).drew = .ok (.string ⟨[a, b].toArray⟩) (w.alloc (.cells #[.int .u8 x, .int .u8 y] 5)).drew :=
  conv_own ((ownsTwo w w.heap.size (Nat.le_refl _) a b x y hx hy).drew)
theorem conv_one (w : World) (a : UInt8) (x : Int) (hx : x = (a.toNat : Int)) :
    (convert 78 9 (.slice (some ⟨w.heap.size, 0, none⟩) 1 1)).run Try.prog (w.alloc (.cells #[.int .u8 x] 5)).drew = .ok (.string ⟨[a].toArray⟩) (w.alloc (.cells #[.int .u8 x] 5)).drew :=
  conv_own ((ownsOne w w.heap.size (Nat.le_refl _) a x hx).drew)
theorem conv_two' (w : World) (a b : UInt8) (x y : Int) (hx : x = (a.toNat : Int)) (hy : y = (b.toNat : Int)) :
    (convert 78 9 (.slice (some ⟨w.heap.size, 0, none⟩) 2 2)).run Try.prog (w.alloc (.cells #[.int .u8 x, .int .u8 y] 5)) = .ok (.string ⟨[a, b].toArray⟩) (w.alloc (.cells #[.int .u8 x, .int .u8 y] 5)) :=
  conv_own (ownsTwo w w.heap.size (Nat.le_refl _) a b x y hx hy)
theorem conv_one' (w : World) (a : UInt8) (x : Int) (hx : x = (a.toNat : Int)) (n : Nat) (hn : n = w.heap.size) :
    (convert 78 9 (.slice (some ⟨n, 0, none⟩) 1 1)).run Try.prog (w.alloc (.cells #[.int .u8 x] 5)) = .ok (.string ⟨[a].toArray⟩) (w.alloc (.cells #[.int .u8 x] 5)) := by
  subst hn
  exact conv_own (ownsOne w w.heap.size (Nat.le_refl _) a x hx)
theorem cat_mk (p x : List UInt8) : ((⟨p.toArray⟩ : ByteArray) ++ (⟨x.toArray⟩ : ByteArray)) = ⟨(p ++ x).toArray⟩ := by
  apply ByteArray.ext; simp
theorem join_toNat (c d : UInt8) (hc : c.toNat ≤ 15) (hd : d.toNat ≤ 15) : (c.toNat : Int) * 16 + (d.toNat : Int) = (((c * 16 + d).toNat : Nat) : Int) := by
  simp [UInt8.toNat_add, UInt8.toNat_mul]; omega
theorem bchain {w w1 w2 : World} (h : Below w.heap.size w w1) (k : Below w1.heap.size w1 w2) : Below w.heap.size w w2 := h.trans (k.mono h.size)
theorem and16_fin : ∀ n : Fin 256, (bits .and .u8 (n.val : Int) 16 != 0) = decide (n.val / 16 % 2 = 1) := by decide +kernel
theorem and32_fin : ∀ n : Fin 256, n.val / 16 ≤ 3 → (bits .and .u8 (n.val : Int) 32 != 0) = decide (2 ≤ n.val / 16) := by decide +kernel
theorem and15_fin : ∀ n : Fin 256, (bits .and .u8 (n.val : Int) 15 == 0) = decide (n.val % 16 = 0) := by decide +kernel
theorem and16 (b : UInt8) : (bits .and .u8 (b.toNat : Int) 16 != 0) = decide (b.toNat / 16 % 2 = 1) := and16_fin ⟨b.toNat, b.toNat_lt⟩
theorem and32 (b : UInt8) (h : b.toNat / 16 ≤ 3) : (bits .and .u8 (b.toNat : Int) 32 != 0) = decide (2 ≤ b.toNat / 16) := and32_fin ⟨b.toNat, b.toNat_lt⟩ h
theorem and15 (b : UInt8) : (bits .and .u8 (b.toNat : Int) 15 == 0) = decide (b.toNat % 16 = 0) := and15_fin ⟨b.toNat, b.toNat_lt⟩
theorem ret_i64 {a b : Int} (h : a = b) : Ending.returned (.int .i64 a) = .returned (.int .i64 b) := by rw [h]

end Go.Proofs.Yteolephlajhghaa
