/- The walk of the document's own answer Unpack (pharosref01): it answers as the plain function unpackL does; nothing that was in memory is changed. -/
import Derived.Test.YtglhjalmebdbcaaNibRef
import Derived.Test.YtglhjalmebdbcaaNibBackMath
namespace Go.Proofs.Ytglhjalmebdbcaa
open Go.RowKit

set_option maxHeartbeats 400000 in
theorem runpack_nil (w : World) : Calls Try.prog 22 #[.string ⟨#[]⟩] w fun e w' => e = .returned (.tuple #[.string ⟨#[]⟩, .bool false, .int .i64 3]) ∧ Below w.heap.size w w' := by
  go_enter Try.func22, Try.ntmps22
  go_wp2
  go_ret3
  exact ⟨rfl, Below.refl _ _⟩

/-- What the walk needs of the first byte's halves. -/
theorem halves (b : UInt8) : ∃ h g : UInt8, b / 16 = h ∧ b % 16 = g ∧ h.toNat = b.toNat / 16 ∧ g.toNat = b.toNat % 16 := ⟨_, _, rfl, rfl, by simp, by simp⟩

set_option maxHeartbeats 400000 in
theorem runpack_bad (b : UInt8) (t : List UInt8) (w : World) (hl : t.length ≤ 100000) (h : Nib.mayL b = false) :
    Calls Try.prog 22 #[.string ⟨(b :: t).toArray⟩] w fun e w' => e = .returned (.tuple #[.string ⟨#[]⟩, .bool false, .int .i64 3]) ∧ Below w.heap.size w w' := by
  obtain ⟨hi, lo, e1, e2, e3, e4⟩ := halves b
  have hm : 3 < hi.toNat ∨ (hi.toNat ≤ 3 ∧ hi.toNat % 2 = 0 ∧ lo.toNat ≠ 0) := by
    rw [e3, e4]
    simp [Nib.mayL] at h
    omega
  have HO : Hid (Nib.ofL (b :: t) = hi :: lo :: Nib.ofL t) := by unfold Hid; rw [Nib.ofL_cons, e1, e2]
  clear e1 e2 e3 e4 h
  obtain ⟨r, hr⟩ : ∃ r, Nib.ofL t = r := ⟨_, rfl⟩
  have hrl := Nib.ofL_length t
  rw [hr] at HO hrl
  have hrl' : r.length ≤ 200000 := by omega
  clear hr hrl
  have i0 : ∀ h, (⟨(hi :: lo :: r).toArray⟩ : ByteArray)[0]'h = hi := fun _ => rfl
  have i1 : ∀ h, (⟨(hi :: lo :: r).toArray⟩ : ByteArray)[1]'h = lo := fun _ => rfl
  rcases hm with hm | ⟨hm, hm2, hm3⟩
  · have t1 : (3 : Int) < (hi.toNat : Int) := by omega
    clear hm
    go_enter Try.func22, Try.ntmps22
    go_wp2_with fail
    refine (rof_any (b :: t) w (by simp; omega)).mono ?_
    rintro e w1 ⟨rfl, hb1⟩
    rw [HO.out]
    go_wp2
    go_ret3
    exact ⟨rfl, hb1⟩
  · have t1 : (hi.toNat : Int) ≤ 3 := by omega
    have t2 : ((hi.toNat : Int) % 2 == 0) = true := by simp; omega
    have t3 : ((lo.toNat : Int) != 0) = true := by rw [bne_iff_ne]; omega
    clear hm hm2 hm3
    go_enter Try.func22, Try.ntmps22
    go_wp2_with fail
    refine (rof_any (b :: t) w (by simp; omega)).mono ?_
    rintro e w1 ⟨rfl, hb1⟩
    rw [HO.out]
    go_wp2
    go_ret3
    exact ⟨rfl, hb1⟩

theorem ext2 (a b : UInt8) (r : List UInt8) (n : Nat) (h : n = r.length + 2) : (⟨(a :: b :: r).toArray⟩ : ByteArray).extract 2 n = ⟨r.toArray⟩ := by
  subst h
  apply ByteArray.ext
  simp

theorem ret3 {s s' : ByteArray} {b b' : Bool} (h : s = s') (hb : b = b') : Ending.returned (.tuple #[.string s, .bool b, .int .i64 0]) = .returned (.tuple #[.string s', .bool b', .int .i64 0]) := by rw [h, hb]

set_option maxHeartbeats 400000 in
theorem runpack_odd (b : UInt8) (t : List UInt8) (w : World) (hl : t.length ≤ 100000) (h : Nib.mayL b = true) (ho : b.toNat / 16 % 2 = 1) :
    Calls Try.prog 22 #[.string ⟨(b :: t).toArray⟩] w fun e w' => e = .returned (.tuple #[.string ⟨((b % 16) :: Nib.ofL t).toArray⟩, .bool (decide (2 ≤ b.toNat / 16)), .int .i64 0]) ∧ Below w.heap.size w w' := by
  have hle := (Nib.mayL_le b h).1
  obtain ⟨hi, lo, e1, e2, e3, e4⟩ := halves b
  have HO : Hid (Nib.ofL (b :: t) = hi :: lo :: Nib.ofL t) := by unfold Hid; rw [Nib.ofL_cons, e1, e2]
  have t1 : (hi.toNat : Int) ≤ 3 := by omega
  have t2 : ((hi.toNat : Int) % 2 == 0) = false := by simp; omega
  have t3 : ((hi.toNat : Int) % 2 == 1) = true := by simp; omega
  have HD : Hid (decide (2 ≤ b.toNat / 16) = decide ((2 : Int) ≤ (hi.toNat : Int))) := by unfold Hid; rw [e3]; simp; omega
  rw [e2]
  clear e1 e2 e3 e4 h ho hle
  obtain ⟨r, hr⟩ : ∃ r, Nib.ofL t = r := ⟨_, rfl⟩
  have hrl := Nib.ofL_length t
  rw [hr] at HO hrl
  rw [hr]
  have hrl' : r.length ≤ 200000 := by omega
  clear hr hrl
  have i0 : ∀ h, (⟨(hi :: lo :: r).toArray⟩ : ByteArray)[0]'h = hi := fun _ => rfl
  have i1 : ∀ h, (⟨(hi :: lo :: r).toArray⟩ : ByteArray)[1]'h = lo := fun _ => rfl
  go_enter Try.func22, Try.ntmps22
  go_wp2_with fail
  refine (rof_any (b :: t) w (by simp; omega)).mono ?_
  rintro e w1 ⟨rfl, hb1⟩
  rw [HO.out]
  go_wp2
  go_ret3
  exact ⟨ret3 (extract_mk_tail hi (lo :: r)) HD.out.symm, hb1⟩

set_option maxHeartbeats 400000 in
theorem runpack_even (b : UInt8) (t : List UInt8) (w : World) (hl : t.length ≤ 100000) (h : Nib.mayL b = true) (ho : b.toNat / 16 % 2 = 0) :
    Calls Try.prog 22 #[.string ⟨(b :: t).toArray⟩] w fun e w' => e = .returned (.tuple #[.string ⟨(Nib.ofL t).toArray⟩, .bool (decide (2 ≤ b.toNat / 16)), .int .i64 0]) ∧ Below w.heap.size w w' := by
  have hle := (Nib.mayL_le b h).1
  have hz : b.toNat % 16 = 0 := (Nib.mayL_le b h).2.resolve_left (by omega)
  obtain ⟨hi, lo, e1, e2, e3, e4⟩ := halves b
  have HO : Hid (Nib.ofL (b :: t) = hi :: lo :: Nib.ofL t) := by unfold Hid; rw [Nib.ofL_cons, e1, e2]
  have t1 : (hi.toNat : Int) ≤ 3 := by omega
  have t2 : ((hi.toNat : Int) % 2 == 0) = true := by simp; omega
  have t3 : ((hi.toNat : Int) % 2 == 1) = false := by simp; omega
  have t4 : ((lo.toNat : Int) != 0) = false := by simp; omega
  have HD : Hid (decide (2 ≤ b.toNat / 16) = decide ((2 : Int) ≤ (hi.toNat : Int))) := by unfold Hid; rw [e3]; simp; omega
  clear e1 e2 e3 e4 h ho hle hz
  obtain ⟨r, hr⟩ : ∃ r, Nib.ofL t = r := ⟨_, rfl⟩
  have hrl := Nib.ofL_length t
  rw [hr] at HO hrl
  rw [hr]
  have hrl' : r.length ≤ 200000 := by omega
  clear hr hrl
  have i0 : ∀ h, (⟨(hi :: lo :: r).toArray⟩ : ByteArray)[0]'h = hi := fun _ => rfl
  have i1 : ∀ h, (⟨(hi :: lo :: r).toArray⟩ : ByteArray)[1]'h = lo := fun _ => rfl
  go_enter Try.func22, Try.ntmps22
  go_wp2_with fail
  refine (rof_any (b :: t) w (by simp; omega)).mono ?_
  rintro e w1 ⟨rfl, hb1⟩
  rw [HO.out]
  go_wp2
  go_ret3
  exact ⟨ret3 (ext2 hi lo r _ rfl) HD.out.symm, hb1⟩

end Go.Proofs.Ytglhjalmebdbcaa
