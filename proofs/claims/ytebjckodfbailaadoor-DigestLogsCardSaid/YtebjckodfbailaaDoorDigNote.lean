/- digest.Many, (*digest.Log).Note. -/
import Derived.Test.YtebjckodfbailaaDoorDigFind
namespace Go.Proofs.YtebjckodfbailaaDoor
open Go.RowKit

theorem many_any (t : Int) (L : List (List UInt8)) (v : Value) (w : World) (hT : Tab w) (hs : Strs w v L) (hl : L.length ≤ 100000000) (ht : (Code.textsL L).length ≤ 90000000) :
    Calls Tryd.prog 12 #[.int .i64 t, v] w fun e w' => e = .returned (.tuple #[.string ⟨(Dig.sum t (Code.listL L)).toArray⟩, .int .i64 (Dig.sumC t)]) ∧ Below w.heap.size w w' := by
  have HT := Lib.hid hT
  have HS := Lib.hid hs
  have hll : (Code.listL L).length ≤ 140737488351232 := by
    have := Code.numL_length L.length
    have := Code.sz_le8 L.length (by omega)
    simp only [Code.listL, List.length_append]
    omega
  have HD := Lib.hid (fun w hT => dsum_any t (Code.listL L) w hT hll)
  obtain ⟨R, hR⟩ : ∃ R, Dig.sum t (Code.listL L) = R := ⟨_, rfl⟩
  obtain ⟨C, hC⟩ : ∃ C, Dig.sumC t = C := ⟨_, rfl⟩
  rw [hR, hC] at HD ⊢
  clear hT hs hR hC hll
  go_enter Tryd.func12, Tryd.ntmps12
  go_wp2_with fail
  refine (list_any L _ w HS.out hl ht).mono ?_
  rintro e w1 ⟨rfl, hb1⟩
  go_wp2_with fail
  refine (HD.out _ (HT.out.below hb1)).mono ?_
  rintro e w2 ⟨rfl, hb2⟩
  go_wp2
  go_ret2
  exact ⟨rfl, bchain hb1 hb2⟩

def Dig.noted (t : Int) (s : List UInt8) : Dig.N := ⟨t, s, Dig.sum t s⟩
theorem okNoted (t : Int) (s : List UInt8) (ht : (Lit.int .i64 t).wf = true) (hs : s.length ≤ 140737488351232) : OkN (Dig.noted t s) := ⟨ht, hs, by have := Dig.sum_length t s; simp only [Dig.noted]; omega⟩
def Dig.noteS (L : List Dig.N) (t : Int) (s : List UInt8) : List UInt8 := if Dig.putC L (Dig.noted t s) = 0 then Dig.sum t s else []

set_option maxRecDepth 8000 in
set_option maxHeartbeats 1000000 in
theorem note_any (t : Int) (s : List UInt8) (L : List Dig.N) (g : Nat) (F : Nat → Prop) (w : World) (hl : LogAt w g F L) (hT : Tab w) (ht : (Lit.int .i64 t).wf = true) (hs : s.length ≤ 140737488351232) :
    Calls Tryd.prog 15 #[.pointer (some ⟨g, 0, none⟩), .int .i64 t, .string ⟨s.toArray⟩] w fun e w' => e = .returned (.tuple #[.string ⟨(Dig.noteS L t s).toArray⟩, .int .i64 (Dig.putC L (Dig.noted t s))]) ∧ ∃ F', (∀ k, F' k → F k ∨ w.heap.size ≤ k) ∧ LogAt w' g F' (Dig.putL L (Dig.noted t s)) ∧ Out F w w' := by
  have HL := Lib.hid hl
  have HD := Lib.hid (dsum_any t s w hT hs)
  have hok := okNoted t s ht hs
  have HP := Lib.hid (fun w hl => put_any (Dig.noted t s) L g F w hl hok)
  by_cases htag : Dig.isTag t = true
  · have hsc : Dig.sumC t = 0 := by simp [Dig.sumC, htag]
    rw [hsc] at HD
    have HR : Hid (Dig.noteS L t s = if Dig.putC L (Dig.noted t s) = 0 then Dig.sum t s else []) := Lib.hid rfl
    obtain ⟨C, hC⟩ : ∃ C, Dig.putC L (Dig.noted t s) = C := ⟨_, rfl⟩
    obtain ⟨Q, hQ⟩ : ∃ Q, Dig.putL L (Dig.noted t s) = Q := ⟨_, rfl⟩
    obtain ⟨X, hX⟩ : ∃ X, Dig.noteS L t s = X := ⟨_, rfl⟩
    rw [hX, hC] at HR
    rw [hX, hC, hQ]
    rw [hC, hQ] at HP
    unfold nval Dig.noted at HP
    dsimp only at HP
    obtain ⟨D, hD⟩ : ∃ D, Dig.sum t s = D := ⟨_, rfl⟩
    rw [hD] at HD HP HR
    clear hX hC hQ hD hok hl hT htag hsc
    go_enter Tryd.func15, Tryd.ntmps15
    go_wp2_with fail
    refine HD.out.mono ?_
    rintro e w1 ⟨rfl, hb1⟩
    have HB1 := Lib.hid hb1
    have HP1 := Lib.hid (HP.out w1 (HL.out.below hb1))
    clear hb1
    go_wp2_with fail
    refine HP1.out.mono ?_
    rintro e w2 ⟨rfl, F', hF, hl2, ho2⟩
    have hres : ∃ F', (∀ k, F' k → F k ∨ w.heap.size ≤ k) ∧ LogAt w2 g F' Q ∧ Out F w w2 := ⟨F', fun k hk => (hF k hk).imp id (fun h => Nat.le_trans HB1.out.size h), hl2, (Out.of HB1.out).trans ho2⟩
    have HRES := Lib.hid hres
    clear hF hl2 ho2 hres
    by_cases hC0 : C = 0
    · subst hC0
      obtain rfl : X = D := by rw [HR.out]; simp
      go_wp2
      go_ret2
      exact ⟨rfl, HRES.out⟩
    · obtain rfl : X = [] := by rw [HR.out]; simp [hC0]
      go_wp2
      go_ret2
      exact ⟨rfl, HRES.out⟩
  · have hf : Dig.isTag t = false := by simpa using htag
    have hsc : Dig.sumC t = 1 := by simp [Dig.sumC, hf]
    have hpc : Dig.putC L (Dig.noted t s) = 1 := by simp [Dig.putC, Dig.noted, hf]
    have hns : Dig.noteS L t s = [] := by simp [Dig.noteS, hpc]
    rw [hsc] at HD
    rw [hpc, hns]
    obtain ⟨D, hD⟩ : ∃ D, Dig.sum t s = D := ⟨_, rfl⟩
    rw [hD] at HD
    have HNT : Hid (¬ Dig.taken L (Dig.noted t s)) := Lib.hid (fun h => htag h.1)
    clear hok hl hT htag hf hsc hpc hns hD
    go_enter Tryd.func15, Tryd.ntmps15
    go_wp2_with fail
    refine HD.out.mono ?_
    rintro e w1 ⟨rfl, hb1⟩
    go_wp2
    go_ret2
    exact ⟨rfl, put_same HL.out hb1 HNT.out⟩
end Go.Proofs.YtebjckodfbailaaDoor
