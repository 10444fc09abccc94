/- What a table of steps tells. -/
import Derived.Test.YteolephlajhghaaOraMath
namespace Go.Proofs.Yteolephlajhghaa
namespace Ora

def isP (l : List St) (k : K) : Bool := l.any fun s => s.may && decide (s.key = k)
def honQ (l : List St) (who : List UInt8) : Bool := l.all fun s => !s.may || (!decide (s.who = who) || s.honest)
theorem is_fill (l : List St) (hl : l.length ≤ 1000) (k : K) : (look (fillP l) k).isSome = isP l k := by
  rw [fill_look l hl]
  unfold toldOf isP
  split
  · rename_i h; rw [h]; rfl
  · rename_i h
    have : (l.any fun s => s.may && decide (s.key = k)) = false := by simpa using h
    rw [this]; rfl
theorem hon_fill (l : List St) (hl : l.length ≤ 1000) (who : List UInt8) : honP (fillP l) who = honQ l who := by
  rw [Bool.eq_iff_iff]
  unfold honP honQ
  rw [List.all_eq_true, List.all_eq_true]
  constructor
  · intro h s hs
    cases hm : s.may with
    | false => simp
    | true =>
      by_cases e : s.who = who
      · have hlk := fill_look l hl s.key
        unfold toldOf at hlk
        rw [if_pos (List.any_eq_true.2 ⟨s, hs, by simp [hm]⟩)] at hlk
        have := h (s.key, _) ((look_mem (fill_rising l) _ _).1 hlk)
        have e' : s.key.1 = who := e
        simp only [e', decide_true, Bool.not_true, Bool.false_or] at this
        have h2 := List.all_eq_true.1 this s hs
        simpa [hm, e] using h2
      · simp [e]
  · rintro h ⟨k, b⟩ hm
    by_cases e : k.1 = who
    · have hlk := (look_mem (fill_rising l) k b).2 hm
      rw [fill_look l hl] at hlk
      unfold toldOf at hlk
      split at hlk
      · cases hlk
        simp only [e, decide_true, Bool.not_true, Bool.false_or]
        rw [List.all_eq_true]
        intro s hs
        have := h s hs
        by_cases hk : s.key = k
        · have hw : s.who = who := by rw [← e, ← hk]; rfl
          simpa [hk, hw] using this
        · simp [hk]
      · cases hlk
    · simp [e]
theorem is_take (l : List St) (k : K) (n : Nat) (hn : n < l.length) : isP (l.take (n + 1)) k = (isP (l.take n) k || (l[n].may && decide (l[n].key = k))) := by
  unfold isP
  rw [List.take_succ_eq_append_getElem hn, List.any_append]
  simp only [List.any_cons, List.any_nil, Bool.or_false]
theorem hon_take (l : List St) (who : List UInt8) (n : Nat) (hn : n < l.length) : honQ (l.take (n + 1)) who = (honQ (l.take n) who && (!l[n].may || (!decide (l[n].who = who) || l[n].honest))) := by
  unfold honQ
  rw [List.take_succ_eq_append_getElem hn, List.all_append]
  simp only [List.all_cons, List.all_nil, Bool.and_true]
end Ora
end Go.Proofs.Yteolephlajhghaa
