/- What is signed in a fork, and what besides. -/
import Derived.Test.YteolephlajhghaaOraMath
namespace Go.Proofs.Yteolephlajhghaa
namespace Ora

/-- What both are signed with is signed in the first. -/
theorem fork_told {S : List Sig} (hS : Rising S) (hl : S.length < 1024) (a b : St) : ((look (step S b) a.key).isSome || (look (step S a) a.key).isSome) = (look (step S a) a.key).isSome := by
  rw [step_may hl, step_may hl]
  cases ha : a.may with
  | true =>
    simp only [if_true]
    rw [look_put hS, if_pos rfl]
    simp
  | false =>
    cases hb : b.may with
    | false => simp
    | true =>
      simp only [if_true, Bool.false_eq_true, if_false]
      rw [look_put hS]
      have hk : a.key ≠ b.key := fun e => by
        have h1 : a.who = b.who := congrArg Prod.fst e
        have h2 : a.mark = b.mark := congrArg Prod.snd e
        unfold St.may at ha hb
        rw [h1, h2, hb] at ha
        cases ha
      rw [if_neg hk]
      simp
end Ora
end Go.Proofs.Yteolephlajhghaa
