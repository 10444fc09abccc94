/- The walk of the reader's List: so many texts, by the reader's own method as a value. -/
import Derived.Test.YtdnceliakppcpaaCodeRead
import Derived.Test.YtdnceliakppcpaaCodeStrs
namespace Go.Proofs.Ytdnceliakppcpaa
open Go.RowKit

def cellsS (L : List (List UInt8)) : List Value := L.map fun s => .string ⟨s.toArray⟩
theorem Try.infoString : (Try.prog.info? 9).map (fun i => (i.zero, i.size, i.bytes)) = some (some (.string ⟨#[]⟩), 1, 16) := by kernel_rfl
theorem strs_of_own {w : World} {B : Nat} {v : Value} {L : List (List UInt8)} (h : w.ownsRow B 9 1 v L.length (cellsS L)) : Strs w v L := by
  rcases h.2 with ⟨rfl, h0⟩ | ⟨g, cap, cur, rfl, _⟩
  · obtain rfl : L = [] := List.eq_nil_of_length_eq_zero h0
    exact Strs.nil w
  · refine ⟨some ⟨g, 0, none⟩, cap, rfl, fun i hi => ⟨_, rfl, ?_⟩⟩
    exact h.cells (g := g) rfl i _ (by simp [cellsS, hi])
theorem owns_only {w w' : World} {B g : Nat} {e : TypeId} {size : Nat} {v : Value} {n : Nat} {xs : List Value} (h : w.ownsRow B e size v n xs) (ho : Only g w w') (hg : g < B) : w'.ownsRow B e size v n xs := by
  obtain ⟨h1, h2⟩ := h
  refine ⟨h1, ?_⟩
  rcases h2 with h2 | ⟨b, cap, cur, hv, hb, hh, r⟩
  · exact Or.inl h2
  · exact Or.inr ⟨b, cap, cur, hv, hb, (ho.block b (lt_of_block hh) (by omega)).trans hh, r⟩
theorem Only.then {g : Nat} {a b c : World} (h : Only g a b) (k : Below a.heap.size b c) : Only g a c :=
  ⟨k.os.trans h.os, k.tape.trans h.tape, k.output.trans h.output, Nat.le_trans h.size k.size, fun i hi hg => (k.block i hi).trans (h.block i hi hg)⟩
theorem Rd.belowB {w w' : World} {B g : Nat} {s : List UInt8} {c : Int} (h : Rd w g s c) (hb : Below B w w') (hg : g < B) : Rd w' g s c := (hb.block g hg).trans h

def Code.readN : Nat → Int → List UInt8 → List (List UInt8) × List UInt8 × Int
  | 0, _, r => ([], r, 0)
  | n + 1, each, r => if (Code.textR each r).2.2 ≠ 0 then ([], r, (Code.textR each r).2.2) else
      ((Code.textR each r).1 :: (Code.readN n each (Code.textR each r).2.1).1, (Code.readN n each (Code.textR each r).2.1).2.1, (Code.readN n each (Code.textR each r).2.1).2.2)
def Code.listR (most each : Int) (s : List UInt8) : List (List UInt8) × List UInt8 × Int :=
  if (Code.countL most s).2.2 ≠ 0 then ([], s, (Code.countL most s).2.2) else
  if (Code.readN (Code.countL most s).1 each (Code.countL most s).2.1).2.2 ≠ 0 then ([], s, (Code.readN (Code.countL most s).1 each (Code.countL most s).2.1).2.2) else
  Code.readN (Code.countL most s).1 each (Code.countL most s).2.1
theorem Code.text_less (each : Int) (r : List UInt8) (h : (Code.textR each r).2.2 = 0) : (Code.textR each r).2.1.length + 1 ≤ r.length := by
  unfold Code.textR at h ⊢
  split at h
  · rename_i h1; exact absurd h h1
  · rename_i h1
    rw [if_neg h1]
    split at h
    · simp at h
    · rename_i h2
      rw [if_neg h2]
      have h3 : (Code.countL each r).2.1.length + 1 ≤ r.length := by
        unfold Code.countL at h1 ⊢
        split at h1
        · rename_i h4; exact absurd h4 h1
        · rename_i h4
          rw [if_neg h4]
          split at h1
          · simp at h1
          · rename_i h5
            rw [if_neg h5]
            have h6 := Code.lead_ok r (by omega)
            simp only [List.length_drop]
            have h7 := congrArg List.length h6.2.2
            rw [List.length_take, Code.numL_length] at h7
            omega
      simp only [List.length_drop]
      omega

set_option maxHeartbeats 1000000 in
theorem rlist_any (most each : Int) (s : List UInt8) (g : Nat) (w : World) (h : Rd w g s 0) (hl : s.length ≤ 100000000) :
    Calls Try.prog 20 #[.pointer (some ⟨g, 0, none⟩), .int .i64 most, .int .i64 each] w fun e w' => ∃ v, e = .returned v ∧ w'.ownsRow w.heap.size 9 1 v (Code.listR most each s).1.length (cellsS (Code.listR most each s).1) ∧ Rd w' g (Code.listR most each s).2.1 (Code.listR most each s).2.2 ∧ Only g w w' := by
  obtain ⟨i0, hi, hz0, hz1, hz2⟩ := info_parts Try.infoString
  have h0 := h.left
  have hg := h.lt
  have hcl := count_rest most s
  have hcn : (Code.countL most s).1 < 2 ^ 63 := by
    have := (Code.lead_range s).1
    unfold Code.countL
    split
    · simp
    · split
      · simp
      · exact this
  have hcz : (Code.countL most s).2.2 ≠ 0 → (Code.countL most s).1 = 0 ∧ (Code.countL most s).2.1 = s := by
    unfold Code.countL
    split
    · exact fun _ => ⟨rfl, rfl⟩
    · split
      · exact fun _ => ⟨rfl, rfl⟩
      · intro h; exact absurd rfl h
  obtain ⟨X, hX⟩ : ∃ X, Code.listR most each s = X := ⟨_, rfl⟩
  rw [hX]
  unfold Code.listR at hX
  have hcount := Lib.hid (count_any most s g w h hl)
  generalize Code.countL most s = p at hcount hcl hcn hcz hX
  obtain ⟨n, r, e⟩ := p
  simp only at hcount hcl hcn hcz hX
  by_cases he : e = 0
  · subst he
    simp only [ne_eq, not_true_eq_false, if_false] at hX
    have HX := Lib.hid hX
    clear hX
    have hn9 : (n : Int) ≤ 9223372036854775807 := by omega
    clear hcn hcz
    go_enter Try.func20, Try.ntmps20
    go_wp2_with fail
    refine hcount.out.mono ?_
    rintro e w1 ⟨rfl, hr1, ho1⟩
    clear h0
    go_wp2
    go_loopw [9, 19] (fun v i wr => ∃ (k : Nat) (acc : List (List UInt8)) (rk : List UInt8), k ≤ n ∧ i = .int .i64 k ∧ acc.length + rk.length ≤ r.length ∧
      Code.readN n each r = (acc ++ (Code.readN (n - k) each rk).1, (Code.readN (n - k) each rk).2.1, (Code.readN (n - k) each rk).2.2) ∧
      wr.ownsRow w.heap.size 9 1 v acc.length (cellsS acc) ∧ Rd wr g rk 0 ∧ Only g w wr) (fun _ i _ => n - (intOf i).toNat)
    case atStart => exact ⟨0, [], r, Nat.zero_le _, rfl, by simp, by simp, ⟨rfl, Or.inl ⟨rfl, rfl⟩⟩, hr1, ho1⟩
    case round =>
      obtain ⟨k, acc, rk, hk, rfl, hlen, hread, hown, hrk, hok⟩ := hrel
      have HR := Lib.hid hread
      clear hread
      by_cases hlt : k < n
      · have h1 : (k : Int) < (n : Int) := by omega
        obtain ⟨m, hm⟩ : ∃ m, n - k = m + 1 := ⟨n - k - 1, by omega⟩
        have hq := Code.text_less each rk
        have HS := Lib.hid (show Code.readN (m + 1) each rk = if (Code.textR each rk).2.2 ≠ 0 then ([], rk, (Code.textR each rk).2.2) else
          ((Code.textR each rk).1 :: (Code.readN m each (Code.textR each rk).2.1).1, (Code.readN m each (Code.textR each rk).2.1).2.1, (Code.readN m each (Code.textR each rk).2.1).2.2) from rfl)
        by_cases he' : (Code.textR each rk).2.2 = 0
        · have HS2 := HS.out
          rw [if_neg (by simpa using he')] at HS2
          have HS3 := Lib.hid HS2
          clear HS HS2
          have HR2 := HR.out
          rw [hm, HS3.out] at HR2
          have hq2 := hq he'
          clear hq HS3
          have hm2 : n - (k + 1) = m := by omega
          simp only at HR2
          have HR3 := Lib.hid HR2
          clear HR2 HR hm
          have hq := hq2
          clear hq2
          generalize hqq : Code.textR each rk = qq at he' hq HR3
          obtain ⟨t, r', e'⟩ := qq
          simp only at he' hq HR3
          subst he'
          go_wp2_with fail
          refine (rtext_any each rk g wr hrk (by omega)).mono ?_
          rintro e w2 ⟨rfl, hr2, ho2⟩
          have hs2 := ho2.size
          have hs1 := hok.size
          have hown2 := owns_only hown ho2 hg
          have hok2 := hok.trans ho2
          clear hown ho2 hrk hok
          rw [hqq] at hr2 ⊢
          simp only at hr2 ⊢
          clear hqq
          go_wp2_with ((at_builtin; refine wpList_append_own _ rfl _ _ 22 rfl w.heap.size 9 i0 (.string ⟨#[]⟩) 1 16 Try.underlying22 hi hz0 hz1 hz2 rfl (by decide) _ acc.length (cellsS acc) rfl (hown2.alloc _) ⟨w2.heap.size, 0, none⟩ 1 1 [.string ⟨t.toArray⟩] rfl rfl ?c1 ?c2 ?c3 ?c4 ?c5 ?_))
          case c1 => exact cell_one_new _ _ _
          case c2 => simp [Value.oneCell']
          case c3 => unfold maxLen; omega
          case c4 => omega
          case c5 => simp; omega
          intro v3 w3 hown3 hgrow3 _
          have hb3 : Below w.heap.size w2 w3 := ((Below.refl w.heap.size w2).alloc (by omega) _).grown hgrow3 (by simp; omega) (fun b hb => (hown2.lt b hb).1)
          have hr3 := hr2.belowB hb3 hg
          have ho3 := hok2.then hb3
          have hrow : w3.ownsRow w.heap.size 9 1 v3 (acc ++ [t]).length (cellsS (acc ++ [t])) := by
            simpa [cellsS] using hown3
          have c3 := hr3.code
          clear hown3 hgrow3 hown2 hok2 hr2 hb3
          go_wp2
          go_roundw
          case rel => exact ⟨k + 1, acc ++ [t], r', by omega, by go_num, by simp; omega, by rw [hm2, HR3.out]; simp, hrow, hr3, ho3⟩
          case measure => simp [intOf]; omega
        · have HS2 := HS.out
          rw [if_pos he'] at HS2
          have HR2 := HR.out
          rw [hm, HS2] at HR2
          simp only [List.append_nil] at HR2
          have HR3 := Lib.hid HR2
          clear HR2 HR hm HS HS2 hq
          generalize hqq : Code.textR each rk = qq at he' HR3
          obtain ⟨t, r', e'⟩ := qq
          simp only at he' HR3
          have he2 : (e' != 0) = true := by rw [bne_iff_ne]; exact he'
          go_wp2_with fail
          refine (rtext_any each rk g wr hrk (by omega)).mono ?_
          rintro e w2 ⟨rfl, hr2, ho2⟩
          have hs2 := ho2.size
          have hs1 := hok.size
          have hown2 := owns_only hown ho2 hg
          have hok2 := hok.trans ho2
          clear hown ho2 hrk hok
          rw [hqq] at hr2 ⊢
          simp only at hr2 ⊢
          clear hqq
          go_wp2_with ((at_builtin; refine wpList_append_own _ rfl _ _ 22 rfl w.heap.size 9 i0 (.string ⟨#[]⟩) 1 16 Try.underlying22 hi hz0 hz1 hz2 rfl (by decide) _ acc.length (cellsS acc) rfl (hown2.alloc _) ⟨w2.heap.size, 0, none⟩ 1 1 [.string ⟨t.toArray⟩] rfl rfl ?c1 ?c2 ?c3 ?c4 ?c5 ?_))
          case c1 => exact cell_one_new _ _ _
          case c2 => simp [Value.oneCell']
          case c3 => unfold maxLen; omega
          case c4 => omega
          case c5 => simp; omega
          intro v3 w3 hown3 hgrow3 _
          have hb3 : Below w.heap.size w2 w3 := ((Below.refl w.heap.size w2).alloc (by omega) _).grown hgrow3 (by simp; omega) (fun b hb => (hown2.lt b hb).1)
          have hr3 := hr2.belowB hb3 hg
          have ho3 := hok2.then hb3
          have hrow : w3.ownsRow w.heap.size 9 1 v3 (acc ++ [t]).length (cellsS (acc ++ [t])) := by
            simpa [cellsS] using hown3
          have c3 := hr3.code
          clear hown3 hgrow3 hown2 hok2 hr2 hb3
          have l3 := hr3.left
          have f3 := hr3.free0
          go_wp2
          go_ret
          have e := HX.out
          rw [HR3.out] at e
          simp only at e
          rw [if_pos he'] at e
          subst e
          exact ⟨_, rfl, ⟨rfl, Or.inl ⟨rfl, rfl⟩⟩, hr3.setLeft s, ho3.setCell rfl _⟩
      · have e : k = n := by omega
        subst e
        go_wp2
        go_ret
        have HR2 := HR.out
        rw [Nat.sub_self] at HR2
        simp only [Code.readN, List.append_nil] at HR2
        have e := HX.out
        rw [HR2] at e
        simp only [not_true_eq_false, if_false] at e
        subst e
        exact ⟨_, rfl, hown, hrk, hok⟩
  · rw [if_pos he] at hX
    subst hX
    obtain ⟨rfl, rfl⟩ := hcz he
    clear hcz
    go_enter Try.func20, Try.ntmps20
    go_wp2_with fail
    refine hcount.out.mono ?_
    rintro e w1 ⟨rfl, hr1, ho1⟩
    clear h0
    go_wp2
    go_loop [9, 19] (fun v i => v = .slice none 0 0 ∧ i = .int .i64 0) (fun _ _ => 0)
    case atStart => exact ⟨rfl, rfl⟩
    case round =>
      obtain ⟨rfl, rfl⟩ := hrel
      go_wp2
      go_ret
      exact ⟨_, rfl, ⟨rfl, Or.inl ⟨rfl, rfl⟩⟩, hr1, ho1⟩

end Go.Proofs.Ytdnceliakppcpaa
