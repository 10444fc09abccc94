/- oracle.Sign. -/
import Derived.Test.YteolephlajhghaaOraTab
namespace Go.Proofs.Yteolephlajhghaa
open Go.RowKit
open Go.Proofs.Yteolephlajhghaa.Ora (K Sig)

def SignPost (w : World) (g m : Nat) (S : List Sig) (k : K) (h : Bool) (e : Ending) (w' : World) : Prop :=
  e = .returned (.int .i64 (Ora.signP S k h).2) ∧ TabAt w' g m (Ora.signP S k h).1 ∧ Out (fun i => i = m) w w'
theorem SignPost.same {w w' : World} {g m : Nat} {S : List Sig} {k : K} {h : Bool} {e : Ending} {c : Int} (hs : Ora.signP S k h = (S, c)) (he : e = .returned (.int .i64 c)) (ht : TabAt w g m S) (hb : Below w.heap.size w w') : SignPost w g m S k h e w' := by
  unfold SignPost
  rw [hs]
  exact ⟨he, ht.below hb, Out.of hb⟩

theorem sign_put {w w3 w4 : World} {g m : Nat} {S : List Sig} {k : K} {h v : Bool} {o : Option Bool} (ht : TabAt w3 g m S) (h3 : Below w.heap.size w w3) (hf : FnAt sigMap w4 m (updF (Ora.look S) k (some v))) (ho : Out (fun i => i = m) w3.drew w4) (hl : Ora.look S k = o) (hv : v = Ora.over o h) :
    TabAt w4 g m (Ora.put S k h) ∧ Out (fun i => i = m) w w4 := by
  refine ⟨⟨ho.heap (by exact ht.head) (fun e => ht.map.no_cells _ _ _ _ e ht.head), hf.congr (fun s => ?_), Ora.put_rising ht.rise k h⟩, (Out.of h3).trans ho.of_drew⟩
  rw [Ora.look_put ht.rise, hl, ← hv]
  rfl

set_option maxRecDepth 8000 in
set_option maxHeartbeats 1000000 in
theorem sign_any (g m : Nat) (S : List Sig) (k : K) (h : Bool) (w : World) (ht : TabAt w g m S) (hk : OkK k) :
    Calls Try.prog 9 #[.pointer (some ⟨g, 0, none⟩), .string ⟨k.1.toArray⟩, .string ⟨k.2.toArray⟩, .bool h] w (SignPost w g m S k h) := by
  obtain ⟨x, d⟩ := k
  have HT := Lib.hid ht
  have HB0 := Lib.hid (Below.refl w.heap.size w)
  by_cases h1 : x.length < 1 ∨ 6 < x.length
  case pos =>
    have HS : Hid (Ora.signP S (x, d) h = (S, 1)) := Lib.hid (if_pos h1)
    dsimp only
    by_cases h2 : x.length < 1
    · have h2' : (x.length : Int) < 1 := by omega
      clear ht hk h1 h2
      go_enter Try.func9, Try.ntmps9
      go_wp2
      go_ret
      exact SignPost.same HS.out rfl HT.out HB0.out
    · have h2' : ¬ ((x.length : Int) < 1) := by omega
      have h3' : (6 : Int) < (x.length : Int) := by omega
      clear ht hk h1 h2
      go_enter Try.func9, Try.ntmps9
      go_wp2
      go_ret
      exact SignPost.same HS.out rfl HT.out HB0.out
  have h2' : ¬ ((x.length : Int) < 1) := by omega
  have h3' : ¬ ((6 : Int) < (x.length : Int)) := by omega
  by_cases h4 : d.length = 32
  case neg =>
    have HS : Hid (Ora.signP S (x, d) h = (S, 3)) := Lib.hid (by unfold Ora.signP; rw [if_neg h1, if_pos h4])
    have h4' : ¬ ((d.length : Int) = 32) := by omega
    dsimp only
    clear ht hk h1 h4
    go_enter Try.func9, Try.ntmps9
    go_wp2
    go_ret
    exact SignPost.same HS.out rfl HT.out HB0.out
  have h4' : ((d.length : Int) = 32) := by omega
  have HK := Lib.hid hk
  have HCP := Lib.hid (fun w => scopied_any (x, d) w hk)
  have HSP : Hid (Ora.signP S (x, d) h = if Ora.look S (x, d) = none ∧ 1024 ≤ S.length then (S, 2) else (Ora.put S (x, d) h, 0)) := Lib.hid (by unfold Ora.signP; rw [if_neg h1, if_neg (by simpa using h4)])
  unfold kval at HCP
  dsimp only at HCP ⊢
  clear ht hk h1 h4
  go_enter Try.func9, Try.ntmps9
  go_wp2_with fail
  refine (HCP.out _).mono ?_
  rintro e w1 ⟨rfl, hb1⟩
  go_wp2
  have hb2 : Below w.heap.size w (w1.alloc (.cells #[.string ⟨x.toArray⟩, .string ⟨d.toArray⟩] 48)) := hb1.alloc hb1.size _
  obtain ⟨c0, c1, -, -⟩ := cells2 (heap_new_at w1 (.cells #[.string ⟨x.toArray⟩, .string ⟨d.toArray⟩] 48) w1.heap.size rfl)
  obtain ⟨p, hp⟩ : ∃ p, w1.heap.size = p := ⟨_, rfl⟩
  have hsz : (w1.alloc (.cells #[.string ⟨x.toArray⟩, .string ⟨d.toArray⟩] 48)).heap.size = p + 1 := by simp [hp]
  rw [hp] at c0 c1 ⊢
  have HPW : Hid (w.heap.size ≤ p) := Lib.hid (hp ▸ hb1.size)
  generalize (w1.alloc (.cells #[.string ⟨x.toArray⟩, .string ⟨d.toArray⟩] 48)) = w2 at *
  have HSZ := Lib.hid hsz
  have HB2 := Lib.hid hb2
  have ht2 := HT.out.below hb2
  have HT2 := Lib.hid ht2
  have hc := ht2.cell
  clear hb1 hb2 hp hsz
  have l1 := (ht2.map.below (Below.refl _ w2).drew).look Try.underlying43 HK.out true (zeroSteps w2.drew)
  have l2 := (ht2.map.below ((Below.refl _ w2).alloc (Nat.le_refl _) (.cells #[.bool false] 50)).drew).look Try.underlying43 HK.out true (zeroSteps _)
  have hba := (Below.refl w2.heap.size w2).alloc (Nat.le_refl _) (.cells #[.bool false] 50)
  have a0 := (hba.cell (World.block_lt_of_cell? _ _ c0)).trans c0
  have a1 := (hba.cell (World.block_lt_of_cell? _ _ c1)).trans c1
  have ac := (hba.cell (World.block_lt_of_cell? _ _ hc)).trans hc
  clear ht2 hba
  obtain ⟨o, ho⟩ : ∃ o, Ora.look S (x, d) = o := ⟨_, rfl⟩
  have HO := Lib.hid ho
  rw [ho] at l1 l2
  clear ho
  have HTA := Lib.hid (HT2.out.below ((Below.refl w2.heap.size w2).alloc (Nat.le_refl _) (.cells #[.bool false] 50)).drew)
  have HBA := Lib.hid (((HB2.out).alloc HB2.out.size (.cells #[.bool false] 50)).drew)
  cases o with
  | none =>
    have l3 : (Instr.lookup 43 (.map (some m)) (.agg #[.string ⟨x.toArray⟩, .string ⟨d.toArray⟩]) true).run Try.prog w2.drew = .ok (.tuple #[.agg #[.bool false], .bool false]) w2.drew := l1
    have l4 : (Instr.lookup 43 (.map (some m)) (.agg #[.string ⟨x.toArray⟩, .string ⟨d.toArray⟩]) true).run Try.prog (w2.alloc (.cells #[.bool false] 50)).drew = .ok (.tuple #[.agg #[.bool false], .bool false]) (w2.alloc (.cells #[.bool false] 50)).drew := l2
    have hlen := HTA.out.len 3
    by_cases hl : 1024 ≤ S.length
    · have hl' : (1024 : Int) ≤ (S.length : Int) := by omega
      have HS : Hid (Ora.signP S (x, d) h = (S, 2)) := Lib.hid (by rw [HSP.out, if_pos ⟨HO.out, hl⟩])
      clear l1 l2 hl
      go_region
      all_goals
        go_wp2
        go_ret
        exact SignPost.same HS.out rfl HT.out HBA.out
    · have hl' : ¬ ((1024 : Int) ≤ (S.length : Int)) := by omega
      have HS : Hid (Ora.signP S (x, d) h = (Ora.put S (x, d) h, 0)) := Lib.hid (by rw [HSP.out, if_neg (fun q => hl q.2)])
      obtain ⟨w4, hrun, hf4, ho4, hs4⟩ := (HTA.out.map.below (Below.refl _ _).drew).put Try.underlying43 (s := (x, d)) HK.out h
      have HP4 := Lib.hid (sign_put (h := h) HTA.out HBA.out hf4 ho4 HO.out rfl)
      dsimp only [sigMap, kval] at hrun
      clear l1 l2 hl hf4 ho4 hs4
      have HF : Hid (∀ e, e = .returned (.int .i64 0) → SignPost w g m S (x, d) h e w4) := Lib.hid (fun e he => by unfold SignPost; rw [HS.out]; exact ⟨he, HP4.out⟩)
      go_region
      all_goals
        go_wp2
        clear l3 l4 hlen
        cases h
        all_goals
          go_region
          all_goals
            go_wp2
            go_ret
            exact HF.out _ rfl
  | some b =>
    have HTB := Lib.hid (HT2.out.below ((Below.refl w2.heap.size w2).alloc (Nat.le_refl _) (.cells #[.bool b] 50)).drew)
    have HBB := Lib.hid (((HB2.out).alloc HB2.out.size (.cells #[.bool b] 50)).drew)
    have hba := (Below.refl w2.heap.size w2).alloc (Nat.le_refl _) (.cells #[.bool b] 50)
    have b0 := (hba.cell (World.block_lt_of_cell? _ _ c0)).trans c0
    have b1 := (hba.cell (World.block_lt_of_cell? _ _ c1)).trans c1
    have bc := (hba.cell (World.block_lt_of_cell? _ _ hc)).trans hc
    clear hba
    have l3 : (Instr.lookup 43 (.map (some m)) (.agg #[.string ⟨x.toArray⟩, .string ⟨d.toArray⟩]) true).run Try.prog w2.drew = .ok (.tuple #[.agg #[.bool b], .bool true]) w2.drew := l1
    have l4 : (Instr.lookup 43 (.map (some m)) (.agg #[.string ⟨x.toArray⟩, .string ⟨d.toArray⟩]) true).run Try.prog (w2.alloc (.cells #[.bool false] 50)).drew = .ok (.tuple #[.agg #[.bool b], .bool true]) (w2.alloc (.cells #[.bool false] 50)).drew := l2
    have HS : Hid (Ora.signP S (x, d) h = (Ora.put S (x, d) h, 0)) := Lib.hid (by rw [HSP.out, if_neg (fun q => by rw [HO.out] at q; cases q.1)])
    obtain ⟨w4, hrun, hf4, ho4, hs4⟩ := (HTB.out.map.below (Below.refl _ _).drew).put Try.underlying43 (s := (x, d)) HK.out (b && h)
    have HP4 := Lib.hid (sign_put (h := h) HTB.out HBB.out hf4 ho4 HO.out rfl)
    dsimp only [sigMap, kval] at hrun
    have HF : Hid (∀ e, e = .returned (.int .i64 0) → SignPost w g m S (x, d) h e w4) := Lib.hid (fun e he => by unfold SignPost; rw [HS.out]; exact ⟨he, HP4.out⟩)
    clear l1 l2 hf4 ho4 hs4
    go_region
    all_goals
      go_wp2
      clear l3 l4
      cases h
      all_goals
        cases b
        all_goals
          simp only [Bool.and_true, Bool.and_false] at hrun
          go_region
          all_goals
            go_wp2
            go_ret
            exact HF.out _ rfl
end Go.Proofs.Yteolephlajhghaa
