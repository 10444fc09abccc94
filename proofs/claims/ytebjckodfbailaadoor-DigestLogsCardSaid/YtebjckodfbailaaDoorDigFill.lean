/- A log of what may be noted, and the list of what was taken. -/
import Derived.Test.YtebjckodfbailaaDoorDigAll
import Derived.Test.YtebjckodfbailaaDoorArgNoteds
namespace Go.Proofs.YtebjckodfbailaaDoor
open Go.RowKit

def Dig.fillG (G : List Dig.N) (L : List Dig.N) : List Dig.N := L.foldl Dig.putL G
def Dig.fillI (G I : List Dig.N) : List Dig.N → List Dig.N
  | [] => I
  | n :: L => Dig.fillI (Dig.putL G n) (if Dig.putC G n = 0 then I ++ [n] else I) L
theorem Dig.fillG_snoc (G L : List Dig.N) (n : Dig.N) : Dig.fillG G (L ++ [n]) = Dig.putL (Dig.fillG G L) n := by simp [Dig.fillG, List.foldl_append]
theorem Dig.fillI_snoc (G I L : List Dig.N) (n : Dig.N) : Dig.fillI G I (L ++ [n]) = if Dig.putC (Dig.fillG G L) n = 0 then Dig.fillI G I L ++ [n] else Dig.fillI G I L := by
  induction L generalizing G I with
  | nil => rfl
  | cons a L ih => exact ih _ _
theorem Dig.fillI_length (G I L : List Dig.N) : (Dig.fillI G I L).length ≤ I.length + L.length := by
  induction L generalizing G I with
  | nil => exact Nat.le_add_right _ _
  | cons a L ih =>
    have := ih (Dig.putL G a) (if Dig.putC G a = 0 then I ++ [a] else I)
    rw [Dig.fillI]
    split at this
    · simp at this ⊢; split
      · omega
      · simp_all
    · simp at this ⊢; split
      · simp_all
      · omega
theorem Dig.fillI_mem {G I L : List Dig.N} {n : Dig.N} (h : n ∈ Dig.fillI G I L) : n ∈ I ∨ n ∈ L := by
  induction L generalizing G I with
  | nil => exact Or.inl h
  | cons a L ih =>
    rcases ih h with h | h
    · split at h
      · rcases List.mem_append.1 h with h | h
        · exact Or.inl h
        · exact Or.inr (by simp at h; simp [h])
      · exact Or.inl h
    · exact Or.inr (List.mem_cons_of_mem _ h)

/-- A log of the things G in block g, beside it a row s of the things I; all in blocks from B on. -/
structure Both (w : World) (B g : Nat) (F : Nat → Prop) (s : Value) (G I : List Dig.N) : Prop where
  log : LogAt w g F G
  from_ : ∀ k, F k → B ≤ k
  row : w.ownsRow B 35 3 s I.length (rows I)
  apart : ∀ k, s.ownBlock = some k → ¬ F k
theorem Both.put {w w' : World} {B g : Nat} {F F' : Nat → Prop} {s : Value} {G G' I : List Dig.N} (h : Both w B g F s G I) (hB : B ≤ w.heap.size) (hF : ∀ k, F' k → F k ∨ w.heap.size ≤ k) (hl : LogAt w' g F' G') (ho : Out F w w') : Both w' B g F' s G' I where
  log := hl
  from_ := fun k hk => (hF k hk).elim (h.from_ k) (fun h => Nat.le_trans hB h)
  row := by
    refine ⟨h.row.1, ?_⟩
    rcases h.row.2 with hn | ⟨k, cap, cur, hv, hb, hk, hr⟩
    · exact Or.inl hn
    · exact Or.inr ⟨k, cap, cur, hv, hb, ho.heap hk (h.apart k (by rw [hv]; rfl)), hr⟩
  apart := fun k hk hF' => (hF k hF').elim (h.apart k hk) (fun hs => absurd (h.row.lt k hk).2 (by omega))
theorem Both.below {w w' : World} {B g : Nat} {F : Nat → Prop} {s : Value} {G I : List Dig.N} (h : Both w B g F s G I) (hb : Below w.heap.size w w') : Both w' B g F s G I where
  log := h.log.below hb
  from_ := h.from_
  row := by
    refine ⟨h.row.1, ?_⟩
    rcases h.row.2 with hn | ⟨k, cap, cur, hv, hB, hk, hr⟩
    · exact Or.inl hn
    · exact Or.inr ⟨k, cap, cur, hv, hB, (hb.block k (lt_of_heap hk)).trans hk, hr⟩
  apart := h.apart
theorem Both.append {w w' : World} {B g : Nat} {F : Nat → Prop} {s s' : Value} {G I I' : List Dig.N} (h : Both w B g F s G I) (hg : w.grownBy w' s.ownBlock) (hr : w'.ownsRow B 35 3 s' I'.length (rows I')) (ha : s.ownBlock = s'.ownBlock ∨ ∀ k, s'.ownBlock = some k → w.heap.size ≤ k) : Both w' B g F s' G I' where
  log := h.log.out (G := fun k => s.ownBlock = some k) (Out.grown hg (fun k e => e)) (fun k hk e => h.apart k e hk)
  from_ := h.from_
  row := hr
  apart := fun k hk hF => by
    rcases ha with e | e
    · exact h.apart k (e.trans hk) hF
    · exact absurd (h.log.lt k hF) (by have := e k hk; omega)
theorem Both.bel {w w' : World} {B g : Nat} {F : Nat → Prop} {s : Value} {G I : List Dig.N} (h : Both w B g F s G I) (hB : B ≤ w.heap.size) (ho : Out F w w') : Below B w w' := ho.below h.from_ hB
theorem Both.noteds {w : World} {B g : Nat} {F : Nat → Prop} {s : Value} {G I : List Dig.N} (h : Both w B g F s G I) : Noteds w s I := by
  obtain ⟨A, cap, rfl⟩ := own_form h.row
  refine ⟨A, cap, rfl, fun h0 => ?_⟩
  obtain ⟨b, cap', hv, _, hlt, _⟩ := row_cells h.row 0 h0
  obtain ⟨rfl, rfl⟩ : A = some ⟨b, 0, none⟩ ∧ cap = cap' := by simpa using hv
  refine ⟨b, 0, rfl, hlt, fun i hi => ?_⟩
  obtain ⟨b', cap', hv', _, _, h1, h2, h3⟩ := row_cells h.row i hi
  obtain ⟨rfl, rfl⟩ : b = b' ∧ cap = cap' := by simpa using hv'
  rw [Nat.zero_add]
  exact ⟨h1, h2, h3⟩

def FillPost (L : List Dig.N) (w : World) (e : Ending) (w' : World) : Prop :=
  ∃ g s F, e = .returned (.tuple #[.pointer (some ⟨g, 0, none⟩), s]) ∧ Both w' w.heap.size g F s (Dig.fillG [] (L.take 40)) (Dig.fillI [] [] (L.take 40)) ∧ Below w.heap.size w w'
set_option maxRecDepth 8000 in
set_option maxHeartbeats 1000000 in
theorem fill_any (L : List Dig.N) (v : Value) (w : World) (hv : Noteds w v L) (hok : ∀ n ∈ L, OkN n) (hlen : L.length ≤ 4000000000000) :
    Calls Tryd.prog 19 #[v] w (FillPost L w) := by
  have HV := Lib.hid hv
  have HOK := Lib.hid hok
  obtain ⟨A, cap, rfl, hc⟩ := hv
  have HC := Lib.hid hc
  obtain ⟨i0, hi, hz0, hz1, hz2⟩ := info_parts Tryd.infoNoted
  clear hok hc
  go_enter Tryd.func19, Tryd.ntmps19
  go_wp2_with fail
  refine (newLog_any _).mono ?_
  rintro e w1 ⟨g, F0, rfl, hF0, hl0, hb0⟩
  have HB0 := Lib.hid hb0
  have HBO := Lib.hid (show Both w1 w.heap.size g F0 (.slice none 0 0) [] [] from ⟨hl0, hF0, World.ownsRow_nil _ _ _ _, fun k hk => by simp [Value.ownBlock] at hk⟩)
  clear hF0 hl0 hb0
  go_wp2
  go_loopw [5, 6] (fun sv i wr => ∃ (k : Nat) (s : Value), s = sv ∧ k ≤ L.length ∧ k ≤ 40 ∧ i = .int .i64 k ∧ ∃ F, Both wr w.heap.size g F s (Dig.fillG [] (L.take k)) (Dig.fillI [] [] (L.take k)) ∧ Below w.heap.size w wr) (fun _ i _ => L.length - (intOf i).toNat)
  case atStart => exact ⟨0, _, rfl, Nat.zero_le _, by omega, rfl, F0, HBO.out, HB0.out⟩
  case round =>
    obtain ⟨k, s, rfl, hk, hk40, rfl, F, hbo, hb⟩ := hrel
    have HBR := Lib.hid hbo
    have HB := Lib.hid hb
    clear hbo hb
    by_cases hlt : k < L.length ∧ k < 40
    · obtain ⟨hlt, h40⟩ := hlt
      have h1 : (k : Int) < (L.length : Int) := by omega
      have h2 : (k : Int) < 40 := by omega
      have h0 : (0 : Int) ≤ (k : Int) := by omega
      obtain ⟨b, o, rfl, hbl, hcell⟩ := HC.out (by omega)
      obtain ⟨n0, n1, n2⟩ := hcell k hlt
      have n0 := (HB.out.cell (p := ⟨b, o + k * 3, none⟩) hbl).trans n0
      have n1 := (HB.out.cell (p := ⟨b, o + k * 3 + 1, none⟩) hbl).trans n1
      have n2 := (HB.out.cell (p := ⟨b, o + k * 3 + 2, none⟩) hbl).trans n2
      have HNOK := Lib.hid (HOK.out L[k] (List.getElem_mem hlt))
      have HG1 := Lib.hid (Dig.fillG_snoc [] (L.take k) L[k])
      have HI1 := Lib.hid (Dig.fillI_snoc [] [] (L.take k) L[k])
      have HIL := Lib.hid (Dig.fillI_length [] [] (L.take k))
      rw [← List.take_succ_eq_append_getElem hlt] at HG1 HI1
      obtain ⟨n, hn⟩ : ∃ n, L[k] = n := ⟨_, rfl⟩
      rw [hn] at n0 n1 n2 HNOK HG1 HI1
      obtain ⟨G, hG⟩ : ∃ G, Dig.fillG [] (L.take k) = G := ⟨_, rfl⟩
      obtain ⟨I, hI⟩ : ∃ I, Dig.fillI [] [] (L.take k) = I := ⟨_, rfl⟩
      rw [hG, hI] at HBR
      rw [hG] at HG1 HI1
      rw [hI] at HI1 HIL
      have HP := Lib.hid (put_any n G g F wr HBR.out.log HNOK.out)
      unfold nval at HP
      obtain ⟨C, hC⟩ : ∃ C, Dig.putC G n = C := ⟨_, rfl⟩
      rw [hC] at HP HI1
      have HIlen : Hid (I.length ≤ 40) := Lib.hid (by have := HIL.out; simp at this; omega)
      clear hn hG hI hC hcell HIL
      go_wp2_with fail
      refine HP.out.mono ?_
      rintro e w2 ⟨rfl, F2, hF2, hl2, ho2⟩
      have HB2 := Lib.hid (HB.out.trans (HBR.out.bel HB.out.size ho2))
      have HBR2 := Lib.hid (HBR.out.put HB.out.size hF2 hl2 ho2)
      have m0 := (HB2.out.cell (p := ⟨b, o + k * 3, none⟩) hbl).trans ((HB.out.cell (p := ⟨b, o + k * 3, none⟩) hbl).symm.trans n0)
      have m1 := (HB2.out.cell (p := ⟨b, o + k * 3 + 1, none⟩) hbl).trans ((HB.out.cell (p := ⟨b, o + k * 3 + 1, none⟩) hbl).symm.trans n1)
      have m2 := (HB2.out.cell (p := ⟨b, o + k * 3 + 2, none⟩) hbl).trans ((HB.out.cell (p := ⟨b, o + k * 3 + 2, none⟩) hbl).symm.trans n2)
      clear hF2 hl2 ho2 n0 n1 n2
      by_cases hC0 : C = 0
      · subst hC0
        have HIa := Lib.hid (by have := HI1.out; rw [if_pos rfl] at this; exact this)
        have e3 : ncells n = rows [n] := by simp [rows]
        have HE3 := Lib.hid e3
        clear e3
        go_wp2_with (at_builtin; refine wpList_append_lies _ rfl _ _ _ rfl w.heap.size 35 i0 (.agg #[.int .i64 0, .string ⟨#[]⟩, .string ⟨#[]⟩]) 3 40 Tryd.underlying33 hi hz0 hz1 hz2 rfl (by decide) s I.length (rows I) (by rfl) (HBR2.out.row.alloc _) ⟨w2.heap.size, 0, none⟩ 1 1 (ncells n) (by rfl) rfl (World.news_of_block (heap_new_at _ _ _ rfl)) (by simp [ncells, Value.oneCell']) (by decide) (by have := HIlen.out; unfold maxLen; omega) (by have := HIlen.out; omega) (by have := HB2.out.size; simp; omega) (w2.heap.size + 1) (by simp) ?_; intro g' cap' w3 hown3 hgrow3 hat3 hlt3)
        refine ⟨⟨k + 1, _, rfl, by omega, by omega, by go_num, F2, ?_, ?_⟩, by simp [intOf]; omega⟩
        · rw [HG1.out, HIa.out]
          have hb2 := HBR2.out.below ((Below.refl _ w2).alloc (Nat.le_refl _) (.cells #[.int .i64 n.tag, .string ⟨n.text.toArray⟩, .string ⟨n.dig.toArray⟩] 35))
          refine hb2.append hgrow3 ?_ ?_
          · rw [rows_append, ← HE3.out, List.length_append]
            exact hown3
          · rcases hat3 with h | h
            · exact Or.inl (by rw [h]; rfl)
            · refine Or.inr (fun j hj => ?_)
              simp [Value.ownBlock] at hj
              simp
              omega
        · have h3 : Out (fun j => s.ownBlock = some j) w2 w3 := (Out.of ((Below.refl _ w2).alloc (Nat.le_refl _) _)).trans (Out.grown hgrow3 (fun j e => e))
          exact HB2.out.trans (h3.below (fun j hj => (HBR2.out.row.lt j hj).1) HB2.out.size)
      · have HIa := Lib.hid (by have := HI1.out; rw [if_neg hC0] at this; exact this)
        go_wp2
        refine ⟨⟨k + 1, _, rfl, by omega, by omega, by go_num, F2, ?_, HB2.out⟩, by simp [intOf]; omega⟩
        rw [HG1.out, HIa.out]
        exact HBR2.out
    · have HT : Hid (L.take k = L.take 40) := Lib.hid (by
        by_cases h : k < L.length
        · obtain rfl : k = 40 := by omega
          rfl
        · rw [List.take_of_length_le (by omega), List.take_of_length_le (by omega)])
      by_cases h : k < L.length
      · have h1 : (k : Int) < (L.length : Int) := by omega
        have h2 : ¬ ((k : Int) < 40) := by omega
        go_wp2
        go_ret2
        exact ⟨g, s, F, rfl, by rw [← HT.out]; exact HBR.out, HB.out⟩
      · have h1 : ¬ ((k : Int) < (L.length : Int)) := by omega
        go_wp2
        go_ret2
        exact ⟨g, s, F, rfl, by rw [← HT.out]; exact HBR.out, HB.out⟩
end Go.Proofs.YtebjckodfbailaaDoor
