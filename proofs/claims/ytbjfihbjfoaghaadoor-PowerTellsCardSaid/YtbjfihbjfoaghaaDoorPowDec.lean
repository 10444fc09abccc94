/- A set out of bytes, as a plain function; there and back; The reader in any state: Num, Text, End; power.Decode. -/
import Derived.Test.YtbjfihbjfoaghaaDoorPowEnc
import Derived.Test.YtbjfihbjfoaghaaDoorCodeThere
namespace Go.Proofs.YtbjfihbjfoaghaaDoor
open Go.Proofs.YtbjfihbjfoaghaaDoor.Pw (M)

abbrev Pw.St := List UInt8 × Int
def Pw.rdN (st : Pw.St) : Nat × Pw.St := if st.2 ≠ 0 then (0, st) else ((Code.countL 9223372036854775807 st.1).1, (Code.countL 9223372036854775807 st.1).2.1, (Code.countL 9223372036854775807 st.1).2.2)
def Pw.rdT (st : Pw.St) : List UInt8 × Pw.St := if st.2 ≠ 0 then ([], st) else ((Code.textR 6 st.1).1, (Code.textR 6 st.1).2.1, (Code.textR 6 st.1).2.2)
def Pw.rdM (st : Pw.St) : M × Pw.St := (⟨(Pw.rdT st).1, ((Pw.rdN (Pw.rdT st).2).1 : Nat)⟩, (Pw.rdN (Pw.rdT st).2).2)
def Pw.rdMs : Nat → Pw.St → List M × Pw.St
  | 0, st => ([], st)
  | k + 1, st => ((Pw.rdMs k st).1 ++ [(Pw.rdM (Pw.rdMs k st).2).1], (Pw.rdM (Pw.rdMs k st).2).2)
def Pw.endC (st : Pw.St) : Int := if st.2 = 0 ∧ st.1 ≠ [] then 3 else st.2
def Pw.decN (s : List UInt8) : Nat := (Pw.rdN (s, 0)).1
def Pw.decR (s : List UInt8) : List M × Pw.St := Pw.rdMs (Pw.decN s) (Pw.rdN (s, 0)).2
def Pw.decOK (s : List UInt8) : Bool := decide (Pw.decN s ≤ 7) && decide (Pw.endC (Pw.decR s).2 = 0) && Pw.okL (Pw.decR s).1
def Pw.decL (s : List UInt8) : List M := if Pw.decOK s then (Pw.decR s).1 else []
def Pw.decC (s : List UInt8) : Int := if Pw.decOK s then 0 else 3

theorem Pw.rdN_le (st : Pw.St) : (Pw.rdN st).2.1.length ≤ st.1.length := by
  unfold Pw.rdN
  split
  · exact Nat.le_refl _
  · exact count_rest _ _
theorem Pw.textR_le (most : Int) (s : List UInt8) : (Code.textR most s).2.1.length ≤ s.length := by
  have h := count_rest most s
  unfold Code.textR
  split
  · exact Nat.le_refl _
  · split
    · exact Nat.le_refl _
    · simp only [List.length_drop]; omega
theorem Pw.rdT_le (st : Pw.St) : (Pw.rdT st).2.1.length ≤ st.1.length := by
  unfold Pw.rdT
  split
  · exact Nat.le_refl _
  · exact Pw.textR_le _ _
theorem Pw.rdM_le (st : Pw.St) : (Pw.rdM st).2.1.length ≤ st.1.length := Nat.le_trans (Pw.rdN_le _) (Pw.rdT_le _)
theorem Pw.rdMs_le (k : Nat) (st : Pw.St) : (Pw.rdMs k st).2.1.length ≤ st.1.length := by
  induction k with
  | zero => exact Nat.le_refl _
  | succ k ih => exact Nat.le_trans (Pw.rdM_le _) ih
theorem Pw.rdMs_length (k : Nat) (st : Pw.St) : (Pw.rdMs k st).1.length = k := by
  induction k with
  | zero => rfl
  | succ k ih => simp [Pw.rdMs, ih]
theorem Pw.countL_lt (s : List UInt8) : (Code.countL 9223372036854775807 s).1 < 2 ^ 63 := by
  unfold Code.countL
  split
  · simp
  · split
    · simp
    · exact (Code.lead_range s).1
theorem Pw.rdN_lt (st : Pw.St) : (Pw.rdN st).1 < 2 ^ 63 := by
  unfold Pw.rdN
  split
  · simp
  · exact Pw.countL_lt _

/-! ### what was read is what was written -/
theorem Pw.rdN_ok {st : Pw.St} (h : (Pw.rdN st).2.2 = 0) : st.2 = 0 ∧ st.1 = Code.numL (Pw.rdN st).1 ++ (Pw.rdN st).2.1 := by
  unfold Pw.rdN at h ⊢
  by_cases h0 : st.2 = 0
  · rw [if_neg (by simpa using h0)] at h ⊢
    refine ⟨h0, ?_⟩
    simp only at h ⊢
    unfold Code.countL at h ⊢
    split at h
    · rename_i h1; exact absurd h h1
    · rename_i h1
      split at h
      · simp at h
      · rename_i h2
        have h3 := Code.lead_ok st.1 (by simpa using h1)
        rw [if_neg h1, if_neg h2]
        simp only
        rw [← h3.2.2, List.take_append_drop]
  · rw [if_pos h0] at h
    exact absurd h h0
theorem Pw.rdT_ok {st : Pw.St} (h : (Pw.rdT st).2.2 = 0) : st.2 = 0 ∧ st.1 = Code.textL (Pw.rdT st).1 ++ (Pw.rdT st).2.1 := by
  unfold Pw.rdT at h ⊢
  by_cases h0 : st.2 = 0
  · rw [if_neg (by simpa using h0)] at h ⊢
    refine ⟨h0, ?_⟩
    simp only at h ⊢
    unfold Code.textR at h ⊢
    by_cases h1 : (Code.countL 6 st.1).2.2 = 0
    · rw [if_neg (by simpa using h1)] at h ⊢
      by_cases h2 : (Code.countL 6 st.1).1 > (Code.countL 6 st.1).2.1.length
      · rw [if_pos h2] at h; simp at h
      · rw [if_neg h2]
        simp only
        have hs : st.1 = Code.numL (Code.countL 6 st.1).1 ++ (Code.countL 6 st.1).2.1 := by
          unfold Code.countL at h1 ⊢
          split at h1
          · rename_i h3; exact absurd h1 h3
          · rename_i h3
            split at h1
            · simp at h1
            · rename_i h4
              have h5 := Code.lead_ok st.1 (by simpa using h3)
              rw [if_neg h3, if_neg h4]
              simp only
              rw [← h5.2.2, List.take_append_drop]
        have hl : ((Code.countL 6 st.1).2.1.take (Code.countL 6 st.1).1).length = (Code.countL 6 st.1).1 := by rw [List.length_take]; omega
        rw [Code.textL, hl, List.append_assoc, List.take_append_drop]
        exact hs
    · rw [if_pos h1] at h; exact absurd h h1
  · rw [if_pos h0] at h
    exact absurd h h0
theorem Pw.rdM_ok {st : Pw.St} (h : (Pw.rdM st).2.2 = 0) : st.2 = 0 ∧ st.1 = Pw.encM (Pw.rdM st).1 ++ (Pw.rdM st).2.1 := by
  unfold Pw.rdM at h ⊢
  have h1 := Pw.rdN_ok h
  have h2 := Pw.rdT_ok h1.1
  refine ⟨h2.1, ?_⟩
  rw [h2.2, h1.2]
  simp only [Pw.encM, Int.toNat_natCast, List.append_assoc]
theorem Pw.rdMs_ok {k : Nat} {st : Pw.St} (h : (Pw.rdMs k st).2.2 = 0) : st.2 = 0 ∧ st.1 = (Pw.rdMs k st).1.flatMap Pw.encM ++ (Pw.rdMs k st).2.1 := by
  induction k with
  | zero => exact ⟨h, by simp [Pw.rdMs]⟩
  | succ k ih =>
    have h1 := Pw.rdM_ok (show (Pw.rdM (Pw.rdMs k st).2).2.2 = 0 from h)
    have h2 := ih h1.1
    refine ⟨h2.1, ?_⟩
    rw [h2.2]
    simp only [Pw.rdMs, List.flatMap_append, List.flatMap_cons, List.flatMap_nil, List.append_nil, List.append_assoc]
    rw [← h1.2]
theorem Pw.decR_ok {s : List UInt8} (h : (Pw.decR s).2.2 = 0) : s = Pw.encB (Pw.decR s).1 ++ (Pw.decR s).2.1 := by
  have h1 := Pw.rdMs_ok h
  have h2 := Pw.rdN_ok h1.1
  have e1 : (Pw.decR s).1.length = (Pw.rdN (s, 0)).1 := Pw.rdMs_length _ _
  have h3 := h2.2
  simp only at h3
  rw [Pw.encB, e1, List.append_assoc]
  exact h3.trans (congrArg _ h1.2)
theorem Pw.dec_enc {s : List UInt8} (h : Pw.decOK s = true) : Pw.okL (Pw.decL s) = true ∧ Pw.encB (Pw.decL s) = s := by
  have h' := h
  simp only [Pw.decOK, Bool.and_eq_true, decide_eq_true_eq] at h'
  unfold Pw.decL
  rw [if_pos h]
  refine ⟨h'.2, ?_⟩
  have h1 : (Pw.decR s).2.2 = 0 ∧ (Pw.decR s).2.1 = [] := by
    have h2 := h'.1.2
    unfold Pw.endC at h2
    split at h2
    · simp at h2
    · rename_i h3
      refine ⟨h2, ?_⟩
      by_cases he : (Pw.decR s).2.1 = []
      · exact he
      · exact absurd ⟨h2, he⟩ h3
  have h2 := Pw.decR_ok h1.1
  rw [h1.2, List.append_nil] at h2
  exact h2.symm

/-! ### what was written is read so -/
theorem Pw.rdN_num (n : Nat) (r : List UInt8) (h : n < 2 ^ 63) : Pw.rdN (Code.numL n ++ r, 0) = (n, r, 0) := by
  have h1 := Code.count_num 9223372036854775807 n r h (by omega)
  simp [Pw.rdN, h1]
theorem Pw.rdT_text (t r : List UInt8) (h : t.length ≤ 6) : Pw.rdT (Code.textL t ++ r, 0) = (t, r, 0) := by
  have h1 := Code.text_text 6 t r (by omega) (by omega)
  simp [Pw.rdT, h1]
theorem Pw.rdM_enc (m : M) (r : List UInt8) (h : m.name.length ≤ 6) (h1 : 0 ≤ m.power) (h2 : m.power ≤ 1000) : Pw.rdM (Pw.encM m ++ r, 0) = (m, r, 0) := by
  have e1 := Pw.rdT_text m.name (Code.numL m.power.toNat ++ r) h
  have e2 := Pw.rdN_num m.power.toNat r (by omega)
  unfold Pw.rdM
  rw [Pw.encM, List.append_assoc, e1]
  dsimp only
  rw [e2]
  dsimp only
  rw [show ((m.power.toNat : Nat) : Int) = m.power by omega]
theorem Pw.rdMs_enc (L : List M) (h : ∀ m ∈ L, m.name.length ≤ 6 ∧ 0 ≤ m.power ∧ m.power ≤ 1000) (r : List UInt8) : Pw.rdMs L.length (L.flatMap Pw.encM ++ r, 0) = (L, r, 0) := by
  have key : ∀ k, k ≤ L.length → Pw.rdMs k (L.flatMap Pw.encM ++ r, 0) = (L.take k, (L.drop k).flatMap Pw.encM ++ r, 0) := by
    intro k
    induction k with
    | zero => intro _; simp [Pw.rdMs]
    | succ k ih =>
      intro hk
      have h1 := ih (by omega)
      have hm := h L[k] (List.getElem_mem (by omega))
      have e := Pw.rdM_enc L[k] ((L.drop (k + 1)).flatMap Pw.encM ++ r) hm.1 hm.2.1 hm.2.2
      have ed : (L.drop k).flatMap Pw.encM ++ r = Pw.encM L[k] ++ ((L.drop (k + 1)).flatMap Pw.encM ++ r) := by
        rw [List.drop_eq_getElem_cons (show k < L.length by omega), List.flatMap_cons, List.append_assoc]
      rw [Pw.rdMs, h1]
      dsimp only
      rw [ed, e, List.take_succ_eq_append_getElem (by omega)]
  have := key L.length (Nat.le_refl _)
  simpa using this
theorem Pw.enc_dec {L : List M} (h : Pw.okL L = true) : Pw.decOK (Pw.encB L) = true ∧ Pw.decL (Pw.encB L) = L := by
  have hl := Pw.okL_len h
  have e1 := Pw.rdN_num L.length (L.flatMap Pw.encM) (by omega)
  have e2 := Pw.rdMs_enc L (fun m hm => by have := Pw.okL_mem h m hm; exact ⟨this.2.1, by omega, this.2.2.2⟩) []
  rw [List.append_nil] at e2
  have hn : Pw.decN (Pw.encB L) = L.length := by unfold Pw.decN Pw.encB; rw [e1]
  have hr : Pw.decR (Pw.encB L) = (L, [], 0) := by
    unfold Pw.decR
    rw [hn]
    unfold Pw.encB
    rw [e1]
    exact e2
  have hok : Pw.decOK (Pw.encB L) = true := by
    unfold Pw.decOK
    rw [hn, hr]
    simp [Pw.endC, h]
    omega
  refine ⟨hok, ?_⟩
  unfold Pw.decL
  rw [if_pos hok, hr]
end Go.Proofs.YtbjfihbjfoaghaaDoor
namespace Go.Proofs.YtbjfihbjfoaghaaDoor
open Go.RowKit
open Go.Proofs.YtbjfihbjfoaghaaDoor.Pw (M)

theorem Only.out {g : Nat} {w w' : World} (h : Only g w w') : Out (fun k => k = g) w w' := ⟨h.os, h.tape, h.output, h.size, h.block⟩
theorem rnum_st (st : Pw.St) (g : Nat) (w : World) (h : Rd w g st.1 st.2) (hl : st.1.length ≤ 100000000) :
    Calls Tryd.prog 41 #[.pointer (some ⟨g, 0, none⟩)] w fun e w' => e = .returned (.int .i64 ((Pw.rdN st).1 : Nat)) ∧ Rd w' g (Pw.rdN st).2.1 (Pw.rdN st).2.2 ∧ Only g w w' := by
  unfold Pw.rdN
  by_cases hc : st.2 = 0
  · rw [if_neg (by simpa using hc)]
    rw [hc] at h
    exact rnum_any st.1 g w h hl
  · rw [if_pos hc]
    go_enter Tryd.func41, Tryd.ntmps41
    go_wp2_with fail
    refine (count_stuck 9223372036854775807 st.1 st.2 g w h hc).mono ?_
    rintro e w1 ⟨rfl, rfl⟩
    go_wp2
    go_ret
    exact ⟨rfl, h, Only.refl _ _⟩
theorem rtext_st (st : Pw.St) (g : Nat) (w : World) (h : Rd w g st.1 st.2) (hl : st.1.length ≤ 100000000) :
    Calls Tryd.prog 42 #[.pointer (some ⟨g, 0, none⟩), .int .i64 6] w fun e w' => e = .returned (.string ⟨(Pw.rdT st).1.toArray⟩) ∧ Rd w' g (Pw.rdT st).2.1 (Pw.rdT st).2.2 ∧ Only g w w' := by
  unfold Pw.rdT
  by_cases hc : st.2 = 0
  · rw [if_neg (by simpa using hc)]
    rw [hc] at h
    exact rtext_any 6 st.1 g w h hl
  · rw [if_pos hc]
    obtain ⟨s, c⟩ := st
    dsimp only at h hc hl ⊢
    have h0 := h.left
    have h1 := h.code
    have hf0 := h.free0
    have hc1 : (c != 0) = true := by rw [bne_iff_ne]; exact hc
    go_enter Tryd.func42, Tryd.ntmps42
    go_wp2_with fail
    refine (count_stuck 6 s c g w h hc).mono ?_
    rintro e w1 ⟨rfl, rfl⟩
    go_wp2_with fail
    refine (bytes_stuck 0 s c g w1 h hc).mono ?_
    rintro e w2 ⟨rfl, rfl⟩
    go_wp2
    go_ret
    exact ⟨rfl, h.setLeft s, (Only.refl g _).setCell rfl _⟩
theorem rend_st (st : Pw.St) (g : Nat) (w : World) (h : Rd w g st.1 st.2) :
    Calls Tryd.prog 43 #[.pointer (some ⟨g, 0, none⟩)] w fun e w' => e = .returned (.int .i64 (Pw.endC st)) ∧ Only g w w' := by
  obtain ⟨s, c⟩ := st
  dsimp only at h
  have h0 := h.left
  have h1 := h.code
  have hf1 := h.free1
  unfold Pw.endC
  dsimp only
  by_cases hc : c = 0
  · subst hc
    cases s with
    | nil =>
      rw [if_neg (by simp)]
      go_enter Tryd.func43, Tryd.ntmps43
      go_wp2
      go_ret
      exact ⟨rfl, Only.refl _ _⟩
    | cons a s =>
      rw [if_pos (by simp)]
      have hrd := (h.setCode 3).code
      go_enter Tryd.func43, Tryd.ntmps43
      go_wp2
      go_ret
      exact ⟨rfl, (Only.refl g _).setCell rfl _⟩
  · rw [if_neg (fun h => hc h.1)]
    have hc1 : (c == 0) = false := by rw [beq_eq_false_iff_ne]; exact hc
    go_enter Tryd.func43, Tryd.ntmps43
    go_wp2
    go_ret
    exact ⟨rfl, Only.refl _ _⟩

/-- Members of the call's own, in a block from B on. -/
def OwnM (w : World) (B : Nat) (s : Value) (L : List M) : Prop := w.ownsRow B 43 2 s L.length (mrows L)
theorem OwnM.nil (w : World) (B : Nat) : OwnM w B (.slice none 0 0) [] := ⟨rfl, Or.inl ⟨rfl, rfl⟩⟩
theorem OwnM.mems {w : World} {B : Nat} {s : Value} {L : List M} (h : OwnM w B s L) : Mems w s L := Mems.own h
theorem row_keep {G : Nat → Prop} {w w' : World} {B : Nat} {e : TypeId} {z : Nat} {s : Value} {n : Nat} {xs : List Value} (h : w.ownsRow B e z s n xs) (ho : Out G w w') (hd : ∀ k, s.ownBlock = some k → ¬ G k) : w'.ownsRow B e z s n xs := by
  refine ⟨h.1, ?_⟩
  rcases h.2 with hn | ⟨k, cap, cur, hv, hb, hk, hr⟩
  · exact Or.inl hn
  · exact Or.inr ⟨k, cap, cur, hv, hb, ho.heap hk (hd k (by rw [hv]; rfl)), hr⟩
theorem OwnM.below {w w' : World} {B : Nat} {s : Value} {L : List M} (h : OwnM w B s L) (hb : Below w.heap.size w w') : OwnM w' B s L := row_keep (G := fun _ => False) h (Out.of hb) (fun _ _ => id)

/-- The reader in block g, the row t of members. -/
structure DecAt (w : World) (B g : Nat) (t : Value) (L : List M) (st : Pw.St) : Prop where
  rd : Rd w g st.1 st.2
  row : OwnM w B t L
  apart : t.ownBlock ≠ some g
  from_ : B ≤ g
theorem DecAt.read {w w' : World} {B g : Nat} {t : Value} {L : List M} {st st' : Pw.St} (h : DecAt w B g t L st) (hr : Rd w' g st'.1 st'.2) (ho : Only g w w') : DecAt w' B g t L st' :=
  ⟨hr, row_keep h.row ho.out (fun _ hk e => h.apart (e ▸ hk)), h.apart, h.from_⟩
theorem DecAt.below {w w' : World} {B g : Nat} {t : Value} {L : List M} {st : Pw.St} (h : DecAt w B g t L st) (hb : Below w.heap.size w w') : DecAt w' B g t L st :=
  ⟨h.rd.below hb, h.row.below hb, h.apart, h.from_⟩
theorem DecAt.append {w w0 w' : World} {B g g' H n cap : Nat} {t : Value} {L : List M} {st : Pw.St} {m : M} (h : DecAt w B g t L st) (hb : Below w.heap.size w w0) (hg : w0.grownBy w' t.ownBlock) (hown : w'.ownsRow B 43 2 (.slice (some ⟨g', 0, none⟩) n cap) n (mrows L ++ mcells m)) (hn : n = L.length + 1) (hat : t.ownBlock = some g' ∨ g' = H) (hH : w.heap.size ≤ H) : DecAt w' B g (.slice (some ⟨g', 0, none⟩) n cap) (L ++ [m]) st := by
  have h0 := h.below hb
  have hlt := h.rd.lt
  refine ⟨?_, ?_, ?_, h.from_⟩
  · have ho := Out.grown hg (F := fun k => t.ownBlock = some k) (fun _ e => e)
    exact (ho.block g h0.rd.lt (fun e => h.apart e)).trans h0.rd
  · unfold OwnM
    rw [mrows_append, List.length_append, show mrows [m] = mcells m by simp [mrows]]
    subst hn
    exact hown
  · intro e
    simp [Value.ownBlock] at e
    subst e
    rcases hat with h1 | h1
    · exact h.apart h1
    · omega
theorem DecAt.bel {w w' : World} {B g : Nat} {t : Value} {L : List M} {st : Pw.St} (h : DecAt w B g t L st) (hB : B ≤ w.heap.size) (ho : Only g w w') : Below B w w' := ho.below h.from_ hB

def DecPost (s : List UInt8) (w : World) (e : Ending) (w' : World) : Prop := ∃ v, e = .returned (.tuple #[v, .int .i64 (Pw.decC s)]) ∧ OwnM w' w.heap.size v (Pw.decL s) ∧ Below w.heap.size w w'
theorem decPost_bad {s : List UInt8} {w w' : World} (h : Pw.decOK s = false) (hb : Below w.heap.size w w') : DecPost s w (.returned (.tuple #[.slice none 0 0, .int .i64 3])) w' := by
  refine ⟨.slice none 0 0, ?_, ?_, hb⟩
  · simp [Pw.decC, h]
  · rw [show Pw.decL s = [] by simp [Pw.decL, h]]
    exact OwnM.nil _ _

set_option maxRecDepth 8000 in
set_option maxHeartbeats 2000000 in
theorem decode_any (s : List UInt8) (w : World) (hl : s.length ≤ 1000000) :
    Calls Tryd.prog 28 #[.string ⟨s.toArray⟩] w (DecPost s w) := by
  obtain ⟨i0, hi, hz0, hz1, hz2⟩ := info_parts Tryd.infoMember
  have HN := Lib.hid (fun g w h => rnum_st (s, 0) g w h (by dsimp only; omega))
  have hn63 := Pw.rdN_lt (s, 0)
  have HRL := Lib.hid (fun k => Nat.le_trans (Pw.rdMs_le k (Pw.rdN (s, 0)).2) (Pw.rdN_le (s, 0)))
  have HDN : Hid (Pw.decN s = (Pw.rdN (s, 0)).1) := Lib.hid rfl
  have HDR : Hid (Pw.decR s = Pw.rdMs (Pw.decN s) (Pw.rdN (s, 0)).2) := Lib.hid rfl
  obtain ⟨⟨n, st⟩, hp⟩ : ∃ p, Pw.rdN (s, 0) = p := ⟨_, rfl⟩
  rw [hp] at HN hn63 HRL HDN HDR
  dsimp only at HN hn63 HRL HDN HDR
  rw [HDN.out] at HDR
  have hn : (n : Int) ≤ 9223372036854775807 := by omega
  have HL := Lib.hid hl
  clear hp hn63 hl
  go_enter Tryd.func28, Tryd.ntmps28
  go_wp2_with fail
  refine (read_any s w).mono ?_
  rintro e w1 ⟨rfl, hr1, hb1⟩
  obtain ⟨G, hG⟩ : ∃ G, w.heap.size = G := ⟨_, rfl⟩
  rw [hG] at hr1
  have HG := Lib.hid hG
  have HR1 := Lib.hid hr1
  have HB1 : Hid (Below G w w1) := Lib.hid (by rw [← hG]; exact hb1)
  rw [hG]
  have HG1 : Hid (G ≤ w1.heap.size) := Lib.hid (Nat.le_of_lt hr1.lt)
  clear hG hr1 hb1
  go_wp2_with fail
  refine (HN.out G w1 HR1.out).mono ?_
  rintro e w2 ⟨rfl, hr2, ho2⟩
  have HB2 : Hid (Below G w w2) := Lib.hid (HB1.out.trans (ho2.below (Nat.le_refl _) HG1.out))
  have HD2 : Hid (DecAt w2 G G (.slice none 0 0) [] st) := Lib.hid ⟨hr2, OwnM.nil _ _, by simp [Value.ownBlock], Nat.le_refl _⟩
  clear hr2 ho2
  by_cases h7 : 7 < n
  · have h7' : (7 : Int) < (n : Int) := by omega
    go_wp2
    go_ret2
    exact decPost_bad (by simp only [Pw.decOK, HDN.out]; rw [decide_eq_false (by omega)]; rfl) (by rw [HG.out]; exact HB2.out)
  · have h7' : ¬ ((7 : Int) < (n : Int)) := by omega
    go_wp2
    go_loopw [6, 14] (fun t i wr => ∃ (k : Nat) (u : Value), u = t ∧ k ≤ n ∧ i = .int .i64 k ∧ DecAt wr G G u (Pw.rdMs k st).1 (Pw.rdMs k st).2 ∧ Below G w wr) (fun _ i _ => n - (intOf i).toNat)
    case atStart => exact ⟨0, _, rfl, Nat.zero_le _, rfl, HD2.out, HB2.out⟩
    case round =>
      obtain ⟨k, u, rfl, hk, rfl, hd, hb⟩ := hrel
      have HD := Lib.hid hd
      have HB := Lib.hid hb
      have HKL := Lib.hid (Pw.rdMs_length k st)
      have HGS : Hid (G ≤ wr.heap.size) := Lib.hid (Nat.le_of_lt hd.rd.lt)
      clear hd hb HD2 HB2 HR1 HB1
      by_cases hlt : k < n
      · have h1 : (k : Int) < (n : Int) := by omega
        have HSN1 : Hid ((Pw.rdMs (k + 1) st).1 = (Pw.rdMs k st).1 ++ [(Pw.rdM (Pw.rdMs k st).2).1]) := Lib.hid rfl
        have HSN2 : Hid ((Pw.rdMs (k + 1) st).2 = (Pw.rdM (Pw.rdMs k st).2).2) := Lib.hid rfl
        have HLE := Lib.hid (Nat.le_trans (HRL.out k) (Nat.le_trans HL.out (by omega : 1000000 ≤ 100000000)))
        obtain ⟨⟨Q, q⟩, hq⟩ : ∃ q, Pw.rdMs k st = q := ⟨_, rfl⟩
        rw [hq] at HD HKL HSN1 HSN2 HLE
        dsimp only at HD HKL HSN1 HSN2 HLE
        have HT := Lib.hid (fun w h => rtext_st q G w h HLE.out)
        have HNN := Lib.hid (fun w h => rnum_st (Pw.rdT q).2 G w h (Nat.le_trans (Pw.rdT_le q) HLE.out))
        have HM : Hid (Pw.rdM q = (⟨(Pw.rdT q).1, ((Pw.rdN (Pw.rdT q).2).1 : Nat)⟩, (Pw.rdN (Pw.rdT q).2).2)) := Lib.hid rfl
        obtain ⟨⟨x, q1⟩, hx⟩ : ∃ p, Pw.rdT q = p := ⟨_, rfl⟩
        rw [hx] at HT HNN HM
        dsimp only at HT HNN HM
        obtain ⟨⟨p, q2⟩, hp⟩ : ∃ p, Pw.rdN q1 = p := ⟨_, rfl⟩
        rw [hp] at HNN HM
        dsimp only at HNN HM
        rw [HM.out] at HSN1 HSN2
        clear hq hx hp
        have HQ7 : Hid (Q.length ≤ 7) := Lib.hid (by have := HKL.out; omega)
        go_wp2_with fail
        refine (HT.out _ HD.out.rd).mono ?_
        rintro e w3 ⟨rfl, hr3, ho3⟩
        have HD3 := Lib.hid (HD.out.read (st' := q1) hr3 ho3)
        have HB3 := Lib.hid (HB.out.trans (HD.out.bel HGS.out ho3))
        clear hr3 ho3
        go_wp2_with fail
        refine (HNN.out _ HD3.out.rd).mono ?_
        rintro e w4 ⟨rfl, hr4, ho4⟩
        have HD4 := Lib.hid (HD3.out.read (st' := q2) hr4 ho4)
        have HB4 := Lib.hid (HB3.out.trans (HD3.out.bel (Nat.le_of_lt HD3.out.rd.lt) ho4))
        have HG4 : Hid (G ≤ w4.heap.size) := Lib.hid (Nat.le_of_lt HD4.out.rd.lt)
        clear hr4 ho4
        go_wp2_with (at_builtin; refine wpList_append_lies _ rfl _ _ _ rfl G 43 i0 (.agg #[.string ⟨#[]⟩, .int .i64 0]) 2 24 Tryd.underlying22 hi hz0 hz1 hz2 rfl (by decide) u Q.length (mrows Q) (by first | rfl | (simp; done)) (World.ownsRow.alloc HD4.out.row _) ⟨w4.heap.size, 0, none⟩ 1 1 (mcells ⟨x, (p : Nat)⟩) (by rfl) rfl (World.news_of_block (heap_new_at _ _ _ rfl)) (by simp [mcells, Value.oneCell']) (by decide) (by have := HQ7.out; unfold maxLen; omega) (by have := HQ7.out; omega) (by have := HG4.out; simp; omega) (w4.heap.size + 1) (by simp) ?_; intro g' cap' w5 hown5 hgrow5 hat5 hlt5)
        have hb4 := (Below.refl w4.heap.size w4).alloc (Nat.le_refl _) (.cells #[.string ⟨x.toArray⟩, .int .i64 (p : Nat)] 43)
        have hd5 := HD4.out.append hb4 hgrow5 hown5 rfl hat5 (by omega)
        have hb5 : Below G w w5 := by
          have h3 : Out (fun j => u.ownBlock = some j) w4 w5 := (Out.of hb4).trans (Out.grown hgrow5 (fun j e => e))
          exact HB4.out.trans (h3.below (fun j hj => (World.ownsRow.lt HD4.out.row j hj).1) HG4.out)
        exact ⟨⟨k + 1, _, rfl, by omega, by go_num, by rw [HSN1.out, HSN2.out]; exact hd5, hb5⟩, by simp [intOf]; omega⟩
      · have h1 : ¬ ((k : Int) < (n : Int)) := by omega
        obtain rfl : k = n := by omega
        rw [← HDR.out] at HD
        have HOKK : Hid (Pw.decOK s = (decide (Pw.endC (Pw.decR s).2 = 0) && Pw.okL (Pw.decR s).1)) := Lib.hid (by simp only [Pw.decOK, HDN.out]; rw [decide_eq_true (by omega), Bool.true_and])
        have HDL : Hid (Pw.decOK s = true → Pw.decL s = (Pw.decR s).1 ∧ Pw.decC s = 0) := Lib.hid (fun h => by simp [Pw.decL, Pw.decC, h])
        obtain ⟨⟨Q, q⟩, hq⟩ : ∃ q, Pw.decR s = q := ⟨_, rfl⟩
        rw [hq] at HD HOKK HDL
        dsimp only at HD HOKK HDL
        have HE := Lib.hid (fun w h => rend_st q G w h)
        obtain ⟨C, hC⟩ : ∃ C, Pw.endC q = C := ⟨_, rfl⟩
        rw [hC] at HE HOKK
        clear hq hC
        by_cases hC0 : C = 0
        · subst hC0
          go_wp2_with fail
          refine (HE.out _ HD.out.rd).mono ?_
          rintro e w3 ⟨rfl, ho3⟩
          have hrow : OwnM w3 G u Q := row_keep HD.out.row ho3.out (fun k hk e => HD.out.apart (e ▸ hk))
          have HROW := Lib.hid hrow
          have HB3 := Lib.hid (HB.out.trans (HD.out.bel HGS.out ho3))
          clear ho3 hrow
          go_wp2_with fail
          refine (check_any Q u w3 HROW.out.mems).mono ?_
          rintro e w4 ⟨rfl, hb4⟩
          have HROW4 := Lib.hid (HROW.out.below hb4)
          have HB4 : Hid (Below G w w4) := Lib.hid (HB3.out.trans (hb4.mono (by have := HB3.out.size; have := HG.out; omega)))
          clear hb4
          cases hQ : Pw.okL Q with
          | true =>
            rw [Pw.checkC_ok hQ]
            have hdk : Pw.decOK s = true := by rw [HOKK.out, hQ]; rfl
            have HF := Lib.hid (HDL.out hdk)
            clear hQ hdk
            go_wp2
            go_ret2
            refine ⟨u, ?_, ?_, ?_⟩
            · rw [HF.out.2]; rfl
            · rw [HF.out.1, HG.out]; exact HROW4.out
            · rw [HG.out]; exact HB4.out
          | false =>
            rw [Pw.checkC_bad hQ]
            have HF : Hid (Pw.decOK s = false) := Lib.hid (by rw [HOKK.out, hQ]; rfl)
            clear hQ
            go_wp2
            go_ret2
            exact decPost_bad HF.out (by rw [HG.out]; exact HB4.out)
        · have HF : Hid (Pw.decOK s = false) := Lib.hid (by rw [HOKK.out, decide_eq_false hC0]; rfl)
          have hC1 : (C != 0) = true := by rw [bne_iff_ne]; exact hC0
          go_wp2_with fail
          refine (HE.out _ HD.out.rd).mono ?_
          rintro e w3 ⟨rfl, ho3⟩
          have HB3 := Lib.hid (HB.out.trans (HD.out.bel HGS.out ho3))
          clear ho3
          go_wp2
          go_ret2
          exact decPost_bad HF.out (by rw [HG.out]; exact HB3.out)
end Go.Proofs.YtbjfihbjfoaghaaDoor
