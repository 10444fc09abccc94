/- StoreReached, MapDrop, StoreKeep, VerCode, VerStep -/
import Derived.Test.YtkfadijcjjdlcaaGreatDoorPk11
import Derived.Test.YtkfadijcjjdlcaaGreatDoorPk18
import Derived.Test.YtkfadijcjjdlcaaGreatDoorPk03
import Derived.Test.YtkfadijcjjdlcaaGreatDoorPk08
import Derived.Test.YtkfadijcjjdlcaaGreatDoorPk12
namespace Go.Proofs.YtkfadijcjjdlcaaGreatDoor
open Go.RowKit
open Go.Proofs.YtkfadijcjjdlcaaGreatDoor.Sto (St)

def lenOf : Value → Nat
  | .slice _ n _ => n
  | _ => 0
def mapSize (w : World) (b : Nat) : Nat := match w.heap[b]? with | some (.map es _) => es.size | _ => 0
def workLeft (n b : Nat) (v : Value) (w : World) : Nat := (n - mapSize w b) * 17 + lenOf v
/-- The keys, in some order. -/
theorem FnAt.list {P : Program} {k : TypeId} {κ α : Type} {M : MapLaw P k κ α} {w : World} {b : Nat} {f : κ → Option α} (h : FnAt M w b f) : ∃ ks : List κ, mapSize w b = ks.length ∧ ks.Nodup ∧ ∀ s, s ∈ ks ↔ f s ≠ none := by
  obtain ⟨es, clock, hb, h2, h3, h4⟩ := h
  have hex : ∀ l : List MapEntry, (∀ x ∈ l, ∃ s a, x.key = M.enc s ∧ x.val = M.val a ∧ M.ok s ∧ f s = some a) → ∃ ks : List κ, l.map (·.key) = ks.map M.enc ∧ ∀ s ∈ ks, f s ≠ none := by
    intro l
    induction l with
    | nil => exact fun _ => ⟨[], rfl, fun s hs => (by cases hs)⟩
    | cons x r ih =>
      intro hl
      obtain ⟨ks, e1, e2⟩ := ih fun y hy => hl y (List.mem_cons_of_mem _ hy)
      obtain ⟨s, a, q1, _, _, q2⟩ := hl x (List.mem_cons_self ..)
      refine ⟨s :: ks, by simp [e1, q1], fun s' hs' => ?_⟩
      rcases List.mem_cons.1 hs' with rfl | hs'
      · rw [q2]; simp
      · exact e2 s' hs'
  obtain ⟨ks, e1, e2⟩ := hex es.toList h2
  have hlen : ks.length = es.size := by
    have := congrArg List.length e1
    simpa using this.symm
  refine ⟨ks, by unfold mapSize; rw [hb]; exact hlen.symm, ?_, fun s => ⟨e2 s, fun hs => ?_⟩⟩
  · have h5 := h4.2.2
    rw [e1] at h5
    exact List.Pairwise.imp (fun {a b} hab => fun (e : a = b) => hab (by rw [e])) (List.pairwise_map.1 h5)
  · cases hf : f s with
    | none => exact absurd hf hs
    | some a =>
      obtain ⟨x, hx, hxe⟩ := h3 s a hf
      have : x.key ∈ ks.map M.enc := e1 ▸ List.mem_map.2 ⟨x, hx, rfl⟩
      obtain ⟨s', hs', e⟩ := List.mem_map.1 this
      rw [M.inj _ _ (hxe.symm.trans e.symm)]; exact hs'
theorem FnAt.size_eq {P : Program} {k : TypeId} {κ α : Type} [BEq κ] [LawfulBEq κ] {M : MapLaw P k κ α} {w : World} {b : Nat} {f : κ → Option α} (h : FnAt M w b f) {V : List κ} (hn : V.Nodup) (hV : ∀ s, s ∈ V ↔ f s ≠ none) : mapSize w b = V.length := by
  obtain ⟨ks, h1, h2, h3⟩ := h.list
  rw [h1]
  exact Nat.le_antisymm (Sto.le_of_sub h2 fun x hx => (hV x).2 ((h3 x).1 hx)) (Sto.le_of_sub hn fun x hx => (h3 x).2 ((hV x).1 hx))

def inV (V : List (List UInt8)) (x : List UInt8) : Option Unit := if x ∈ V then some () else none
theorem inV_iff (V : List (List UInt8)) (x : List UInt8) : x ∈ V ↔ inV V x ≠ none := by
  unfold inV; by_cases h : x ∈ V <;> simp [h]
theorem inV_some (V : List (List UInt8)) (x : List UInt8) : (inV V x).isSome = decide (x ∈ V) := by
  unfold inV; by_cases h : x ∈ V <;> simp [h]
theorem inV_put (V : List (List UInt8)) (x s : List UInt8) : updF (inV V) x (some ()) s = inV (V ++ [x]) s := by
  unfold updF inV
  by_cases h : s = x
  · subst h; simp
  · simp [h]
theorem lookU {w : World} {b : Nat} {V : List (List UInt8)} (h : FnAt setMap w b (inV V)) {x : List UInt8} (hx : x.length ≤ 140737488351232) :
    (Instr.lookup 88 (.map (some b)) (.string ⟨x.toArray⟩) true).run Tryz.prog w = .ok (.tuple #[.agg #[], .bool (decide (x ∈ V))]) w := by
  have h1 := h.look Tryz.underlying88 (s := x) hx true (zeroUnit w)
  rw [show (.string ⟨x.toArray⟩ : Value) = setMap.enc x from rfl, h1, inV_some]
  cases inV V x <;> rfl
/-- The last of a row, taken off. -/
theorem Own.pre {w : World} {B g n cap : Nat} {O : List (List UInt8)} {x : List UInt8} (h : Own w B (.slice (some ⟨g, 0, none⟩) (n + 1) cap) (O ++ [x])) (hn : n = O.length) : Own w B (.slice (some ⟨g, 0, none⟩) n cap) O := by
  subst hn
  unfold Own at h ⊢
  rw [scells_append, List.length_append] at h
  obtain ⟨_, h | ⟨g', cap', cur, hv, hB, hh, hc, hm, hs, ht⟩⟩ := h
  · simp at h
  · obtain ⟨rfl, rfl⟩ : g = g' ∧ cap = cap' := by simpa using hv
    simp only [List.length_cons, List.length_nil, Nat.zero_add] at hc ht
    refine ⟨by simp [scells], Or.inr ⟨g, cap, cur, rfl, hB, hh, by omega, hm, hs, ?_⟩⟩
    have := congrArg (List.take O.length) ht
    rw [List.take_take] at this
    rw [Nat.mul_one] at this ⊢
    rw [show min O.length (O.length + 1) = O.length by omega] at this
    rw [this, List.take_append_of_le_length (by simp [scells]), List.take_of_length_le (by simp [scells])]
theorem FnAt.grownOwn {P : Program} {k : TypeId} {κ α : Type} {M : MapLaw P k κ α} {w w' : World} {b B : Nat} {f : κ → Option α} {z : Value} {O : List (List UInt8)} (h : FnAt M w b f) (ho : Own w B z O) (hg : w.grownBy w' z.ownBlock) : FnAt M w' b f := by
  refine h.out (Out.grown hg (F := fun j => z.ownBlock = some j) (fun _ e => e)) fun e => ?_
  rcases ho.2 with ⟨rfl, _⟩ | ⟨g, c, cur, rfl, _, hh, _⟩
  · simp [Value.ownBlock] at e
  · have : g = b := by simpa [Value.ownBlock] using e
    subst this
    exact h.no_cells _ _ _ _ rfl hh
theorem own_capLe {w : World} {B g n cap : Nat} {L : List (List UInt8)} (h : Own w B (.slice (some ⟨g, 0, none⟩) n cap) L) : L.length ≤ cap := by
  rcases h.2 with ⟨h', _⟩ | ⟨g', cap', cur, hv, _, _, hn, _⟩
  · simp at h'
  · obtain ⟨_, _, rfl⟩ : g = g' ∧ n = L.length ∧ cap = cap' := by simpa using hv
    exact hn
theorem Sto.kids_short (t k : List UInt8) (h : k ∈ Sto.kidsT t) : k.length ≤ 32 := by
  unfold Sto.kidsT Nd.kidsL at h
  obtain ⟨h1, h2⟩ := List.mem_filter.1 h
  have hall : Nd.all32 (Nd.dec t).1.kids = true := by
    rcases Nd.dec_is t with ⟨_, h, _⟩ | ⟨_, h, _⟩
    · unfold Nd.fine at h
      exact (Bool.and_eq_true_iff.1 h).1
    · rw [h]; rfl
  have := List.all_eq_true.1 hall k h1
  simp at this
  rcases this with h | h
  · rw [h]; simp
  · omega
theorem Sto.dec_kids (t : List UInt8) : (Nd.dec t).1.kids.length = 16 ∧ (∀ x ∈ (Nd.dec t).1.kids, x.length ≤ 140737488351232) ∧ (Nd.dec t).2 ≠ 90 := by
  have hall : (Nd.dec t).1.kids.length = 16 ∧ Nd.all32 (Nd.dec t).1.kids = true ∧ (Nd.dec t).2 ≠ 90 := by
    rcases Nd.dec_is t with ⟨h0, h, h1, _⟩ | ⟨_, h, h1⟩
    · unfold Nd.fine at h
      exact ⟨h1, (Bool.and_eq_true_iff.1 h).1, by first | omega | (rw [h0]; decide)⟩
    · rw [h]; exact ⟨rfl, rfl, by first | omega | (rw [‹_ = (80 : Int)›]; decide)⟩
  refine ⟨hall.1, fun x hx => ?_, hall.2.2⟩
  have := List.all_eq_true.1 hall.2.1 x hx
  simp at this
  rcases this with h | h
  · rw [h]; simp
  · omega
def ReachedPost (S : St) (l : List (List UInt8)) (w : World) (e : Ending) (w' : World) : Prop :=
  ∃ mr V, e = .returned (.map (some mr)) ∧ w.heap.size ≤ mr ∧ FnAt setMap w' mr (inV V) ∧ V.Nodup ∧ (∀ x, x ∈ V ↔ Sto.Reach S l x) ∧ Below w.heap.size w w'

/-- Between two rounds. -/
structure WorkAt (S : St) (l V O : List (List UInt8)) (w wr : World) (B mr : Nat) (z : Value) : Prop where
  map : FnAt setMap wr mr (inV V)
  own : Own wr B z O
  work : Sto.Work S l V O
  len : O.length ≤ l.length + V.length * 16
  short : ∀ x ∈ O, x.length ≤ 140737488351232
  below : Below B w wr
theorem WorkAt.left {S : St} {l V O : List (List UInt8)} {w wr : World} {B mr : Nat} {z : Value} (h : WorkAt S l V O w wr B mr z) : workLeft S.length mr z wr = (S.length - V.length) * 17 + O.length := by
  unfold workLeft
  rw [h.map.size_eq h.work.nd (inV_iff V)]
  obtain ⟨A, cap, rfl⟩ := own_form h.own
  rfl
theorem WorkAt.of_below {S : St} {l V O : List (List UInt8)} {w wr w' : World} {B mr : Nat} {z : Value} (h : WorkAt S l V O w wr B mr z) (hb : Below wr.heap.size wr w') (hB : B ≤ wr.heap.size) : WorkAt S l V O w w' B mr z :=
  ⟨h.map.below hb, h.own.below hb, h.work, h.len, h.short, h.below.trans (hb.mono hB)⟩
theorem WorkAt.skip {S : St} {l V O : List (List UInt8)} {x : List UInt8} {w wr w' : World} {B mr : Nat} {z z' : Value} (h : WorkAt S l V (O ++ [x]) w wr B mr z) (ho : Own wr B z' O) (hx : x ∈ V ∨ x ∉ Sto.keys S) (hb : Below wr.heap.size wr w') (hB : B ≤ wr.heap.size) :
    WorkAt S l V O w w' B mr z' ∧ workLeft S.length mr z' w' < workLeft S.length mr z wr := by
  have h1 : WorkAt S l V O w wr B mr z' := ⟨h.map, ho, h.work.skip hx, by have := h.len; rw [List.length_append] at this; simp at this; omega, fun y hy => h.short y (List.mem_append_left _ hy), h.below⟩
  have h2 := h1.of_below hb hB
  refine ⟨h2, ?_⟩
  rw [h2.left, h.left, List.length_append]
  simp
theorem WorkAt.take {S : St} {l V O : List (List UInt8)} {x t : List UInt8} {w wr w' : World} {B mr : Nat} {z z' : Value} (h : WorkAt S l V (O ++ [x]) w wr B mr z) (hx : x ∉ V) (ht : Sto.look S x = some t) (hm : FnAt setMap w' mr (inV (V ++ [x]))) (ho : Own w' B z' (O ++ Sto.kidsT t)) (hb : Below B w w') :
    WorkAt S l (V ++ [x]) (O ++ Sto.kidsT t) w w' B mr z' ∧ workLeft S.length mr z' w' < workLeft S.length mr z wr := by
  have hk := Sto.kidsT_len t
  have hwk := h.work.take hx ht
  have h1 : WorkAt S l (V ++ [x]) (O ++ Sto.kidsT t) w w' B mr z' := ⟨hm, ho, hwk, by
    have := h.len
    simp only [List.length_append, List.length_cons, List.length_nil] at this ⊢
    omega, fun y hy => by
    rcases List.mem_append.1 hy with hy | hy
    · exact h.short y (List.mem_append_left _ hy)
    · have := Sto.kids_short t y hy; omega, hb⟩
  refine ⟨h1, ?_⟩
  have hl := hwk.len
  rw [h1.left, h.left]
  simp only [List.length_append, List.length_cons, List.length_nil] at hl ⊢
  omega

set_option maxRecDepth 100000 in
set_option maxHeartbeats 4000000 in
theorem reached_any (g m : Nat) (S : St) (l : List (List UInt8)) (v : Value) (w : World) (h : StoreAt w g m S) (hv : Strs w v l) (hS : S.length ≤ 50000) (hl : l.length ≤ 10000) (hsh : ∀ x ∈ l, x.length ≤ 140737488351232) :
    Calls Tryz.prog 39 #[.pointer (some ⟨g, 0, none⟩), v] w (ReachedPost S l w) := by
  unfold ReachedPost
  have HH := Lib.hid h
  have HSL := Lib.hid hS
  have hb0 := (Below.refl w.heap.size w).alloc (Nat.le_refl _) (.map #[] 0)
  have HM0 : Hid (FnAt setMap (w.alloc (.map #[] 0)) w.heap.size (inV [])) := Lib.hid ((FnAt.made setMap w w.heap.size rfl).congr fun s => by simp [inV])
  have HCL := Lib.hid (sclone_any l v _ (hv.below hb0) (by omega))
  have HB0 := Lib.hid hb0
  have HSH := Lib.hid hsh
  have HLL := Lib.hid hl
  have hmm := @run_makeMap Tryz.prog
  obtain ⟨B, hB⟩ : ∃ B, w.heap.size = B := ⟨_, rfl⟩
  rw [hB] at HM0 HB0
  have HBS := Lib.hid hB
  have HHB : Hid (∀ wr, Below B w wr → StoreAt wr g m S) := Lib.hid (fun wr hb => h.below (by rw [hB]; exact hb))
  clear h hv hS hl hsh hb0
  go_enter Tryz.func39, Tryz.ntmps39
  go_wp2_with fail
  refine HCL.out.mono ?_
  rintro e w1 ⟨z0, rfl, hown0, hb1⟩
  have HW0 : Hid (WorkAt S l [] l w w1 B B z0) := Lib.hid ⟨HM0.out.below hb1, own_lowS hown0 (by simp [hB]), Sto.Work.begin S l, by simp, HSH.out, HB0.out.trans (hb1.mono (by simp [hB]))⟩
  clear hown0 hb1 hB HCL HM0 hmm
  go_wp2
  go_loopw [6] (fun s wr => ∃ V O, WorkAt S l V O w wr B B s) (fun s wr => workLeft S.length B s wr)
  case atStart => exact ⟨[], l, HW0.out⟩
  case round =>
    rename_i s
    obtain ⟨V, O, hw⟩ := hrel
    clear HW0
    have HW := Lib.hid hw
    have HSB : Hid (B ≤ wr.heap.size) := Lib.hid (by have := hw.below.size; have := HBS.out; omega)
    rcases List.eq_nil_or_concat O with rfl | ⟨O', x, rfl⟩
    · obtain ⟨A, cap, rfl⟩ := own_form hw.own
      simp only [List.length_nil]
      clear hw
      go_wp2
      go_ret
      exact ⟨B, V, rfl, Nat.le_of_eq HBS.out, HW.out.map, HW.out.work.nd, fun x => HW.out.work.done x, by rw [HBS.out]; exact HW.out.below⟩
    · obtain ⟨n, hn⟩ : ∃ n, O'.length = n := ⟨_, rfl⟩
      have hown := hw.own
      have hxs : x.length ≤ 140737488351232 := hw.short x (by simp)
      have hlu := lookU hw.map hxs
      obtain ⟨A, cap, rfl⟩ := own_form hown
      have hlen : (O'.concat x).length = n + 1 := by simp [hn]
      rw [hlen] at hown HW ⊢
      obtain ⟨q, c', hv, hBq, hql⟩ := World.ownsRow.form hown (by omega)
      obtain ⟨rfl, -, rfl⟩ : A = some ⟨q, 0, none⟩ ∧ n = O'.length ∧ cap = c' := by simpa using hv
      have hcell : wr.cell? ⟨q, n, none⟩ = some (.string ⟨x.toArray⟩) := by
        have := World.ownsRow.cells hown (g := q) rfl n (.string ⟨x.toArray⟩) (by simp [scells, hn])
        rwa [Addr.add_mid, Nat.zero_add] at this
      have hcap : (n : Int) ≤ (cap : Int) := by
        have := own_capLe hown
        omega
      have hnb : (n : Int) ≤ 900000 := by
        have h1 := hw.len
        have h2 := hw.work.len
        have h3 := HLL.out
        have h4 := HSL.out
        rw [hlen] at h1
        omega
      have h0 : (0 : Int) ≤ (n : Int) := by omega
      have h1 : (0 : Int) < (n : Int) + 1 := by omega
      have h2 : (n : Int) < (n : Int) + 1 := by omega
      rw [List.concat_eq_append] at HW
      have HOP : Hid (Own wr B (.slice (some ⟨q, 0, none⟩) n cap) O') := Lib.hid (by rw [List.concat_eq_append] at hown; exact Own.pre hown hn.symm)
      have HN := Lib.hid hn
      have HXS := Lib.hid hxs
      have hw0 : Hid (Below B w wr) := Lib.hid hw.below
      clear hw hn hown hlen hv hBq hql hxs
      have hbA : Below wr.heap.size wr (wr.alloc (.cells #[] 90)) := (Below.refl _ wr).alloc (Nat.le_refl _) _
      have HBA := Lib.hid hbA
      by_cases hin : x ∈ V
      · rw [decide_eq_true hin] at hlu
        have HF := Lib.hid (HW.out.skip HOP.out (Or.inl hin) hbA HSB.out)
        clear hin hbA
        go_wp2
        exact ⟨⟨V, O', HF.out.1⟩, HF.out.2⟩
      · rw [decide_eq_false hin] at hlu
        have HST := Lib.hid (HHB.out _ (hw0.out.trans (hbA.mono HSB.out)))
        have HND := Lib.hid (stnode_any g m S x _ HST.out HXS.out)
        have HIN := Lib.hid hin
        have HI19 : Hid ((Tryz.prog.info? 112).map (·.size) = some 19) := Lib.hid (by kernel_rfl)
        clear hin hbA
        unfold Sto.nodeOf at HND
        cases hlk : Sto.look S x with
        | none =>
          rw [hlk] at HND
          dsimp only at HND
          have HNK : Hid (x ∉ Sto.keys S) := Lib.hid ((Sto.look_none S x).1 hlk)
          have HON := Lib.hid (ncl_one Nd.zero)
          have HSN : Hid ((ncl Nd.zero).toArray.size = 19) := Lib.hid rfl
          unfold ndval at HND
          obtain ⟨A, hA⟩ : ∃ A, (ncl Nd.zero).toArray = A := ⟨_, rfl⟩
          rw [hA] at HND HON HSN
          have HI : Hid ((Tryz.prog.info? 112).map (·.size) = some A.size) := Lib.hid (by rw [HSN.out]; exact HI19.out)
          clear hA hlk
          go_wp2_with fail
          refine HND.out.mono ?_
          rintro e w2 ⟨rfl, hb2⟩
          have hb3 : Below wr.heap.size wr (w2.alloc (.cells A 112)) := (bchain HBA.out hb2).alloc (bchain HBA.out hb2).size _
          have HF := Lib.hid (HW.out.skip HOP.out (Or.inr HNK.out) hb3 HSB.out)
          clear hb2 hb3
          go_wp2_with (refine wpList_store_fresh (by rfl) _ _ _ (by rfl) w2.heap.size rfl A (by rfl) (by rfl) _ _ HI.out HSN.out.symm HON.out ?_)
          exact ⟨⟨V, O', HF.out.1⟩, HF.out.2⟩
        | some t =>
          rw [hlk] at HND
          dsimp only at HND
          obtain ⟨hk16, hks, hc90⟩ := Sto.dec_kids t
          have HKT : Hid (Sto.kidsT t = Nd.kidsL (Nd.dec t).1.kids) := Lib.hid rfl
          obtain ⟨⟨nd, c⟩, hD⟩ : ∃ D, Nd.dec t = D := ⟨_, rfl⟩
          rw [hD] at HND hk16 hks hc90 HKT
          dsimp only at HND hk16 hks hc90 HKT
          have HLK := Lib.hid hlk
          have HKI := Lib.hid (fun w => nkids_any nd w hk16 hks)
          unfold KidsPost at HKI
          rw [← HKT.out] at HKI
          have HON := Lib.hid (ncl_one nd)
          have HSN : Hid ((ncl nd).toArray.size = 19) := Lib.hid (by rw [List.size_toArray, ncl_length nd hk16])
          unfold ndval at HND HKI
          obtain ⟨A, hA⟩ : ∃ A, (ncl nd).toArray = A := ⟨_, rfl⟩
          rw [hA] at HND HON HSN HKI
          have HI : Hid ((Tryz.prog.info? 112).map (·.size) = some A.size) := Lib.hid (by rw [HSN.out]; exact HI19.out)
          clear hA hlk hD hk16 hks HI19
          go_wp2_with fail
          refine HND.out.mono ?_
          rintro e w2 ⟨rfl, hb2⟩
          have hb3 : Below wr.heap.size wr (w2.alloc (.cells A 112)) := (bchain HBA.out hb2).alloc (bchain HBA.out hb2).size _
          have HB3 := Lib.hid hb3
          have HM3 := Lib.hid (HW.out.map.below hb3)
          have HR3 : Hid ((w2.alloc (.cells A 112)).heap[w2.heap.size]? = some (.cells A 112 (0, 0))) := Lib.hid (heap_new_at w2 _ _ rfl)
          have HO3 := Lib.hid (HOP.out.below hb3)
          have HXL : Hid (setMap.ok x) := Lib.hid HXS.out
          clear hb2 hb3 hlu hcell hcap
          go_upto_region 12 with (first | (refine wpList_store_fresh (by rfl) _ _ _ (by rfl) w2.heap.size rfl A (by rfl) (by rfl) _ _ HI.out HSN.out.symm HON.out ?_) | (at_mapUpdate; refine wpList_mapUpdate_fn (M := setMap) rfl _ _ _ _ rfl Tryz.underlying88 x () HXL.out (by rfl) (by rfl) (by rfl) HM3.out ?_; intro w4 hf4 ho4 hs4))
          have HM4 := Lib.hid (hf4.congr (inV_put V x))
          have HR4 := Lib.hid (ho4.heap HR3.out (fun e => HM3.out.no_cells _ _ _ _ e HR3.out))
          have HO4 : Hid (Own w4 B (.slice (some ⟨q, 0, none⟩) n cap) O') := Lib.hid (row_out HO3.out ho4 (fun k cs t f e => HM3.out.no_cells _ _ _ _ e))
          have HB4 : Hid (Below B w w4) := Lib.hid ((hw0.out.trans (HB3.out.mono HSB.out)).trans (ho4.below (fun k e => Nat.le_of_eq e.symm) (Nat.le_trans HSB.out HB3.out.size)))
          have HS4 : Hid (B ≤ w4.heap.size) := Lib.hid (by rw [hs4]; exact Nat.le_trans HSB.out HB3.out.size)
          clear hf4 ho4 hs4
          go_wp2_with (refine wpList_load_row (by rfl) _ _ (by rfl) w2.heap.size (by rfl) _ A _ _ HR4.out Tryz.underlying112 (by rfl) HI.out ?_)
          refine (HKI.out _).mono ?_
          rintro e w5 ⟨z2, rfl, hown5, hb5⟩
          have HO5 := HO4.out.below hb5
          have HS5 : B ≤ w5.heap.size := Nat.le_trans HS4.out hb5.size
          have hk16 := Sto.kidsT_len t
          have hO5 : w5.ownsRow B 9 1 (.slice (some ⟨q, 0, none⟩) n cap) n (scells O') := by
            have := HO5
            unfold Own at this
            rwa [HN.out] at this
          obtain ⟨v6, w6, hrun6, hown6, hgrow6, _⟩ := append_strs hown5.strs hO5 (by omega) HS5
          have HM6 := Lib.hid ((HM4.out.below hb5).grownOwn HO5 hgrow6)
          have HO6 : Hid (Own w6 B v6 (O' ++ Sto.kidsT t)) := Lib.hid (by
            unfold Own
            rw [scells_append, List.length_append, HN.out]
            exact hown6)
          have HB6 : Hid (Below B w w6) := Lib.hid ((HB4.out.trans (hb5.mono HS4.out)).trans ((Out.grown hgrow6 (F := fun j => Value.ownBlock (.slice (some ⟨q, 0, none⟩) n cap) = some j) (fun _ e => e)).below (fun j hj => (HO5.lt j hj).1) HS5))
          have HR6 := Lib.hid hrun6
          have HF := Lib.hid (HW.out.take HIN.out HLK.out HM6.out HO6.out HB6.out)
          clear hown5 hb5 HO5 HS5 hk16 hO5 hrun6 hown6 hgrow6
          go_wp2_with (at_builtin; refine wpList_append_run rfl _ _ _ rfl (.slice (some ⟨q, 0, none⟩) n cap) z2 _ (by rfl) (by rfl) HR6.out ?_)
          exact ⟨⟨V ++ [x], O' ++ Sto.kidsT t, HF.out.1⟩, HF.out.2⟩

end Go.Proofs.YtkfadijcjjdlcaaGreatDoor
namespace Go.Proofs.YtkfadijcjjdlcaaGreatDoor
open Go.RowKit Go.MapKept
open Go.ChangeMaps (setBlock heap_setBlock_same heap_setBlock_other)
open Go.Maps (Keyed)
variable {P : Program} {k t e : TypeId} {κ α : Type}

/-- The map in block b is ranged over by the iterator in block r; the keys in 'done' have come, and may have gone since; cnt are still to come. -/
def FnRangeD (M : MapLaw P k κ α) (w : World) (b r : Nat) (f : κ → Option α) (done : List κ) (cnt : Nat) : Prop :=
  ∃ es clock since seen c0, w.heap[b]? = some (.map es clock) ∧ (∀ x ∈ es.toList, ∃ s a, x.key = M.enc s ∧ x.val = M.val a ∧ M.ok s ∧ f s = some a) ∧ (∀ s a, f s = some a → ∃ x ∈ es.toList, x.key = M.enc s) ∧ Stamped es clock ∧
    w.heap[r]? = some (.mapIter (some b) since seen c0) ∧ (∀ x ∈ es.toList, x.born < since) ∧ since ≤ c0 ∧ since ≤ clock ∧ (leftOf es seen).size = cnt ∧ done.Nodup ∧ (∀ x ∈ es.toList, seen.contains x.born = true ↔ ∃ s ∈ done, x.key = M.enc s)

theorem FnRange.weak {M : MapLaw P k κ α} {w : World} {b r : Nat} {f : κ → Option α} {done : List κ} {cnt : Nat} (h : FnRange M w b r f done cnt) : FnRangeD M w b r f done cnt := by
  obtain ⟨es, clock, since, seen, c0, h1, h2, h3, h4, h5, h6, h7, h8, h9, h10, h11, _⟩ := h
  exact ⟨es, clock, since, seen, c0, h1, h2, h3, h4, h5, h6, h7, h8, h9, h10, h11⟩
theorem FnRangeD.map {M : MapLaw P k κ α} {w : World} {b r : Nat} {f : κ → Option α} {done : List κ} {cnt : Nat} (h : FnRangeD M w b r f done cnt) : FnAt M w b f := by
  obtain ⟨es, clock, _, _, _, hb, h2, h3, h4, _⟩ := h
  exact ⟨es, clock, hb, h2, h3, h4⟩
theorem FnRangeD.left_eq {M : MapLaw P k κ α} {w : World} {b r : Nat} {f : κ → Option α} {done : List κ} {cnt : Nat} (h : FnRangeD M w b r f done cnt) : w.rangeLeft b r = cnt := by
  obtain ⟨es, clock, since, seen, c0, hb, _, _, _, hr, _, _, _, hc, _⟩ := h
  simp only [World.rangeLeft, hb, hr]
  exact hc
theorem FnRangeD.lt {M : MapLaw P k κ α} {w : World} {b r : Nat} {f : κ → Option α} {done : List κ} {cnt : Nat} (h : FnRangeD M w b r f done cnt) : r < w.heap.size := by
  obtain ⟨es, clock, since, seen, c0, hb, _, _, _, hr, _⟩ := h
  exact lt_of_heap hr
theorem FnRangeD.ne {M : MapLaw P k κ α} {w : World} {b r : Nat} {f : κ → Option α} {done : List κ} {cnt : Nat} (h : FnRangeD M w b r f done cnt) : r ≠ b := by
  obtain ⟨es, clock, since, seen, c0, hb, _, _, _, hr, _⟩ := h
  rintro rfl
  rw [hb] at hr; cases hr
theorem FnRangeD.no_cells {M : MapLaw P k κ α} {w : World} {b r : Nat} {f : κ → Option α} {done : List κ} {cnt : Nat} (h : FnRangeD M w b r f done cnt) (j : Nat) (cs : Array Value) (t : TypeId) (fr : Nat × Nat) (hk : j = r) : w.heap[j]? ≠ some (.cells cs t fr) := by
  subst hk
  obtain ⟨es, clock, since, seen, c0, hb, _, _, _, hr, _⟩ := h
  rw [hr]; simp
/-- An iterator is no map. -/
theorem FnRangeD.no_map {κ' α' : Type} {k' : TypeId} {M : MapLaw P k κ α} {M' : MapLaw P k' κ' α'} {w : World} {b r b' : Nat} {f : κ → Option α} {f' : κ' → Option α'} {done : List κ} {cnt : Nat} (h : FnRangeD M w b r f done cnt) (h' : FnAt M' w b' f') : b' ≠ r := by
  rintro rfl
  obtain ⟨es, clock, since, seen, c0, hb, _, _, _, hr, _⟩ := h
  obtain ⟨es', c', hb', _⟩ := h'
  rw [hr] at hb'; cases hb'
theorem FnRangeD.out {M : MapLaw P k κ α} {F : Nat → Prop} {w w' : World} {b r : Nat} {f : κ → Option α} {done : List κ} {cnt : Nat} (h : FnRangeD M w b r f done cnt) (ho : Out F w w') (hb : ¬ F b) (hr : ¬ F r) : FnRangeD M w' b r f done cnt := by
  obtain ⟨es, clock, since, seen, c0, h1, h2, h3, h4, h5, h6⟩ := h
  exact ⟨es, clock, since, seen, c0, ho.heap h1 hb, h2, h3, h4, ho.heap h5 hr, h6⟩
theorem FnRangeD.below {M : MapLaw P k κ α} {w w' : World} {b r : Nat} {f : κ → Option α} {done : List κ} {cnt : Nat} (h : FnRangeD M w b r f done cnt) (ho : Below w.heap.size w w') : FnRangeD M w' b r f done cnt := h.out (F := fun _ => False) (Out.of ho) id id
theorem FnRangeD.congr {M : MapLaw P k κ α} {w : World} {b r : Nat} {f g : κ → Option α} {done : List κ} {cnt : Nat} (h : FnRangeD M w b r f done cnt) (e : ∀ s, f s = g s) : FnRangeD M w b r g done cnt := by
  obtain rfl : f = g := funext e
  exact h

theorem FnRangeD.next {M : MapLaw P k κ α} {w : World} {b r : Nat} {f : κ → Option α} {done : List κ} {cnt : Nat} (h : FnRangeD M w b r f done cnt) (ty : TypeId) :
    ((∀ s, f s ≠ none → s ∈ done) ∧ (Instr.next (.pointer (some ⟨r, 0, none⟩)) false ty).run P w = .ok (.tuple #[.bool false]) w) ∨
    ∃ s a w' cnt', f s = some a ∧ M.ok s ∧ s ∉ done ∧ (Instr.next (.pointer (some ⟨r, 0, none⟩)) false ty).run P w = .ok (.tuple #[.bool true, M.enc s, M.val a]) w' ∧ FnRangeD M w' b r f (done ++ [s]) cnt' ∧ cnt' < cnt ∧
      Out (fun i => i = r) w w' ∧ w'.heap.size = w.heap.size ∧ (Instr.entry (.pointer (some ⟨r, 0, none⟩))).run P w' = .ok (.tuple #[M.enc s, M.val a]) w' := by
  have hne := h.ne
  obtain ⟨es, clock, since, seen, c0, hb, h2, h3, h4, hr, hold, hsc, hsk, rfl, hnd, hseen⟩ := h
  rcases run_next_at (P := P) w ty r b since c0 seen es clock hr hb hold hsc with ⟨h0, hrun⟩ | ⟨x, hx, w1, hal, hrun⟩
  · refine Or.inl ⟨fun s hs => ?_, hrun⟩
    cases hf : f s with
    | none => exact absurd hf hs
    | some a =>
      obtain ⟨x, hx, hxe⟩ := h3 s a hf
      obtain ⟨s', hs', e⟩ := (hseen x hx).1 (all_seen es seen h0 x hx)
      rw [M.inj _ _ (hxe.symm.trans e)]; exact hs'
  · obtain ⟨hxm, hxs⟩ := mem_left hx
    obtain ⟨s, a, e1, e2, hok, hf⟩ := h2 x hxm
    have hr1 : w1.heap[r]? = some (.mapIter (some b) since seen c0) := by rcases hal with rfl | rfl <;> exact hr
    have hb1 : w1.heap[b]? = some (.map es clock) := by rcases hal with rfl | rfl <;> exact hb
    have hset := heap_set (o' := .mapIter (some b) since (seen.push x.born) clock) hr1
    have hb' : (setBlock w1 r (.mapIter (some b) since (seen.push x.born) clock)).heap[b]? = some (.map es clock) := (hset.2 b (fun e1 => hne e1.symm)).trans hb1
    have hnot : s ∉ done := fun hs => by
      have := (hseen x hxm).2 ⟨s, hs, e1⟩
      rw [hxs] at this; cases this
    rw [e1, e2] at hrun
    have hent := run_entry_at (P := P) (setBlock w1 r (.mapIter (some b) since (seen.push x.born) clock)) r b since seen es clock x hset.1 hb' hxm h4.2.1
    rw [e1, e2] at hent
    refine Or.inr ⟨s, a, _, _, hf, hok, hnot, hrun, ⟨es, clock, since, seen.push x.born, clock, hb', h2, h3, h4, hset.1, hold, hsk, hsk, rfl, ?_, ?_⟩, left_shrinks es seen x hx, ?_, ?_, hent⟩
    · rw [List.nodup_append]
      exact ⟨hnd, by simp, fun y hy z hz e => hnot (by simp at hz; rw [← hz, ← e]; exact hy)⟩
    · intro y hy
      rw [contains_push]
      constructor
      · intro hc
        simp only [Bool.or_eq_true, beq_iff_eq] at hc
        rcases hc with hc | hc
        · obtain ⟨s', hs', e⟩ := (hseen y hy).1 hc
          exact ⟨s', List.mem_append_left _ hs', e⟩
        · obtain rfl := born_inj h4.2.1 hy hxm hc
          exact ⟨s, by simp, e1⟩
      · rintro ⟨s', hs', e⟩
        simp only [Bool.or_eq_true, beq_iff_eq]
        rcases List.mem_append.1 hs' with hs' | hs'
        · exact Or.inl ((hseen y hy).2 ⟨s', hs', e⟩)
        · obtain rfl : s' = s := by simpa using hs'
          refine Or.inr ?_
          obtain rfl := entry_eq_of_key ((stamped_iff es clock).1 h4).2.2 hy hxm (e.trans e1.symm)
          rfl
    · rcases hal with rfl | rfl <;> exact ⟨rfl, rfl, rfl, by simp [setBlock], fun i _ hi => hset.2 i hi⟩
    · rcases hal with rfl | rfl <;> simp [setBlock]

/-- A key that has come goes. -/
theorem FnRangeD.drop [DecidableEq κ] {M : MapLaw P k κ α} {w : World} {b r : Nat} {f : κ → Option α} {done : List κ} {cnt : Nat} (h : FnRangeD M w b r f done cnt) (ht : P.underlying t = some (.map k e)) {s : κ} (hs : M.ok s) :
    ∃ w' cnt', (∀ ty, (Builtin.delete_ #[t, k] ty #[.map (some b), M.enc s]).run P w = .ok (.tuple #[]) w') ∧ FnRangeD M w' b r (updF f s none) done cnt' ∧ cnt' ≤ cnt ∧ Out (fun i => i = b) w w' ∧ w'.heap.size = w.heap.size := by
  have hne := h.ne
  obtain ⟨w', hrun, hf', ho, hsz⟩ := h.map.drop ht hs
  obtain ⟨es, clock, since, seen, c0, hb, h2, h3, h4, hr, hold, hsc, hsk, rfl, hnd, hseen⟩ := h
  have hr' := ho.heap hr hne
  obtain ⟨kl, hkey⟩ := M.key s hs
  rcases M.keyed.find w hkey es.toList (FnAt.keys h2) with ⟨h5, h6⟩ | ⟨j, e0, h5, h6, h7⟩
  · have hrun2 : ∀ ty, (Builtin.delete_ #[t, k] ty #[.map (some b), M.enc s]).run P w = .ok (.tuple #[]) (setBlock w b (.map es clock)) := fun ty => by
      simp [Builtin.delete_, run_underlying ht, MapKept.run_getObj_map hb, M.keyed.check w _ hkey, h5, MapKept.run_setObj_map _ hb, Result.andThen, setBlock]
    have he : w' = setBlock w b (.map es clock) := by
      have := (hrun 0).symm.trans (hrun2 0)
      simpa using this
    have hb' : w'.heap[b]? = some (.map es clock) := by rw [he]; exact heap_setBlock_same hb _
    have hfs : ∀ y, updF f s none y = f y := fun y => by
      by_cases e : y = s
      · rw [e, updF_same]
        cases hf : f s with
        | none => rfl
        | some a =>
          obtain ⟨x, hx, hxe⟩ := h3 s a hf
          exact absurd hxe (h6 x hx)
      · exact updF_other _ _ _ _ e
    refine ⟨w', _, hrun, FnRangeD.congr ⟨es, clock, since, seen, c0, hb', h2, h3, h4, hr', hold, hsc, hsk, rfl, hnd, hseen⟩ (fun y => (hfs y).symm), Nat.le_refl _, ho, hsz⟩
  · have hjl : j < es.toList.length := (List.getElem?_eq_some_iff.1 h6).1
    have hjs : j < es.size := by simpa using hjl
    have hrun2 : ∀ ty, (Builtin.delete_ #[t, k] ty #[.map (some b), M.enc s]).run P w = .ok (.tuple #[]) (setBlock w b (.map (es.eraseIdxIfInBounds j) clock)) := fun ty => by
      simp [Builtin.delete_, run_underlying ht, MapKept.run_getObj_map hb, M.keyed.check w _ hkey, h5, MapKept.run_setObj_map _ hb, Result.andThen, setBlock]
    have he : w' = setBlock w b (.map (es.eraseIdxIfInBounds j) clock) := by
      have := (hrun 0).symm.trans (hrun2 0)
      simpa using this
    have hb' : w'.heap[b]? = some (.map (es.eraseIdxIfInBounds j) clock) := by rw [he]; exact heap_setBlock_same hb _
    have hsub : (es.eraseIdxIfInBounds j).toList = es.toList.eraseIdx j := by
      unfold Array.eraseIdxIfInBounds
      rw [dif_pos hjs]
      simp
    have hsl : (es.eraseIdxIfInBounds j).toList.Sublist es.toList := by rw [hsub]; exact List.eraseIdx_sublist _ _
    obtain ⟨es1, clock1, g1, g2, g3, g4⟩ := hf'
    rw [hb'] at g1
    obtain ⟨rfl, rfl⟩ : es.eraseIdxIfInBounds j = es1 ∧ clock = clock1 := by simpa using g1
    refine ⟨w', _, hrun, ⟨_, clock, since, seen, c0, hb', g2, g3, g4, hr', fun x hx => hold x (hsl.subset hx), hsc, hsk, rfl, hnd, fun x hx => hseen x (hsl.subset hx)⟩, ?_, ho, hsz⟩
    have e1 : ∀ a : Array MapEntry, (leftOf a seen).size = (a.toList.filter fun e => !seen.contains e.born).length := fun a => by
      unfold leftOf
      rw [← Array.toList_filter, Array.length_toList]
    rw [e1, e1]
    exact (hsl.filter _).length_le
end Go.Proofs.YtkfadijcjjdlcaaGreatDoor
namespace Go.Proofs.YtkfadijcjjdlcaaGreatDoor
open Go.RowKit
open Go.Proofs.YtkfadijcjjdlcaaGreatDoor.Sto (St)

/-- What is there when the sums in 'done' have been looked at: all but those of them that V lacks. -/
def Sto.keepF (S : St) (V done : List (List UInt8)) (x : List UInt8) : Option (List UInt8) := if x ∈ done ∧ x ∉ V then none else Sto.look S x
theorem Sto.keepF_nil (S : St) (V : List (List UInt8)) (x : List UInt8) : Sto.keepF S V [] x = Sto.look S x := by simp [Sto.keepF]
theorem Sto.keepF_in (S : St) (V done : List (List UInt8)) (s : List UInt8) (hs : s ∈ V) (x : List UInt8) : Sto.keepF S V done x = Sto.keepF S V (done ++ [s]) x := by
  unfold Sto.keepF
  by_cases h : x = s
  · subst h; simp [hs]
  · simp [h]
theorem Sto.keepF_out (S : St) (V done : List (List UInt8)) (s : List UInt8) (hs : s ∉ V) (x : List UInt8) : updF (Sto.keepF S V done) s none x = Sto.keepF S V (done ++ [s]) x := by
  unfold updF Sto.keepF
  by_cases h : x = s
  · subst h; simp [hs]
  · simp [h]
theorem Sto.keepF_le {S : St} {V done : List (List UInt8)} {x : List UInt8} (h : Sto.keepF S V done x ≠ none) : Sto.look S x ≠ none := by
  unfold Sto.keepF at h
  split at h
  · exact absurd rfl h
  · exact h
theorem filter_both {α : Type} (l : List α) (p : α → Bool) : l.length = (l.filter p).length + (l.filter fun a => !p a).length := by
  induction l with
  | nil => rfl
  | cons a r ih =>
    rw [List.filter_cons, List.filter_cons]
    cases p a <;> simp <;> omega
/-- At the end of the range. -/
theorem Sto.keepF_end {S : St} {l V done : List (List UInt8)} (hS : Sto.Rising S) (hV : ∀ x, x ∈ V ↔ Sto.Reach S l x) (hn : done.Nodup) (hd : ∀ s ∈ done, Sto.look S s ≠ none) (hall : ∀ s, Sto.keepF S V done s ≠ none → s ∈ done) :
    (∀ x, Sto.keepF S V done x = Sto.look (Sto.keepL S l) x) ∧ (done.filter fun s => decide (s ∉ V)).length = S.length - (Sto.keepL S l).length := by
  have hdk : ∀ x, x ∈ done ↔ x ∈ Sto.keys S := fun x => by
    rw [← Sto.look_isSome]
    constructor
    · intro h
      have := hd x h
      cases hl : Sto.look S x with
      | none => exact absurd hl this
      | some t => rfl
    · intro h
      by_cases hx : x ∈ done
      · exact hx
      · refine hall x fun e => hx ?_
        unfold Sto.keepF at e
        rw [if_neg (fun q => hx q.1)] at e
        rw [e] at h; cases h
  constructor
  · intro x
    rw [Sto.look_keepL hS]
    unfold Sto.keepF
    by_cases hr : x ∈ Sto.reachL S l
    · have hv : x ∈ V := (hV x).2 ((Sto.reachL_mem hS l x).1 hr)
      rw [if_pos hr, if_neg (fun q => q.2 hv)]
    · have hv : x ∉ V := fun q => hr ((Sto.reachL_mem hS l x).2 ((hV x).1 q))
      rw [if_neg hr]
      by_cases hx : x ∈ done
      · rw [if_pos ⟨hx, hv⟩]
      · rw [if_neg (fun q => hx q.1), Sto.look_none]
        exact fun q => hx ((hdk x).2 q)
  · have hp : done.Perm (Sto.keys S) := (List.perm_ext_iff_of_nodup hn ((Sto.keys_rise hS).imp fun h => Sto.lt_ne h)).2 hdk
    rw [(hp.filter _).length_eq]
    unfold Sto.keys Sto.keepL
    rw [List.filter_map, List.length_map]
    have h1 : S.filter ((fun s => decide (s ∉ V)) ∘ fun x => x.1) = S.filter fun a => !decide (a.1 ∈ Sto.reachL S l) := by
      refine List.filter_congr fun a _ => ?_
      have : a.1 ∈ V ↔ a.1 ∈ Sto.reachL S l := by rw [hV, Sto.reachL_mem hS]
      simp [this]
    rw [h1]
    have h2 := filter_both S (fun a => decide (a.1 ∈ Sto.reachL S l))
    omega
def StKeepPost (g m : Nat) (S : St) (l : List (List UInt8)) (w : World) (e : Ending) (w' : World) : Prop :=
  e = .returned (.int .i64 ((S.length - (Sto.keepL S l).length : Nat))) ∧ StoreAt w' g m (Sto.keepL S l) ∧ Out (fun i => i = m) w w'
/-- Between two rounds. -/
structure KeepAt (S : St) (V done : List (List UInt8)) (w wr : World) (g m r mr : Nat) (cnt : Nat) : Prop where
  range : FnRangeD storeMap wr m r (Sto.keepF S V done) done cnt
  had : ∀ s ∈ done, Sto.look S s ≠ none
  set : FnAt setMap wr mr (inV V)
  head : wr.heap[g]? = some (.cells #[.map (some m)] 87 (0, 0))
  frame : Out (fun i => i = m) w wr
theorem KeepAt.gone_in {V done : List (List UInt8)} {s : List UInt8} (h : s ∈ V) : ((done ++ [s]).filter fun s => decide (s ∉ V)) = done.filter fun s => decide (s ∉ V) := by
  rw [List.filter_append]; simp [h]
theorem KeepAt.gone_out {V done : List (List UInt8)} {s : List UInt8} (h : s ∉ V) : ((done ++ [s]).filter fun s => decide (s ∉ V)).length = (done.filter fun s => decide (s ∉ V)).length + 1 := by
  rw [List.filter_append]; simp [h]

set_option maxRecDepth 8000 in
set_option maxHeartbeats 2000000 in
theorem stkeep_any (g m : Nat) (S : St) (l : List (List UInt8)) (v : Value) (w : World) (h : StoreAt w g m S) (hv : Strs w v l) (hS : S.length ≤ 50000) (hl : l.length ≤ 10000) (hsh : ∀ x ∈ l, x.length ≤ 140737488351232) :
    Calls Tryz.prog 23 #[.pointer (some ⟨g, 0, none⟩), v] w (StKeepPost g m S l w) := by
  unfold StKeepPost
  have HR := Lib.hid (reached_any g m S l v w h hv hS hl hsh)
  have HH := Lib.hid h
  have HSL := Lib.hid hS
  clear h hv hS hl hsh
  go_enter Tryz.func23, Tryz.ntmps23
  go_wp2_with fail
  refine HR.out.mono ?_
  rintro e w1 ⟨mr, V, rfl, hmr, hm, hnd, hV, hb1⟩
  have h1 := HH.out.below hb1
  have hc := h1.cell
  obtain ⟨w2, cnt2, hrg, hfr2, hb2, hs2⟩ := h1.map.range Tryz.underlying85
  obtain ⟨r, hr⟩ : ∃ r, w1.heap.size = r := ⟨_, rfl⟩
  rw [hr] at hrg hfr2 hb2
  have HV := Lib.hid hV
  have HMR := Lib.hid hmr
  have HWR : Hid (w.heap.size ≤ r) := Lib.hid (by rw [← hr]; exact hb1.size)
  have hb2' : Below w1.heap.size w1 w2 := by rw [hr]; exact hb2
  have HK0 : Hid (KeepAt S V [] w w2 g m r mr cnt2) := Lib.hid ⟨hfr2.weak.congr (fun s => (Sto.keepF_nil S V s).symm), fun s hs => (by cases hs), hm.below hb2', (h1.below hb2').head, (Out.of hb1).trans (Out.of hb2')⟩
  clear hmr hm hnd hV h1 hb1 hfr2 hb2 hs2 hr hb2'
  go_wp2
  clear hrg hc
  go_loopw [6] (fun s wr => ∃ done cnt, KeepAt S V done w wr g m r mr cnt ∧ s = .int .i64 ((done.filter fun s => decide (s ∉ V)).length : Nat)) (fun _ wr => wr.rangeLeft m r)
  case atStart => exact ⟨[], cnt2, HK0.out, rfl⟩
  case round =>
    obtain ⟨done, cnt, hk, rfl⟩ := hrel
    have HK := Lib.hid hk
    obtain ⟨G, hG⟩ : ∃ G, (done.filter fun s => decide (s ∉ V)).length = G := ⟨_, rfl⟩
    have HG := Lib.hid hG
    rw [hG]
    have hdone : done.length ≤ 50000 := by
      have := Sto.le_of_sub (M := Sto.keys S) (l := done) (by obtain ⟨_, _, _, _, _, _, _, _, _, _, _, _, _, _, h, _⟩ := hk.range; exact h) fun x hx => (Sto.look_isSome S x).1 (by
        have := hk.had x hx
        cases hl : Sto.look S x with
        | none => exact absurd hl this
        | some t => rfl)
      have h2 := HSL.out
      simp only [Sto.keys, List.length_map] at this
      omega
    have hGb : (G : Int) ≤ 900000 := by
      have := List.length_filter_le (fun s => decide (s ∉ V)) done
      omega
    have hG0 : (0 : Int) ≤ (G : Int) := by omega
    clear HK0 hG hdone
    rcases hk.range.next 0 with ⟨hall, hrun⟩ | ⟨s, a, w3, cnt3, hf, hok, hnot, hrun, hfr3, hlt, ho, hsz, hen⟩
    · have hnx : ∀ ty, (Instr.next (.pointer (some ⟨r, 0, none⟩)) false ty).run Tryz.prog wr = _ := fun _ => hrun
      have HE := Lib.hid (Sto.keepF_end HH.out.rise HV.out (by obtain ⟨_, _, _, _, _, _, _, _, _, _, _, _, _, _, h, _⟩ := hk.range; exact h) hk.had hall)
      clear hk hall hrun
      go_wp2
      go_ret
      refine ⟨by rw [← HE.out.2, HG.out]; rfl, ⟨HK.out.head, HK.out.range.map.congr HE.out.1, Sto.keepL_rising HH.out.rise l, fun p hp => HH.out.short p (Sto.keepL_sub S l hp)⟩, HK.out.frame⟩
    · dsimp only [storeMap] at hrun hen
      have hnx : ∀ ty, (Instr.next (.pointer (some ⟨r, 0, none⟩)) false ty).run Tryz.prog wr = _ := fun _ => hrun
      have hset3 := hk.set.out ho (fun e => hk.range.no_map hk.set e)
      have hhead3 := ho.heap hk.head (fun e => hk.range.no_cells _ _ _ _ e hk.head)
      have hb4 : Below w3.heap.size w3 (w3.alloc (.cells #[] 90)) := (Below.refl _ w3).alloc (Nat.le_refl _) _
      have hlu := lookU hset3 hok
      have hlk : Sto.look S s ≠ none := Sto.keepF_le (by rw [hf]; simp)
      have hfrm3 : Out (fun i => i = m) w w3 := ⟨ho.os.trans hk.frame.os, ho.tape.trans hk.frame.tape, ho.output.trans hk.frame.output, Nat.le_trans hk.frame.size ho.size, fun i hi hF => (ho.block i (Nat.lt_of_lt_of_le hi hk.frame.size) (fun e => by have := HWR.out; omega)).trans (hk.frame.block i hi hF)⟩
      have HSET := Lib.hid (hset3.below hb4)
      have HHD := Lib.hid ((hb4.block _ (lt_of_heap hhead3)).trans hhead3)
      have HFM := Lib.hid (hfrm3.trans (Out.of hb4))
      have HRG := Lib.hid (hfr3.below hb4)
      have HHAD : Hid (∀ x ∈ done ++ [s], Sto.look S x ≠ none) := Lib.hid (fun x hx => by
        rcases List.mem_append.1 hx with hx | hx
        · exact hk.had x hx
        · obtain rfl : x = s := by simpa using hx
          exact hlk)
      have HLT : Hid (cnt3 < wr.rangeLeft m r) := Lib.hid (by rw [hk.range.left_eq]; exact hlt)
      have HOK := Lib.hid hok
      have hcell4 := cell_of_row _ _ 0 _ _ _ HHD.out
      simp only [List.getElem?_toArray, List.getElem?_cons_zero] at hcell4
      clear hk hf hnot hrun hfr3 hlt ho hsz hset3 hhead3 hb4 hlk hfrm3 hok
      by_cases hin : s ∈ V
      · rw [decide_eq_true hin] at hlu
        have HIN := Lib.hid hin
        clear hin
        go_wp2
        refine ⟨⟨done ++ [s], cnt3, ⟨HRG.out.congr (Sto.keepF_in S V done s HIN.out), HHAD.out, HSET.out, HHD.out, HFM.out⟩, ?_⟩, ?_⟩
        · rw [KeepAt.gone_in HIN.out, HG.out]
        · rw [HRG.out.left_eq]; exact HLT.out
      · rw [decide_eq_false hin] at hlu
        have HIN := Lib.hid hin
        obtain ⟨w5, cnt5, hrd, hfr5, hle5, ho5, hsz5⟩ := HRG.out.drop Tryz.underlying85 HOK.out
        dsimp only [storeMap] at hrd
        have HRD := Lib.hid hrd
        have HK5 : Hid (KeepAt S V (done ++ [s]) w w5 g m r mr cnt5) := Lib.hid ⟨hfr5.congr (Sto.keepF_out S V done s hin), HHAD.out, HSET.out.out ho5 (fun e => by have := HMR.out; have := HH.out.mlt; omega), ho5.heap HHD.out (fun e => HRG.out.map.no_cells _ _ _ _ e HHD.out), HFM.out.trans ho5⟩
        have HLE := Lib.hid hle5
        clear hin hrd hfr5 hle5 ho5 hsz5
        go_wp2_with (at_delete; refine wpList_delete_run rfl _ _ _ _ rfl (.map (some m)) (.string ⟨s.toArray⟩) (by rfl) (by rfl) HRD.out ?_)
        refine ⟨⟨done ++ [s], cnt5, HK5.out, ?_⟩, ?_⟩
        · rw [KeepAt.gone_out HIN.out, HG.out]
          go_num
        · rw [HK5.out.range.left_eq]; exact Nat.lt_of_le_of_lt HLE.out HLT.out
end Go.Proofs.YtkfadijcjjdlcaaGreatDoor
namespace Go.Proofs.YtkfadijcjjdlcaaGreatDoor
open Go.RowKit
open Sto (T St)

/-- The versions in block g: the store in gs (its map ms), the roots in mr, the greatest number that was pruned. -/
structure VHeld (w : World) (g gs ms mr : Nat) (lo : Int) (m : Ver.M) : Prop where
  head : w.heap[g]? = some (.cells #[.pointer (some ⟨gs, 0, none⟩), .map (some mr), .int .i64 m.newest, .int .i64 lo] 58 (0, 0))
  store : StoreAt w gs ms m.st
  roots : RootsAt w mr m
  low : max lo 0 = m.low
  good : m.Good
  apart : mr ≠ ms
/-- The blocks that may change. -/
def held (g gs ms mr : Nat) (k : Nat) : Prop := k = g ∨ k = gs ∨ k = ms ∨ k = mr
def VAt (w : World) (F : Nat → Prop) (g : Nat) (m : Ver.M) : Prop := ∃ gs ms mr lo, VHeld w g gs ms mr lo m ∧ F = held g gs ms mr
theorem VHeld.bare {w : World} {g gs ms mr : Nat} {lo : Int} {m : Ver.M} (h : VHeld w g gs ms mr lo m) : ∀ k, held g gs ms mr k → ∀ cs t f, w.heap[k]? = some (.cells cs t f) → t ≠ 80 ∧ t ≠ 61 := by
  intro k hk cs t f he
  rcases hk with rfl | rfl | rfl | rfl
  · rw [h.head] at he; cases he; decide
  · rw [h.store.head] at he; cases he; decide
  · exact absurd he (h.store.map.no_cells _ _ _ _ rfl)
  · exact absurd he (FnAt.no_cells h.roots _ _ _ _ rfl)
theorem VHeld.old {w : World} {g gs ms mr : Nat} {lo : Int} {m : Ver.M} (h : VHeld w g gs ms mr lo m) : ∀ k, held g gs ms mr k → k < w.heap.size := by
  intro k hk
  rcases hk with rfl | rfl | rfl | rfl
  · exact lt_of_heap h.head
  · exact h.store.glt
  · exact h.store.mlt
  · exact FnAt.lt h.roots
theorem VHeld.part {w w' : World} {g gs ms mr : Nat} {lo : Int} {m : Ver.M} {G : Nat → Prop} (h : VHeld w g gs ms mr lo m) (ho : Out G w w') (hG : ∀ k, G k → ¬ held g gs ms mr k) : VHeld w' g gs ms mr lo m :=
  ⟨ho.heap h.head fun e => hG _ e (Or.inl rfl), h.store.out ho (fun e => hG _ e (Or.inr (Or.inl rfl))) (fun e => hG _ e (Or.inr (Or.inr (Or.inl rfl)))), h.roots.out ho (fun e => hG _ e (Or.inr (Or.inr (Or.inr rfl)))), h.low, h.good, h.apart⟩
theorem VHeld.below {w w' : World} {g gs ms mr : Nat} {lo : Int} {m : Ver.M} (h : VHeld w g gs ms mr lo m) (hb : Below w.heap.size w w') : VHeld w' g gs ms mr lo m := h.part (G := fun _ => False) (Out.of hb) fun _ hk => hk.elim
section
variable {w : World} {g gs ms mr : Nat} {lo : Int} {m : Ver.M}
theorem VHeld.c0 (h : VHeld w g gs ms mr lo m) : w.cell? ⟨g, 0, none⟩ = some (.pointer (some ⟨gs, 0, none⟩)) := by rw [cell_of_row _ _ _ _ _ _ h.head]; rfl
theorem VHeld.c1 (h : VHeld w g gs ms mr lo m) : w.cell? ⟨g, 1, none⟩ = some (.map (some mr)) := by rw [cell_of_row _ _ _ _ _ _ h.head]; rfl
theorem VHeld.c2 (h : VHeld w g gs ms mr lo m) : w.cell? ⟨g, 2, none⟩ = some (.int .i64 m.newest) := by rw [cell_of_row _ _ _ _ _ _ h.head]; rfl
theorem VHeld.c3 (h : VHeld w g gs ms mr lo m) : w.cell? ⟨g, 3, none⟩ = some (.int .i64 lo) := by rw [cell_of_row _ _ _ _ _ _ h.head]; rfl
theorem VHeld.under (h : VHeld w g gs ms mr lo m) {x : Int} (hx : 0 ≤ x) : x < m.low ↔ x < lo := by
  rw [← h.low]
  omega
end
theorem findR_short {m : Ver.M} (g : m.Good) (y : Int) : (m.findR y).length ≤ 32 := by
  unfold Ver.M.findR
  cases hf : m.find y with
  | none => simp
  | some I =>
    obtain ⟨t, ht⟩ := g.tree _ (Ver.M.find_mem hf)
    exact root_short ht
set_option maxRecDepth 100000 in
theorem vnew_any (w : World) : Calls Tryz.prog 8 #[] w fun e w' => ∃ v F, e = .returned (ptr v) ∧ VAt w' F v .zero ∧ (∀ k, F k → w.heap.size ≤ k) ∧ Below w.heap.size w w' := by
  have hmm := @run_makeMap Tryz.prog
  have HS := Lib.hid (fun w => stnew_any w)
  unfold StNewPost at HS
  unfold ptr
  go_enter Tryz.func8, Tryz.ntmps8
  go_wp2_with fail
  refine (HS.out _).mono ?_
  rintro e w1 ⟨gs, ms, rfl, hgs, hms, hst, hb1⟩
  have HST := Lib.hid hst
  have HB1 := Lib.hid hb1
  clear hst hb1
  go_wp2
  go_ret
  have hb2 : Below w1.heap.size w1 (w1.alloc (.map #[] 0)) := (Below.refl _ w1).alloc (Nat.le_refl _) _
  obtain ⟨w2, hw2⟩ : ∃ w2, w1.alloc (.map #[] 0) = w2 := ⟨_, rfl⟩
  have hr2 : RootsAt w2 w1.heap.size .zero := by rw [← hw2]; exact RootsAt.made w1 w1.heap.size rfl
  have s2 : w2.heap.size = w1.heap.size + 1 := by rw [← hw2]; simp
  rw [hw2] at hb2 ⊢
  have hb3 : Below w2.heap.size w2 (w2.alloc (.cells #[.pointer (some ⟨gs, 0, none⟩), .map (some w1.heap.size), .int .i64 (-9223372036854775808), .int .i64 (-9223372036854775808)] 58)) := (Below.refl _ w2).alloc (Nat.le_refl _) _
  have s0 := HB1.out.size
  refine ⟨w1.heap.size + 1, _, rfl, ⟨gs, ms, w1.heap.size, -9223372036854775808, ⟨by rw [← s2]; exact heap_alloc_new w2 _, HST.out.below (bchain hb2 hb3), ?_, rfl, Ver.M.Good.zero, fun e => by have := HST.out.mlt; omega⟩, rfl⟩, fun k hk => ?_, bchain HB1.out (bchain hb2 hb3)⟩
  · exact hr2.out (F := fun _ => False) (Out.of hb3) id
  · rcases hk with rfl | rfl | rfl | rfl <;> omega
set_option maxRecDepth 100000 in
set_option maxHeartbeats 1000000 in
theorem vroot_any {w : World} {g gs ms mr : Nat} {lo : Int} {m : Ver.M} (h : VHeld w g gs ms mr lo m) (x : Int) (h0 : 0 ≤ x) (hx : (Lit.int .i64 x).wf = true) :
    Calls Tryz.prog 16 #[ptr g, .int .i64 x] w fun e w' => e = .returned (.tuple #[.string ⟨(m.findR x).toArray⟩, .int .i64 (m.findC x)]) ∧ Below w.heap.size w w' := by
  have c1 := h.c1
  have hlook := h.roots.look x hx
  have hund := h.under h0
  have hsh := findR_short h.good x
  unfold Ver.M.findC
  unfold ptr
  obtain ⟨R, hR⟩ : ∃ R, m.findR x = R := ⟨_, rfl⟩
  have hR0 : m.find x = none → R = [] := fun e => by rw [← hR]; unfold Ver.M.findR; rw [e]
  rw [hR] at hlook hsh ⊢
  have HC := Lib.hid (fun w => dclone_any R w (by omega))
  have hBA : Below w.heap.size w (w.alloc (.cells #[.string ⟨R.toArray⟩] 63)) := (Below.refl _ w).alloc (Nat.le_refl _) _
  have c3 := (h.below hBA).c3
  have HB := Lib.hid hBA
  clear h hx hsh hR hBA h0
  cases hf : m.find x with
  | some I =>
    rw [hf] at hlook
    dsimp only [Option.isSome] at hlook ⊢
    clear hR0 hund c3
    go_enter Tryz.func16, Tryz.ntmps16
    go_wp2_with fail
    refine (HC.out _).mono ?_
    rintro e w1 ⟨rfl, hb1⟩
    go_wp2
    go_ret2
    exact ⟨rfl, bchain HB.out hb1⟩
  | none =>
    rw [hf] at hlook
    obtain rfl := hR0 hf
    dsimp only [Option.isSome] at hlook ⊢
    clear hR0
    by_cases hl : x < m.low
    · have hl2 := hund.1 hl
      simp only [if_neg (show ¬ (false = true) by simp), if_pos hl]
      clear hund hl
      go_enter Tryz.func16, Tryz.ntmps16
      go_wp2
      go_ret2
      exact ⟨rfl, HB.out⟩
    · have hl2 := fun e => hl (hund.2 e)
      simp only [if_neg (show ¬ (false = true) by simp), if_neg hl]
      clear hund hl
      go_enter Tryz.func16, Tryz.ntmps16
      go_wp2
      go_ret2
      exact ⟨rfl, HB.out⟩
set_option maxRecDepth 100000 in
set_option maxHeartbeats 1000000 in
theorem vheights_any {w : World} {g gs ms mr : Nat} {lo : Int} {m : Ver.M} (h : VHeld w g gs ms mr lo m) (hl : m.vs.length ≤ 100) :
    Calls Tryz.prog 14 #[ptr g] w fun e w' => ∃ z, e = .returned z ∧ IntsO w' w.heap.size z (m.vs.map (·.1)) ∧ Below w.heap.size w w' := by
  have c1 := h.c1
  have hB := (Below.refl w.heap.size w).alloc (Nat.le_refl _) (.cells #[.map (some mr)] 56)
  have HS := Lib.hid (sortedI_any ((h.below hB).roots) h.good (q := w.heap.size) (cell_of_row _ _ _ _ _ _ (heap_new_at w _ _ rfl)) (by omega))
  have HK := Lib.hid (fun w => shelf_keysI (some mr) w)
  have HB := Lib.hid hB
  unfold ptr
  clear h hl hB
  go_enter Tryz.func14, Tryz.ntmps14
  go_wp2_with fail
  refine (HK.out _).mono ?_
  rintro e w1 ⟨rfl, rfl⟩
  go_wp2_with fail
  refine HS.out.mono ?_
  rintro e w2 ⟨z, rfl, hz, hb2⟩
  go_wp2
  go_ret
  exact ⟨z, rfl, ownsRow_base_a hz (by simp), bchain HB.out hb2⟩
set_option maxRecDepth 100000 in
set_option maxHeartbeats 1000000 in
theorem vtexts_any {w : World} {g gs ms mr : Nat} {lo : Int} {m : Ver.M} (h : VHeld w g gs ms mr lo m) (hl : m.st.length ≤ 40000) :
    Calls Tryz.prog 21 #[ptr g] w fun e w' => e = .returned (.int .i64 m.st.length) ∧ Below w.heap.size w w' := by
  have c0 := h.c0
  have HS := Lib.hid (stsums_any gs ms m.st w h.store (by omega))
  unfold RowPost at HS
  have hkl : (Sto.keys m.st).length = m.st.length := by unfold Sto.keys; simp
  rw [← hkl]
  unfold ptr
  clear h hl hkl
  go_enter Tryz.func21, Tryz.ntmps21
  go_wp2_with fail
  refine HS.out.mono ?_
  rintro e w1 ⟨v, rfl, hown, hb⟩
  obtain ⟨A, cap, rfl⟩ := own_form hown
  clear hown
  go_wp2
  go_ret
  exact ⟨rfl, hb⟩
set_option maxRecDepth 100000 in
set_option maxHeartbeats 1000000 in
theorem vat_any {w : World} {g gs ms mr : Nat} {lo : Int} {m : Ver.M} (h : VHeld w g gs ms mr lo m) (x : Int) (h0 : 0 ≤ x) (hx : (Lit.int .i64 x).wf = true) :
    Calls Tryz.prog 15 #[ptr g, .int .i64 x] w (AtPost m x w) := by
  have HR := Lib.hid (vroot_any h x h0 hx)
  unfold AtPost
  unfold Ver.M.findC Ver.M.findR at HR
  unfold ptr at HR ⊢
  cases hf : m.find x with
  | some I =>
    rw [hf] at HR
    dsimp only [Option.isSome] at HR ⊢
    obtain ⟨t, ht⟩ := h.good.tree _ (Ver.M.find_mem hf)
    have hsh := root_short ht
    have HO := Lib.hid h.good.own
    have HL := Lib.hid (fun w' (hb : Below w.heap.size w w') => tload_any (rootS I) w' (h.below hb).store HO.out hsh)
    unfold LoadPost at HL ⊢
    have HG : Hid (∀ w', Below w.heap.size w w' → w'.cell? ⟨g, 0, none⟩ = some (.pointer (some ⟨gs, 0, none⟩))) := Lib.hid (fun w' hb => (h.below hb).c0)
    clear h hsh ht
    go_enter Tryz.func15, Tryz.ntmps15
    go_wp2_with fail
    refine HR.out.mono ?_
    rintro e w1 ⟨rfl, hb1⟩
    have c0 := HG.out w1 hb1
    have HB1 := Lib.hid hb1
    clear hb1
    go_wp2_with fail
    refine (HL.out w1 HB1.out).mono ?_
    rintro e w2 ⟨z, c, rfl, hb2, hq⟩
    have HB2 := Lib.hid hb2
    have HQ := Lib.hid hq
    clear hb2 hq
    go_wp2
    go_ret2
    exact ⟨z, c, rfl, bchain HB1.out HB2.out, HQ.out⟩
  | none =>
    rw [hf] at HR
    dsimp only [Option.isSome] at HR ⊢
    unfold Ver.M.findC nilp
    rw [hf]
    dsimp only [Option.isSome]
    by_cases hl : x < m.low
    · simp only [if_neg (show ¬ (false = true) by simp), if_pos hl] at HR ⊢
      clear h
      go_enter Tryz.func15, Tryz.ntmps15
      go_wp2_with fail
      refine HR.out.mono ?_
      rintro e w1 ⟨rfl, hb1⟩
      go_wp2
      go_ret2
      exact ⟨rfl, hb1⟩
    · simp only [if_neg (show ¬ (false = true) by simp), if_neg hl] at HR ⊢
      clear h
      go_enter Tryz.func15, Tryz.ntmps15
      go_wp2_with fail
      refine HR.out.mono ?_
      rintro e w1 ⟨rfl, hb1⟩
      go_wp2
      go_ret2
      exact ⟨rfl, hb1⟩
end Go.Proofs.YtkfadijcjjdlcaaGreatDoor
namespace Go.Proofs.YtkfadijcjjdlcaaGreatDoor
open Go.RowKit
open Sto (T St)

theorem own_keep {F : Nat → Prop} {w w' : World} {B : Nat} {z : Value} {L : List T} (h : Own w B z L) (ho : Out F w w') (hF : ∀ k, z.ownBlock = some k → ¬ F k) : Own w' B z L := by
  refine ⟨h.1, ?_⟩
  rcases h.2 with h0 | ⟨g, cap, cur, hv, hB, hh, hr⟩
  · exact Or.inl h0
  · exact Or.inr ⟨g, cap, cur, hv, hB, ho.heap hh (hF g (by rw [hv]; rfl)), hr⟩
theorem own_blk {w : World} {B : Nat} {z : Value} {L : List T} (h : Own w B z L) (k : Nat) (hk : z.ownBlock = some k) : B ≤ k ∧ k < w.heap.size := World.ownsRow.lt h k hk
theorem own_cells {w : World} {B : Nat} {z : Value} {L : List T} (h : Own w B z L) (k : Nat) (hk : z.ownBlock = some k) : ∃ cur, w.heap[k]? = some (.cells cur 9 (0, 0)) := by
  rcases h.2 with ⟨rfl, _⟩ | ⟨g, cap, cur, rfl, hB, hh, _⟩
  · cases hk
  · obtain rfl : g = k := by simpa [Value.ownBlock] using hk
    exact ⟨cur, hh⟩
/-- The memory: the versions n, the map of the tries V, the law's own trie S, the texts C. -/
structure SM (VAt : World → (Nat → Prop) → Nat → Ver.M → Prop) (B g : Nat) (w : World) (n : Ver.M) (F : Nat → Prop) (gn mb : Nat) (tz : Value) (C : List T) (V : List (Int × St)) (S : St) : Prop where
  at_ : VAt w F g n
  low : ∀ k, F k → B ≤ k
  tab : Tab w
  was : WasAt w mb V
  wasF : ¬ F mb
  wasB : B ≤ mb
  now : TrAt w gn S
  own : Own w B tz C
  ownF : ∀ k, tz.ownBlock = some k → ¬ F k
variable {VAt : World → (Nat → Prop) → Nat → Ver.M → Prop}
theorem SM.below (HV : VerOkL VAt) {B g : Nat} {w w' : World} {n : Ver.M} {F : Nat → Prop} {gn mb : Nat} {tz : Value} {C : List T} {V : List (Int × St)} {S : St} (h : SM VAt B g w n F gn mb tz C V S) (hb : Below w.heap.size w w') : SM VAt B g w' n F gn mb tz C V S :=
  ⟨HV.keep h.at_ hb, h.low, h.tab.below hb, h.was.below hb, h.wasF, h.wasB, h.now.below hb, own_keep (F := fun _ => False) h.own (Out.of hb) (fun _ _ => id), h.ownF⟩
/-- The program's versions change. -/
theorem SM.step (HV : VerOkL VAt) {B g : Nat} {w w' : World} {n n' : Ver.M} {F : Nat → Prop} {gn mb : Nat} {tz : Value} {C : List T} {V : List (Int × St)} {S : St} (h : SM VAt B g w n F gn mb tz C V S) (hn : VNext VAt w F g n' w') (hB : B ≤ w.heap.size) :
    ∃ F', SM VAt B g w' n' F' gn mb tz C V S ∧ Below B w w' := by
  have hb := next_below hn h.low hB
  obtain ⟨F', h1, h2, h3, h4⟩ := hn
  have hnew : ∀ k, k < w.heap.size → ¬ F k → ¬ F' k := fun k hk hf e => by
    rcases h3 k e with h | h
    · exact hf h
    · omega
  exact ⟨F', ⟨h1, fun k hk => (h3 k hk).elim (h.low k) (Nat.le_trans hB), h4, h.was.outB h2 h.wasF (HV.bare h.at_), hnew mb h.was.lt h.wasF, h.wasB, h.now.outB h2 (HV.bare h.at_), own_keep h.own h2 h.ownF, fun k hk => hnew k (own_blk h.own k hk).2 (h.ownF k hk)⟩, hb⟩
theorem SM.trie {B g : Nat} {w : World} {n : Ver.M} {F : Nat → Prop} {gn gn' mb : Nat} {tz : Value} {C : List T} {V : List (Int × St)} {S S' : St} (h : SM VAt B g w n F gn mb tz C V S) (ht : TrAt w gn' S') : SM VAt B g w n F gn' mb tz C V S' :=
  ⟨h.at_, h.low, h.tab, h.was, h.wasF, h.wasB, ht, h.own, h.ownF⟩
/-- The law's own trie is put into its map. -/
theorem SM.put (HV : VerOkL VAt) {B g : Nat} {w : World} {n : Ver.M} {F : Nat → Prop} {gn mb : Nat} {tz : Value} {C : List T} {V : List (Int × St)} {S : St} {x : Int} (h : SM VAt B g w n F gn mb tz C V S) (hh : (Lit.int .i64 x).wf = true) (hL : ∀ y ∈ V, y.1 < x) (hB : B ≤ w.heap.size) :
    ∃ w', (Instr.mapUpdate 27 (.map (some mb)) (.int .i64 x) (.pointer (some ⟨gn, 0, none⟩))).run Tryz.prog w = .ok () w' ∧ SM VAt B g w' n F gn mb tz C (V ++ [(x, S)]) S ∧ Below B w w' := by
  obtain ⟨w', r1, r2, r3⟩ := h.was.put hh hL h.now
  have hnc := h.was.no_cells
  have hty : ∀ k, (fun i => i = mb) k → ∀ cs t f, w.heap[k]? = some (.cells cs t f) → t ≠ 80 ∧ t ≠ 61 := fun k hk cs t f e => absurd (by rw [← show k = mb from hk]; exact e) (hnc cs t f)
  refine ⟨w', r1, ⟨HV.part h.at_ r3 (fun k hk => ⟨by rw [show k = mb from hk]; exact h.wasF, hty k hk⟩), h.low, ?_, r2, h.wasF, h.wasB, h.now.outB r3 hty, own_keep h.own r3 (fun k hk e => ?_), h.ownF⟩, r3.below (fun k hk => by rw [show k = mb from hk]; exact h.wasB) hB⟩
  · obtain ⟨f, hf, _⟩ := h.was
    exact tab_out h.tab hf r3
  · obtain ⟨cur, hc⟩ := own_cells h.own k hk
    exact hnc cur _ _ (by rw [← show k = mb from e]; exact hc)
end Go.Proofs.YtkfadijcjjdlcaaGreatDoor
