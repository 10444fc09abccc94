/- CertTable, SortShelf, Sorted, CertBase, PowTotal, PowOf -/
import Derived.Test.YtojpkodmpjibkaaDoorPk03
import Derived.Test.YtojpkodmpjibkaaDoorPk06
import Derived.Shelf.Strconv.Itoa0
import Derived.Shelf.LaysM
import Derived.Shelf.Strconv.Clone
import Derived.Shelf.Sort.Plain
import Derived.Shelf.Slices.In.SortNone
import Derived.Test.YtojpkodmpjibkaaDoorChecked
import Derived.Test.YtojpkodmpjibkaaDoorPk02
import Derived.Test.YtojpkodmpjibkaaDoorPk05
import Derived.Deep.QuietTactic
import Derived.WalkSpells
import Derived.WalkLawsBesides
import Derived.Lib.Strings
namespace Go.Proofs.YtojpkodmpjibkaaDoor
open Go.RowKit
open Go.Proofs.YtojpkodmpjibkaaDoor.Ora (K Sig)

def Ct.stepT (T : List Sig) (s : Ct.St) : List Sig := if Ct.markC s.tag s.sum = 0 then (Ora.signP T (s.who, Ct.markP s.tag s.sum) (!s.dis)).1 else T
def Ct.fillT (L : List Ct.St) : List Sig := L.foldl Ct.stepT []
theorem Ct.fill_take (L : List Ct.St) (k : Nat) (hk : k < L.length) : Ct.fillT (L.take (k + 1)) = Ct.stepT (Ct.fillT (L.take k)) L[k] := by
  unfold Ct.fillT
  rw [List.take_succ_eq_append_getElem hk, List.foldl_append]
  rfl
theorem Ct.step_rising {T : List Sig} (h : Ora.Rising T) (s : Ct.St) : Ora.Rising (Ct.stepT T s) := by
  unfold Ct.stepT
  split
  · exact Ora.sign_rising h _ _
  · exact h
theorem Ct.step_length (T : List Sig) (s : Ct.St) : (Ct.stepT T s).length ≤ T.length + 1 := by
  unfold Ct.stepT
  split
  · exact Ora.sign_length _ _ _
  · omega
theorem Ct.fold_length (L : List Ct.St) (T : List Sig) : (L.foldl Ct.stepT T).length ≤ T.length + L.length := by
  induction L generalizing T with
  | nil => simp
  | cons a L ih =>
    have h1 := ih (Ct.stepT T a)
    have h2 := Ct.step_length T a
    simp only [List.foldl_cons, List.length_cons]
    omega
theorem Ct.fill_length (L : List Ct.St) : (Ct.fillT L).length ≤ L.length := by simpa [Ct.fillT] using Ct.fold_length L []
theorem take30 {α : Type} (L : List α) (n k : Nat) (h40 : k ≤ n) (hL : k ≤ L.length) (h : ¬ (k < L.length ∧ k < n)) : L.take k = L.take n := by
  by_cases e : k = n
  · rw [e]
  · rw [List.take_of_length_le (by omega), List.take_of_length_le (by omega)]

theorem own_low {w : World} {B B' : Nat} {s : Value} {L : List Sig} (h : OwnS w B s L) (hB : B' ≤ B) : OwnS w B' s L := by
  refine ⟨h.1, ?_⟩
  rcases h.2 with hn | ⟨k, cap, cur, hv, hb, hk, hr⟩
  · exact Or.inl hn
  · exact Or.inr ⟨k, cap, cur, hv, Nat.le_trans hB hb, hk, hr⟩
/-- A table of the call's own, and its signatures. -/
def TablePost (w : World) (S : List Sig) (e : Ending) (w' : World) : Prop :=
  ∃ g m s, e = .returned (.tuple #[.pointer (some ⟨g, 0, none⟩), s]) ∧ w.heap.size ≤ g ∧ w.heap.size ≤ m ∧ TabAt w' g m S ∧ OwnS w' w.heap.size s S ∧ Below w.heap.size w w'

set_option maxRecDepth 100000 in
set_option maxHeartbeats 1000000 in
theorem table_any (L : List Ct.St) (v : Value) (w : World) (hv : Css w v L) (hok : ∀ s ∈ L, OkCs s) :
    Calls Tryd.prog 11 #[v] w (TablePost w (Ct.fillT (L.take 30))) := by
  unfold TablePost
  have HV := Lib.hid hv
  have HOK := Lib.hid hok
  obtain ⟨A, cap, rfl⟩ := hv.form
  clear hv hok
  go_enter Tryd.func11, Tryd.ntmps11
  go_wp2_with fail
  refine (new_any _).mono ?_
  rintro e w1 ⟨g, m, rfl, hg, hm, ht, hb⟩
  have HT := Lib.hid ht
  have HB := Lib.hid hb
  have HM := Lib.hid hm
  have HG := Lib.hid hg
  clear ht hb hg hm
  go_wp2
  go_loopw [5] (fun i wr => ∃ k : Nat, k ≤ 30 ∧ k ≤ L.length ∧ i = .int .i64 k ∧ TabAt wr g m (Ct.fillT (L.take k)) ∧ Below w.heap.size w wr) (fun i _ => 30 - (intOf i).toNat)
  case atStart => exact ⟨0, by omega, Nat.zero_le _, rfl, HT.out, HB.out⟩
  case round =>
    obtain ⟨k, hk40, hkL, rfl, ht, hb⟩ := hrel
    have HTk := Lib.hid ht
    have HBk := Lib.hid hb
    clear ht hb HT HB
    by_cases hlt : k < L.length ∧ k < 30
    · have h1 : (k : Int) < (L.length : Int) := by omega
      have h2 : (k : Int) < 30 := by omega
      have h0 : (0 : Int) ≤ (k : Int) := by omega
      obtain ⟨b, o, rfl, hblt, -⟩ := HV.out.at (Below.refl _ w) k hlt.1
      have HC : Hid (∀ w', Below w.heap.size w w' → w'.cell? ⟨b, o + k * 4, none⟩ = some (.int .i64 L[k].tag) ∧ w'.cell? ⟨b, o + k * 4 + 2, none⟩ = some (.string ⟨L[k].sum.toArray⟩)) :=
        Lib.hid (fun w' hb => by obtain ⟨b', o', he, _, q1, q2, q3, _⟩ := HV.out.at hb k hlt.1; cases he; exact ⟨q1, q3⟩)
      have HC2 : Hid (∀ w', Below w.heap.size w w' → w'.cell? ⟨b, o + k * 4 + 1, none⟩ = some (.string ⟨L[k].who.toArray⟩) ∧ w'.cell? ⟨b, o + k * 4 + 3, none⟩ = some (.bool L[k].dis)) :=
        Lib.hid (fun w' hb => by obtain ⟨b', o', he, _, q1, q2, q3, q4⟩ := HV.out.at hb k hlt.1; cases he; exact ⟨q2, q4⟩)
      have HS := Lib.hid (Ct.fill_take L k hlt.1)
      have HO := Lib.hid (HOK.out L[k] (List.getElem_mem hlt.1))
      obtain ⟨⟨tg, x, d, ds⟩, hs⟩ : ∃ s, L[k] = s := ⟨_, rfl⟩
      rw [hs] at HC HC2 HS HO
      dsimp only at HC HC2
      obtain ⟨S, hS⟩ : ∃ S, Ct.fillT (L.take k) = S := ⟨_, rfl⟩
      rw [hS] at HTk HS
      unfold Ct.stepT at HS
      dsimp only at HS
      have HMK := Lib.hid (fun w => rMark_any tg d w)
      obtain ⟨c0, c1⟩ := HC.out wr HBk.out
      have HBD : Hid (Below w.heap.size w wr.drew) := Lib.hid HBk.out.drew
      have HTD : Hid (TabAt wr.drew g m S) := Lib.hid (HTk.out.below (Below.refl _ wr).drew)
      clear hs hS hblt
      by_cases hmc : Ct.markC tg d = 0
      · rw [if_pos hmc] at HS
        rw [hmc, show Ct.markR tg d = Ct.markP tg d by simp [Ct.markR, hmc]] at HMK
        have hml : (Ct.markP tg d).length = 32 := Sha.sumP_length _
        obtain ⟨mk, hm⟩ : ∃ m, Ct.markP tg d = m := ⟨_, rfl⟩
        rw [hm] at HMK HS hml
        have HSG := Lib.hid (fun w ht => sign_any g m S (x, mk) (!ds) w ht ⟨HO.out.who, by dsimp only; omega⟩)
        dsimp only at HSG
        clear hm hml hmc
        go_wp2
        go_region_held3 (fun w' => w'.cell? ⟨b, o + k * 4, none⟩ = some (.int .i64 tg) ∧ w'.cell? ⟨b, o + k * 4 + 2, none⟩ = some (.string ⟨d.toArray⟩))
          ((refine HC.out _ ?_; with_reducible (first | exact hB2 | exact HBD.out | fail)))
          ((go_at_call 14; refine (HMK.out _).mono ?_; rintro e w2 ⟨rfl, hb2⟩; (have hB2 : Below w.heap.size w w2 := bchain HBD.out hb2); (have HT2 := Lib.hid (HTD.out.below hb2)); clear hb2))
        all_goals
          obtain ⟨c2, c3⟩ := HC2.out w2 hB2
          have HBD2 : Hid (Below w.heap.size w w2.drew) := Lib.hid hB2.drew
          have HTD2 : Hid (TabAt w2.drew g m S) := Lib.hid (HT2.out.below (Below.refl _ w2).drew)
          go_wp2
          go_region_held3 (fun w' => w'.cell? ⟨b, o + k * 4 + 1, none⟩ = some (.string ⟨x.toArray⟩) ∧ w'.cell? ⟨b, o + k * 4 + 3, none⟩ = some (.bool ds))
            ((refine HC2.out _ ?_; with_reducible (first | exact hB3 | exact HBD2.out | fail)))
            ((go_at_call 34; refine (HSG.out _ HTD2.out).mono ?_; rintro e w3 ⟨rfl, ht3, ho3⟩; (have hB3 : Below w.heap.size w w3 := bsign HBD2.out HM.out (Nat.le_refl _) ho3); (have HT3 := Lib.hid ht3); clear ht3 ho3))
          all_goals
            go_wp2
            exact ⟨⟨k + 1, by omega, by omega, by go_num, by rw [HS.out]; exact HT3.out, hB3⟩, by simp [intOf]; omega⟩
      · rw [if_neg hmc] at HS
        obtain ⟨mc, hmce⟩ : ∃ c, Ct.markC tg d = c := ⟨_, rfl⟩
        obtain ⟨mr, hmre⟩ : ∃ c, Ct.markR tg d = c := ⟨_, rfl⟩
        rw [hmce, hmre] at HMK
        rw [hmce] at hmc
        have hm1 : (mc == 0) = false := by rw [beq_eq_false_iff_ne]; exact hmc
        clear hmce hmre
        go_wp2
        go_region_held3 (fun w' => w'.cell? ⟨b, o + k * 4, none⟩ = some (.int .i64 tg) ∧ w'.cell? ⟨b, o + k * 4 + 2, none⟩ = some (.string ⟨d.toArray⟩))
          ((refine HC.out _ ?_; with_reducible (first | exact hB2 | exact HBD.out | fail)))
          ((go_at_call 14; refine (HMK.out _).mono ?_; rintro e w2 ⟨rfl, hb2⟩; (have hB2 : Below w.heap.size w w2 := bchain HBD.out hb2); (have HT2 := Lib.hid (HTD.out.below hb2)); clear hb2))
        all_goals
          go_wp2
          exact ⟨⟨k + 1, by omega, by omega, by go_num, by rw [HS.out]; exact HT2.out, hB2⟩, by simp [intOf]; omega⟩
    · have hT := take30 L 30 k hk40 hkL hlt
      rw [hT] at HTk
      have HLN : Hid ((Ct.fillT (L.take 30)).length ≤ 1000000) := Lib.hid (by
        have h1 := Ct.fill_length (L.take 30)
        simp at h1
        omega)
      have HALL := Lib.hid (fun w ht => all_any g m (Ct.fillT (L.take 30)) w ht HLN.out)
      unfold AllPost at HALL
      obtain ⟨S, hS⟩ : ∃ S, Ct.fillT (L.take 30) = S := ⟨_, rfl⟩
      rw [hS] at HTk HALL
      have HSS := Lib.hid hS
      have HSZ : Hid (w.heap.size ≤ wr.heap.size) := Lib.hid HBk.out.size
      by_cases hc : k < L.length
      · have h1 : (k : Int) < (L.length : Int) := by omega
        have h2 : ¬ ((k : Int) < 30) := by omega
        clear hT hlt hc hS
        go_wp2_with fail
        refine (HALL.out _ HTk.out).mono ?_
        rintro e w2 ⟨s, rfl, hown, hb2⟩
        go_wp2
        go_ret2
        exact ⟨g, m, s, rfl, HG.out, HM.out, by rw [HSS.out]; exact HTk.out.below hb2, by rw [HSS.out]; exact own_low hown HSZ.out, bchain HBk.out hb2⟩
      · have h1 : ¬ ((k : Int) < (L.length : Int)) := by omega
        clear hT hlt hc hS
        go_wp2_with fail
        refine (HALL.out _ HTk.out).mono ?_
        rintro e w2 ⟨s, rfl, hown, hb2⟩
        go_wp2
        go_ret2
        exact ⟨g, m, s, rfl, HG.out, HM.out, by rw [HSS.out]; exact HTk.out.below hb2, by rw [HSS.out]; exact own_low hown HSZ.out, bchain HBk.out hb2⟩
end Go.Proofs.YtojpkodmpjibkaaDoor
namespace Go.Proofs.YtojpkodmpjibkaaDoor
open Go.Shelf Go.RowKit
def lays190_ren : Go.Shelf.Ren := ⟨fun | 190 => 62 | 125 => 82 | 258 => 81 | 128 => 103 | 129 => 92 | 302 => 94 | 303 => 95 | 304 => 96 | 305 => 97 | 306 => 98 | 307 => 99 | 308 => 100 | 309 => 101 | 310 => 102 | 333 => 118 | 329 => 119 | 330 => 120 | 334 => 121 | 335 => 122 | 336 => 123 | 344 => 130 | n => n, fun | 31 => 26 | 9 => 9 | 3 => 3 | 46 => 119 | 0 => 0 | 51 => 120 | 53 => 124 | 4 => 4 | 183 => 140 | 182 => 139 | 131 => 106 | 5 => 5 | 218 => 156 | 222 => 160 | 228 => 170 | 229 => 171 | n => n, fun | n => n⟩
theorem lays190 : Go.Proofs.Lays.n190 Tryd.prog lays190_ren := {
  mixed := by kernel_rfl
  f125 := Tryd.func82.trans (congrArg some (by kernel_rfl))
  f128 := Tryd.func103.trans (congrArg some (by kernel_rfl))
  f129 := Tryd.func92.trans (congrArg some (by kernel_rfl))
  f190 := Tryd.func62.trans (congrArg some (by kernel_rfl))
  f258 := Tryd.func81.trans (congrArg some (by kernel_rfl))
  f302 := Tryd.func94.trans (congrArg some (by kernel_rfl))
  f303 := Tryd.func95.trans (congrArg some (by kernel_rfl))
  f304 := Tryd.func96.trans (congrArg some (by kernel_rfl))
  f305 := Tryd.func97.trans (congrArg some (by kernel_rfl))
  f306 := Tryd.func98.trans (congrArg some (by kernel_rfl))
  f307 := Tryd.func99.trans (congrArg some (by kernel_rfl))
  f308 := Tryd.func100.trans (congrArg some (by kernel_rfl))
  f309 := Tryd.func101.trans (congrArg some (by kernel_rfl))
  f310 := Tryd.func102.trans (congrArg some (by kernel_rfl))
  f329 := Tryd.func119.trans (congrArg some (by kernel_rfl))
  f330 := Tryd.func120.trans (congrArg some (by kernel_rfl))
  f333 := Tryd.func118.trans (congrArg some (by kernel_rfl))
  f334 := Tryd.func121.trans (congrArg some (by kernel_rfl))
  f335 := Tryd.func122.trans (congrArg some (by kernel_rfl))
  f336 := Tryd.func123.trans (congrArg some (by kernel_rfl))
  f344 := Tryd.func130.trans (congrArg some (by kernel_rfl))
  t0 := Tryd.underlying0
  a0 := Tryd.isAgg0
  z0 := Tryd.sizeOf0
  v0 := Tryd.zeroValue0
  t3 := Tryd.underlying3
  a3 := Tryd.isAgg3
  z3 := Tryd.sizeOf3
  v3 := Tryd.zeroValue3
  t4 := Tryd.underlying4
  a4 := Tryd.isAgg4
  z4 := Tryd.sizeOf4
  v4 := Tryd.zeroValue4
  t5 := Tryd.underlying5
  a5 := Tryd.isAgg5
  z5 := Tryd.sizeOf5
  v5 := Tryd.zeroValue5
  t9 := Tryd.underlying9
  a9 := Tryd.isAgg9
  z9 := Tryd.sizeOf9
  v9 := Tryd.zeroValue9
  t31 := Tryd.underlying26
  a31 := Tryd.isAgg26
  z31 := Tryd.sizeOf26
  v31 := Tryd.zeroValue26
  t46 := Tryd.underlying119
  a46 := Tryd.isAgg119
  z46 := Tryd.sizeOf119
  v46 := Tryd.zeroValue119
  t51 := Tryd.underlying120
  a51 := Tryd.isAgg120
  z51 := Tryd.sizeOf120
  v51 := Tryd.zeroValue120
  t53 := Tryd.underlying124
  a53 := Tryd.isAgg124
  z53 := Tryd.sizeOf124
  v53 := Tryd.zeroValue124
  t131 := Tryd.underlying106
  a131 := Tryd.isAgg106
  z131 := Tryd.sizeOf106
  v131 := Tryd.zeroValue106
  t182 := Tryd.underlying139
  a182 := Tryd.isAgg139
  z182 := Tryd.sizeOf139
  v182 := Tryd.zeroValue139
  t183 := Tryd.underlying140
  a183 := Tryd.isAgg140
  z183 := Tryd.sizeOf140
  v183 := Tryd.zeroValue140
  t218 := Tryd.underlying156
  a218 := Tryd.isAgg156
  z218 := Tryd.sizeOf156
  v218 := Tryd.zeroValue156
  t222 := Tryd.underlying160
  a222 := Tryd.isAgg160
  z222 := Tryd.sizeOf160
  v222 := Tryd.zeroValue160
  t228 := Tryd.underlying170
  a228 := Tryd.isAgg170
  z228 := Tryd.sizeOf170
  v228 := Tryd.zeroValue170
  t229 := Tryd.underlying171
  a229 := Tryd.isAgg171
  z229 := Tryd.sizeOf171
  v229 := Tryd.zeroValue171 }
open Go.Sort Go.RowKit in
theorem shelf_slices_Sort_string (blk off cap : Nat) (ss : List (List UInt8)) (w : World) (hH : Holds encStr w blk off ss.toArray) (hblk : blk < w.heap.size) (hsz : ss.length < 4611686018427387904) :
    Calls Tryd.prog 62 #[.slice (some ⟨blk, off, none⟩) ss.length cap] w fun e w' =>
      e = .returned (.tuple #[]) ∧ ∃ n os, w' = grow (putRow encStr (Sort.ahead w n) blk off (ss.mergeSort fun x y => decide (x ≤ y)).toArray) os := Any.slices_Sort_string lays190 blk off cap ss w hH hblk hsz
open Go.RowKit Go.Sort in
/-- .. and plain. (LAID: no walk: one application.) -/
theorem shelf_slices_Sort_string_none (p : Option Addr) (cap : Nat) (w : World) :
    Calls Tryd.prog 62 #[.slice p 0 cap] w fun e w' => e = .returned (.tuple #[]) ∧ w' = w := Any.slices_Sort_string_none lays190 p cap w
end Go.Proofs.YtojpkodmpjibkaaDoor
namespace Go.Proofs.YtojpkodmpjibkaaDoor
open Go.RowKit

def scells (L : List (List UInt8)) : List Value := L.map fun l => .string ⟨l.toArray⟩
theorem scells_append (L K : List (List UInt8)) : scells (L ++ K) = scells L ++ scells K := by simp [scells]
/-- A row of texts of the call's own, in a block from B on. -/
def Own (w : World) (B : Nat) (s : Value) (L : List (List UInt8)) : Prop := w.ownsRow B 9 1 s L.length (scells L)
theorem Own.nil (w : World) (B : Nat) : Own w B (.slice none 0 0) [] := ⟨rfl, Or.inl ⟨rfl, rfl⟩⟩
theorem Own.strs {w : World} {B : Nat} {s : Value} {L : List (List UInt8)} (h : Own w B s L) : Strs w s L := by
  obtain ⟨A, cap, rfl⟩ := own_form h
  refine ⟨A, cap, rfl, fun i hi => ?_⟩
  obtain ⟨g, cap', hv, hB, hlt⟩ := World.ownsRow.form h (by omega)
  obtain ⟨rfl, rfl⟩ : A = some ⟨g, 0, none⟩ ∧ cap = cap' := by simpa using hv
  exact ⟨_, rfl, World.ownsRow.cells h rfl i _ (by simp [scells, hi])⟩
theorem Own.below {w w' : World} {B : Nat} {s : Value} {L : List (List UInt8)} (h : Own w B s L) (hb : Below w.heap.size w w') : Own w' B s L :=
  row_out (G := fun _ => False) h (Out.of hb) (fun _ _ _ _ hf => hf.elim)
theorem Own.lt {w : World} {B : Nat} {s : Value} {L : List (List UInt8)} (h : Own w B s L) (k : Nat) (hk : s.ownBlock = some k) : B ≤ k ∧ k < w.heap.size := World.ownsRow.lt h k hk
theorem Own.strs_at {w w' : World} {B : Nat} {A : Option Addr} {n cap : Nat} {L : List (List UInt8)} (h : Own w B (.slice A n cap) L) (hb : Below w.heap.size w w') (k : Nat) (hk : k < L.length) : ∃ a, A = some a ∧ w'.cell? (a.add k) = some (.string ⟨L[k].toArray⟩) := by
  obtain ⟨A', cap', hv, hc⟩ := (h.below hb).strs
  obtain ⟨rfl, _⟩ : A = A' ∧ _ := by simpa using hv
  exact hc k hk

theorem sort_any (L : List (List UInt8)) (s : Value) (B : Nat) (w : World) (h : Own w B s L) (hl : L.length ≤ 1000000) (hB : B ≤ w.heap.size) :
    Calls Tryd.prog 62 #[s] w fun e w' => e = .returned (.tuple #[]) ∧ Own w' B s (L.mergeSort fun x y => decide (x ≤ y)) ∧ Below B w w' := by
  rcases h.2 with ⟨rfl, h0⟩ | ⟨g, cap, cur, rfl, hg, hh, hn, hcap, hsz, htake⟩
  · obtain rfl : L = [] := List.eq_nil_of_length_eq_zero h0
    refine (shelf_slices_Sort_string_none none 0 w).mono ?_
    rintro e w' ⟨rfl, rfl⟩
    exact ⟨rfl, by simpa using Own.nil w' B, (Below.refl _ w').mono hB⟩
  · have hlt := lt_of_heap hh
    have hcell : ∀ j (hj : j < L.length), cur[j]? = some (.string ⟨L[j].toArray⟩) := fun j hj => by
      have e := congrArg (fun l => l[j]?) htake
      simp only [Nat.mul_one, scells, List.getElem?_map] at e
      rw [List.getElem?_take_of_lt hj, Array.getElem?_toList] at e
      rw [e, List.getElem?_eq_getElem hj]
      rfl
    have hH : Go.Sort.Holds encStr w g 0 L.toArray := by
      intro j hj
      simp only [List.size_toArray] at hj
      refine ⟨?_, frozen_of_row _ _ _ _ _ hh⟩
      rw [Nat.zero_add, cell_of_row w g j _ _ _ hh, hcell j hj]
      simp [hj]
    refine (shelf_slices_Sort_string g 0 cap L w hH hlt (by omega)).mono ?_
    rintro e w' ⟨rfl, n, os, rfl⟩
    obtain ⟨S, hS⟩ : ∃ S, (L.mergeSort fun x y => decide (x ≤ y)) = S := ⟨_, rfl⟩
    have hSl : S.length = L.length := by rw [← hS]; exact List.length_mergeSort L
    rw [hS]
    have hother : ∀ k, k < w.heap.size → k ≠ g → (Go.Sort.grow (Go.Sort.putRow encStr (Go.Sort.ahead w n) g 0 S.toArray) os).heap[k]? = w.heap[k]? := fun k hk hne => by
      simp only [Go.Sort.grow, Go.Sort.putRow, Go.Sort.mapBlock, Go.Sort.ahead]
      rw [Array.getElem?_append_left (by simpa using hk), Array.getElem?_modify, if_neg (fun e => hne e.symm)]
    have hthis : (Go.Sort.grow (Go.Sort.putRow encStr (Go.Sort.ahead w n) g 0 S.toArray) os).heap[g]? = some (.cells (Go.Sort.putCells encStr 0 S.toArray cur) 9 (0, 0)) := by
      simp only [Go.Sort.grow, Go.Sort.putRow, Go.Sort.mapBlock, Go.Sort.ahead]
      rw [Array.getElem?_append_left (by simpa using hlt), Array.getElem?_modify, if_pos rfl, hh]
      rfl
    refine ⟨rfl, ⟨by simp [scells], Or.inr ⟨g, cap, _, by rw [hSl], hg, hthis, by omega, hcap, by simp [Go.Sort.putCells, hsz], ?_⟩⟩, ⟨rfl, rfl, rfl, ?_, fun k hk => hother k (by omega) (by omega)⟩⟩
    · apply List.ext_getElem?
      intro j
      rw [Nat.mul_one]
      by_cases hj : j < S.length
      · rw [List.getElem?_take_of_lt hj, Array.getElem?_toList]
        have hjc : j < cur.size := by omega
        simp [Go.Sort.putCells, scells, hj, hjc]
      · rw [List.getElem?_eq_none (by simp; omega), List.getElem?_eq_none (by simp [scells]; omega)]
    · simp [Go.Sort.grow, Go.Sort.putRow, Go.Sort.mapBlock, Go.Sort.ahead]
end Go.Proofs.YtojpkodmpjibkaaDoor
namespace Go.Proofs.YtojpkodmpjibkaaDoor
open Go.RowKit Go.ChangeShapes Go.WideShapes
open Go.Proofs.YtojpkodmpjibkaaDoor.Ct (C)
open Go.Proofs.YtojpkodmpjibkaaDoor.Pw (M)

set_option maxRecDepth 8000 in
set_option maxHeartbeats 400000 in
theorem cis_any (t : Int) (w : World) : Calls Tryd.prog 38 #[.int .i64 t] w fun e w' => e = .returned (.bool (Ct.isT t)) ∧ w' = w := by
  rcases Ct.isT_cases t with ⟨rfl, h⟩ | ⟨rfl, h⟩ | ⟨h5, h6, h⟩
  all_goals
    rw [h]
    clear h
    go_enter Tryd.func38, Tryd.ntmps38
    go_wp2
    go_ret
    exact ⟨rfl, rfl⟩

set_option maxRecDepth 8000 in
set_option maxHeartbeats 400000 in
theorem cmark_any (t : Int) (s : List UInt8) (w : World) (hT : Tab w) :
    Calls Tryd.prog 13 #[.int .i64 t, .string ⟨s.toArray⟩] w fun e w' => e = .returned (.tuple #[.string ⟨(Ct.markR t s).toArray⟩, .int .i64 (Ct.markC t s)]) ∧ Below w.heap.size w w' := by
  have HT := Lib.hid (cis_any t w)
  cases ht : Ct.isT t with
  | false =>
    have h1 : Ct.markC t s = 1 := by simp [Ct.markC, ht]
    have h2 : Ct.markR t s = [] := by simp [Ct.markR, h1]
    rw [h1, h2]
    rw [ht] at HT
    clear ht h1 h2 hT
    go_enter Tryd.func13, Tryd.ntmps13
    go_wp2_with fail
    refine HT.out.mono ?_
    rintro e w1 ⟨rfl, rfl⟩
    go_wp2
    go_ret2
    exact ⟨rfl, Below.refl _ _⟩
  | true =>
    rw [ht] at HT
    by_cases hl : s.length = 32
    · have h1 : Ct.markC t s = 0 := by simp [Ct.markC, ht, hl]
      have h2 : Ct.markR t s = Ct.markP t s := by simp [Ct.markR, h1]
      rw [h1, h2]
      have hti : Dig.isTag t = true := by
        rcases Ct.isT_cases t with ⟨rfl, h⟩ | ⟨rfl, h⟩ | ⟨_, _, h⟩
        · decide
        · decide
        · rw [h] at ht; cases ht
      have HTG := Lib.hid (dsum_any t s w hT (by omega))
      rw [show Dig.sum t s = Ct.markP t s by simp [Dig.sum, hti, Ct.markP], show Dig.sumC t = 0 by simp [Dig.sumC, hti]] at HTG
      obtain ⟨R, hR⟩ : ∃ R, Ct.markP t s = R := ⟨_, rfl⟩
      rw [hR] at HTG ⊢
      have hl' : (s.length : Int) = 32 := by omega
      clear ht h1 h2 hR hl hti hT
      go_enter Tryd.func13, Tryd.ntmps13
      go_wp2_with fail
      refine HT.out.mono ?_
      rintro e w1 ⟨rfl, hw⟩
      obtain rfl : w = w1 := hw.symm
      go_wp2_with fail
      refine HTG.out.mono ?_
      rintro e w2 ⟨rfl, hb⟩
      go_wp2
      go_ret2
      exact ⟨rfl, hb⟩
    · have h1 : Ct.markC t s = 3 := by simp [Ct.markC, ht, hl]
      have h2 : Ct.markR t s = [] := by simp [Ct.markR, h1]
      rw [h1, h2]
      have hl' : ¬ ((s.length : Int) = 32) := by omega
      clear ht h1 h2 hl hT
      go_enter Tryd.func13, Tryd.ntmps13
      go_wp2_with fail
      refine HT.out.mono ?_
      rintro e w1 ⟨rfl, rfl⟩
      go_wp2
      go_ret2
      exact ⟨rfl, Below.refl _ _⟩

/-- Where a text stands first, or -1. -/
def Ct.indexP (L : List (List UInt8)) (x : List UInt8) : Int := if x ∈ L then (L.findIdx (· == x) : Nat) else -1
theorem Ct.index_at (L : List (List UInt8)) (x : List UInt8) (k : Nat) (h : k < L.length) (hk : L[k] = x) (hn : x ∉ L.take k) : Ct.indexP L x = k := by
  have hx : x ∈ L := by rw [← hk]; exact List.getElem_mem h
  rw [Ct.indexP, if_pos hx]
  congr 1
  rw [List.findIdx_eq h]
  refine ⟨by simpa using hk, fun j hj => ?_⟩
  simp only [beq_eq_false_iff_ne, ne_eq]
  rintro rfl
  exact hn (List.mem_take_iff_getElem.2 ⟨j, by omega, rfl⟩)
theorem Ct.index_no (L : List (List UInt8)) (x : List UInt8) (h : x ∉ L) : Ct.indexP L x = -1 := if_neg h
set_option maxRecDepth 8000 in
set_option maxHeartbeats 400000 in
theorem sindex_any (L : List (List UInt8)) (v : Value) (x : List UInt8) (w : World) (hv : Strs w v L) (hl : L.length ≤ 1000000) :
    Calls Tryd.prog 69 #[v, .string ⟨x.toArray⟩] w fun e w' => e = .returned (.int .i64 (Ct.indexP L x)) ∧ w' = w := by
  obtain ⟨A, cap, rfl, hc⟩ := hv
  obtain ⟨R, hR⟩ : ∃ R, Ct.indexP L x = R := ⟨_, rfl⟩
  have HR := Lib.hid hR
  have HC := Lib.hid hc
  rw [hR]
  clear hR hc
  go_enter Tryd.func69, Tryd.ntmps69
  go_wp2
  go_loopw [8] (fun i wr => ∃ k : Nat, k ≤ L.length ∧ i = .int .i64 k ∧ Hid (x ∉ L.take k) ∧ wr = w) (fun i _ => L.length - (intOf i).toNat)
  case atStart => exact ⟨0, Nat.zero_le _, rfl, Lib.hid (by simp), rfl⟩
  case round =>
    obtain ⟨k, hk, rfl, HK, rfl⟩ := hrel
    by_cases hlt : k < L.length
    · have h1 : (k : Int) < (L.length : Int) := by omega
      have h0 : (0 : Int) ≤ (k : Int) := by omega
      obtain ⟨q, rfl, n0⟩ := HC.out k hlt
      have HAT := Lib.hid (fun e => Ct.index_at L x k hlt e HK.out)
      have HTK := Lib.hid (List.take_succ_eq_append_getElem hlt)
      obtain ⟨y, hy⟩ : ∃ y, L[k] = y := ⟨_, rfl⟩
      rw [hy] at n0 HAT HTK
      clear hy
      by_cases e : y = x
      · obtain rfl := e
        obtain rfl : R = k := by rw [← HR.out]; exact HAT.out rfl
        go_wp2
        go_ret
        exact ⟨rfl, rfl⟩
      · have e1 : (x == y) = false := by rw [beq_eq_false_iff_ne]; exact fun h => e h.symm
        have e2 : ¬ x = y := fun h => e h.symm
        have HN : Hid (x ∉ L.take (k + 1)) := Lib.hid (by
          rw [HTK.out, List.mem_append]
          rintro (h | h)
          · exact HK.out h
          · exact e2 (by simpa using h))
        clear e
        go_wp2
        exact ⟨⟨k + 1, by omega, by go_num, HN, trivial⟩, by simp [intOf]; omega⟩
    · have h1 : ¬ ((k : Int) < (L.length : Int)) := by omega
      obtain rfl : k = L.length := by omega
      obtain rfl : R = -1 := by
        rw [← HR.out]
        refine Ct.index_no L x ?_
        have := HK.out
        rwa [List.take_length] at this
      go_wp2
      go_ret
      exact ⟨rfl, rfl⟩
set_option maxRecDepth 8000 in
set_option maxHeartbeats 400000 in
theorem contains_any (L : List (List UInt8)) (v : Value) (x : List UInt8) (w : World) (hv : Strs w v L) (hl : L.length ≤ 1000000) :
    Calls Tryd.prog 44 #[v, .string ⟨x.toArray⟩] w fun e w' => e = .returned (.bool (decide (x ∈ L))) ∧ w' = w := by
  have HI := Lib.hid (sindex_any L v x w hv hl)
  have hd : decide ((0 : Int) ≤ Ct.indexP L x) = decide (x ∈ L) := by
    unfold Ct.indexP
    by_cases h : x ∈ L
    · simp [h]
    · simp [h]
  obtain ⟨A, cap, rfl, -⟩ := hv
  obtain ⟨R, hR⟩ : ∃ R, Ct.indexP L x = R := ⟨_, rfl⟩
  obtain ⟨b, hb⟩ : ∃ b, decide (x ∈ L) = b := ⟨_, rfl⟩
  rw [hR] at HI hd
  rw [hb] at hd ⊢
  clear hR hb
  cases b with
  | true =>
    have h1 : (0 : Int) ≤ R := by simpa using hd
    clear hd
    go_enter Tryd.func44, Tryd.ntmps44
    go_wp2_with fail
    refine HI.out.mono ?_
    rintro e w1 ⟨rfl, rfl⟩
    go_wp2
    go_ret
    exact ⟨by simp, rfl⟩
  | false =>
    have h1 : ¬ ((0 : Int) ≤ R) := by simpa using hd
    clear hd
    go_enter Tryd.func44, Tryd.ntmps44
    go_wp2_with fail
    refine HI.out.mono ?_
    rintro e w1 ⟨rfl, rfl⟩
    go_wp2
    go_ret
    exact ⟨by simp [h1], rfl⟩

set_option maxRecDepth 100000 in
set_option maxHeartbeats 1000000 in
theorem cmay_any (c : C) (s : Value) (w : World) (hs : Strs w s c.sig) :
    Calls Tryd.prog 42 #[.agg #[.string ⟨c.dig.toArray⟩, s]] w fun e w' => e = .returned (.bool (Ct.may c)) ∧ Below w.heap.size w w' := by
  obtain ⟨D, L⟩ := c
  dsimp only at hs ⊢
  have HS := Lib.hid hs
  obtain ⟨A, cap, rfl, -⟩ := hs
  have hb : Below w.heap.size w (w.alloc (.cells #[.string ⟨D.toArray⟩, .slice A L.length cap] 28)) := (Below.refl _ w).alloc (Nat.le_refl _) _
  obtain ⟨g0, g1, -, -⟩ := cells2 (heap_new_at w (.cells #[.string ⟨D.toArray⟩, .slice A L.length cap] 28) w.heap.size rfl)
  by_cases h32 : D.length = 32
  case neg =>
    have hm : Ct.may ⟨D, L⟩ = false := by simp [Ct.may, h32]
    have h32' : ¬ ((D.length : Int) = 32) := by omega
    rw [hm]
    clear hm h32 g0 g1
    go_enter Tryd.func42, Tryd.ntmps42
    go_wp2
    go_ret
    exact ⟨rfl, hb⟩
  have h32' : ((D.length : Int) = 32) := by omega
  by_cases h7 : L.length ≤ 7
  case neg =>
    have hm : Ct.may ⟨D, L⟩ = false := by simp [Ct.may, h7]
    have h7' : (7 : Int) < (L.length : Int) := by omega
    rw [hm]
    clear hm h7 h32 g0 g1
    go_enter Tryd.func42, Tryd.ntmps42
    go_wp2
    go_ret
    exact ⟨rfl, hb⟩
  have h7' : ¬ ((7 : Int) < (L.length : Int)) := by omega
  have hm : Ct.may ⟨D, L⟩ = Ct.okNs L := by simp [Ct.may, h32, h7]
  rw [hm]
  obtain ⟨O, hO⟩ : ∃ O, Ct.okNs L = O := ⟨_, rfl⟩
  have HO := Lib.hid hO
  rw [hO]
  have HB := Lib.hid hb
  clear hm hO h32 hb g0 g1
  go_enter Tryd.func42, Tryd.ntmps42
  go_wp2
  have HS0 := Lib.hid (HS.out.below HB.out)
  generalize (w.alloc (.cells #[.string ⟨D.toArray⟩, .slice A L.length cap] 28)) = w0 at *
  go_loopw [3, 19] (fun s i wr => ∃ k : Nat, k ≤ L.length ∧ i = .int .i64 k ∧ s = .string ⟨(Pw.lastOf [] ((L.map Ct.toM).take k)).toArray⟩ ∧ Hid (Pw.okFrom [] ((L.map Ct.toM).take k) = true) ∧ wr = w0) (fun _ i _ => L.length - (intOf i).toNat)
  case atStart => exact ⟨0, Nat.zero_le _, rfl, rfl, Lib.hid rfl, rfl⟩
  case round =>
    obtain ⟨k, hk, rfl, rfl, HK, rfl⟩ := hrel
    by_cases hlt : k < L.length
    · have h1 : (k : Int) < (L.length : Int) := by omega
      have h0 : (0 : Int) ≤ (k : Int) := by omega
      have h2 : (k : Int) ≤ 7 := by omega
      obtain ⟨A3, cap3, hv3, hc3⟩ := HS0.out
      obtain ⟨rfl, rfl⟩ : A = A3 ∧ cap = cap3 := by simpa using hv3
      obtain ⟨q, rfl, n0⟩ := hc3 k hlt
      have HST := Lib.hid (Ct.step L k hlt)
      have HBAD := Lib.hid (Ct.bad L k hlt)
      have HLA := Lib.hid (Ct.last L k hlt)
      obtain ⟨p, hp⟩ : ∃ p, Pw.lastOf [] ((L.map Ct.toM).take k) = p := ⟨_, rfl⟩
      obtain ⟨x, hx⟩ : ∃ x, L[k] = x := ⟨_, rfl⟩
      rw [hx] at n0 HST HBAD HLA
      rw [hp] at HST HBAD ⊢
      rw [Ct.okM_to] at HST HBAD
      clear hx hv3 hc3 hp
      by_cases hA : p < x
      · have e1 : Op.bytesLess x p = false := by rw [less_lt]; simpa using List.le_of_lt hA
        have e2 : (x == p) = false := by rw [beq_eq_false_iff_ne]; rintro rfl; exact absurd hA (List.lt_irrefl _)
        have e2' : ¬ (x = p) := by rintro rfl; exact absurd hA (List.lt_irrefl _)
        by_cases h6 : 6 < x.length
        · obtain rfl : O = false := by
            rw [← HO.out]
            refine HBAD.out ?_
            simp [hA]; omega
          have h6' : (6 : Int) < (x.length : Int) := by omega
          clear hA
          go_wp2
          go_ret
          exact ⟨rfl, HB.out⟩
        have h6' : ¬ ((6 : Int) < (x.length : Int)) := by omega
        have HK' : Hid (Pw.okFrom [] ((L.map Ct.toM).take (k + 1)) = true) := Lib.hid (by
          rw [HST.out, HK.out]
          simp [hA]; omega)
        clear hA
        go_wp2
        exact ⟨⟨k + 1, by omega, by go_num, by rw [HLA.out], HK', trivial⟩, by simp [intOf]; omega⟩
      · obtain rfl : O = false := by
          rw [← HO.out]
          refine HBAD.out ?_
          simp [hA]
        have hle : x ≤ p := List.not_lt.1 hA
        clear hA
        rcases List.le_iff_lt_or_eq.1 hle with hA | rfl
        · have e1 : Op.bytesLess x p = true := by rw [less_lt]; simpa using hA
          clear hA hle
          go_wp2
          go_ret
          exact ⟨rfl, HB.out⟩
        · have e1 : Op.bytesLess x x = false := by rw [less_lt]; simp
          clear hle
          go_wp2
          go_ret
          exact ⟨rfl, HB.out⟩
    · have h1 : ¬ ((k : Int) < (L.length : Int)) := by omega
      obtain rfl : k = L.length := by omega
      obtain rfl : O = true := by
        rw [← HO.out]
        have := HK.out
        rw [List.take_of_length_le (by simp)] at this
        exact this
      go_wp2
      go_ret
      exact ⟨rfl, HB.out⟩
end Go.Proofs.YtojpkodmpjibkaaDoor
namespace Go.Proofs.YtojpkodmpjibkaaDoor
open Go.RowKit
open Go.Proofs.YtojpkodmpjibkaaDoor.Pw (M)

set_option maxRecDepth 8000 in
set_option maxHeartbeats 1000000 in
theorem check_any (L : List M) (v : Value) (w : World) (hv : Mems w v L) :
    Calls Tryd.prog 41 #[v] w fun e w' => e = .returned (.int .i64 (Pw.checkC L)) ∧ Below w.heap.size w w' := by
  have HV := Lib.hid hv
  obtain ⟨A, cap, rfl, -⟩ := hv
  obtain ⟨C, hC⟩ : ∃ C, Pw.checkC L = C := ⟨_, rfl⟩
  rw [hC]
  have HC := Lib.hid hC
  clear hC
  by_cases h0 : L.length = 0
  · obtain rfl : C = 50 := by rw [← HC.out]; simp [Pw.checkC, Pw.okL, h0]
    rw [h0]
    go_enter Tryd.func41, Tryd.ntmps41
    go_wp2
    go_ret
    exact ⟨rfl, Below.refl _ _⟩
  by_cases h7 : 7 < L.length
  · obtain rfl : C = 50 := by rw [← HC.out]; simp [Pw.checkC, Pw.okL]; intros; omega
    have h0' : ((L.length : Int) == 0) = false := by rw [beq_eq_false_iff_ne]; omega
    have h7' : (7 : Int) < (L.length : Int) := by omega
    go_enter Tryd.func41, Tryd.ntmps41
    go_wp2
    go_ret
    exact ⟨rfl, Below.refl _ _⟩
  have h0' : ((L.length : Int) == 0) = false := by rw [beq_eq_false_iff_ne]; omega
  have h7' : ¬ ((7 : Int) < (L.length : Int)) := by omega
  have HL : Hid (1 ≤ L.length ∧ L.length ≤ 7) := Lib.hid (by omega)
  clear h0 h7
  go_enter Tryd.func41, Tryd.ntmps41
  go_wp2
  go_loopw [3, 16] (fun s i wr => ∃ k : Nat, k ≤ L.length ∧ i = .int .i64 k ∧ s = .string ⟨(Pw.lastOf [] (L.take k)).toArray⟩ ∧ Pw.okFrom [] (L.take k) = true ∧ Below w.heap.size w wr) (fun _ i _ => L.length - (intOf i).toNat)
  case atStart => exact ⟨0, Nat.zero_le _, rfl, rfl, rfl, Below.refl _ _⟩
  case round =>
    obtain ⟨k, hk, rfl, rfl, hok, hb⟩ := hrel
    have HB := Lib.hid hb
    have HOK := Lib.hid hok
    clear hok hb
    by_cases hlt : k < L.length
    · have h1 : (k : Int) < (L.length : Int) := by omega
      have h0 : (0 : Int) ≤ (k : Int) := by omega
      obtain ⟨b, o, rfl, n0, n1⟩ := HV.out.at HB.out k hlt
      have HT := Lib.hid (Pw.okFrom_take L k hlt)
      have HBAD := Lib.hid (Pw.okFrom_bad L k hlt)
      have HLA := Lib.hid (Pw.lastOf_take L k hlt)
      obtain ⟨p, hp⟩ : ∃ p, Pw.lastOf [] (L.take k) = p := ⟨_, rfl⟩
      obtain ⟨⟨x, q⟩, hm⟩ : ∃ m, L[k] = m := ⟨_, rfl⟩
      rw [hp, hm] at HT HBAD
      rw [hp]
      rw [hm] at n0 n1 HLA
      clear hp hm
      dsimp only at n0 n1
      have HBN := Lib.hid (HB.out.alloc HB.out.size (.cells #[.string ⟨x.toArray⟩, .int .i64 q] 64))
      have HFAIL : Hid (Pw.okM p ⟨x, q⟩ = false → C = 50) := Lib.hid (fun h => by rw [← HC.out]; simp [Pw.checkC, Pw.okL, HBAD.out h])
      by_cases hA : p < x
      · have e1 : Op.bytesLess x p = false := by rw [less_lt]; simpa using List.le_of_lt hA
        have e2 : (x == p) = false := by rw [beq_eq_false_iff_ne]; rintro rfl; exact absurd hA (List.lt_irrefl _)
        have e2' : ¬ (x = p) := by rintro rfl; exact absurd hA (List.lt_irrefl _)
        have HA := Lib.hid hA
        clear hA
        by_cases h6 : 6 < x.length
        · obtain rfl : C = 50 := HFAIL.out (by simp [Pw.okM, HA.out]; omega)
          have h6' : (6 : Int) < (x.length : Int) := by omega
          go_wp2
          go_ret
          exact ⟨rfl, HBN.out⟩
        have h6' : ¬ ((6 : Int) < (x.length : Int)) := by omega
        by_cases hq1 : q < 1
        · obtain rfl : C = 50 := HFAIL.out (by simp [Pw.okM, HA.out]; omega)
          go_wp2
          go_ret
          exact ⟨rfl, HBN.out⟩
        by_cases hq2 : 1000 < q
        · obtain rfl : C = 50 := HFAIL.out (by simp [Pw.okM, HA.out]; omega)
          go_wp2
          go_ret
          exact ⟨rfl, HBN.out⟩
        have hM : Hid (Pw.okM p ⟨x, q⟩ = true) := Lib.hid (by simp [Pw.okM, HA.out]; omega)
        go_wp2
        refine ⟨⟨k + 1, by omega, by go_num, by rw [HLA.out], by rw [HT.out, HOK.out, hM.out]; rfl, HBN.out⟩, by simp [intOf]; omega⟩
      · obtain rfl : C = 50 := HFAIL.out (by simp [Pw.okM, hA])
        have hle : x ≤ p := List.not_lt.1 hA
        clear hA
        rcases List.le_iff_lt_or_eq.1 hle with hA | rfl
        · have e1 : Op.bytesLess x p = true := by rw [less_lt]; simpa using hA
          clear hA hle
          go_wp2
          go_ret
          exact ⟨rfl, HBN.out⟩
        · have e1 : Op.bytesLess x x = false := by rw [less_lt]; simp
          clear hle
          go_wp2
          go_ret
          exact ⟨rfl, HBN.out⟩
    · have h1 : ¬ ((k : Int) < (L.length : Int)) := by omega
      obtain rfl : k = L.length := by omega
      obtain rfl : C = 0 := by
        rw [← HC.out]
        have := HOK.out
        rw [List.take_length] at this
        have hL := HL.out
        simp [Pw.checkC, Pw.okL, this]
        omega
      go_wp2
      go_ret
      exact ⟨rfl, HB.out⟩
end Go.Proofs.YtojpkodmpjibkaaDoor
namespace Go.Proofs.YtojpkodmpjibkaaDoor
open Go.RowKit
open Go.Proofs.YtojpkodmpjibkaaDoor.Pw (M)

theorem Pw.checkC_ok {L : List M} (h : Pw.okL L = true) : Pw.checkC L = 0 := by simp [Pw.checkC, h]
theorem Pw.checkC_bad {L : List M} (h : Pw.okL L = false) : Pw.checkC L = 50 := by simp [Pw.checkC, h]

set_option maxRecDepth 8000 in
set_option maxHeartbeats 1000000 in
theorem total_any (L : List M) (v : Value) (w : World) (hv : Mems w v L) :
    Calls Tryd.prog 31 #[v] w fun e w' => e = .returned (.int .i64 (Pw.tot L : Nat)) ∧ Below w.heap.size w w' := by
  have HV := Lib.hid hv
  obtain ⟨A, cap, rfl, -⟩ := hv
  have HCK := Lib.hid (check_any L _ w HV.out)
  cases hok : Pw.okL L with
  | false =>
    rw [Pw.checkC_bad hok] at HCK
    rw [(Pw.tot_range L).2.2 hok]
    clear hok
    go_enter Tryd.func31, Tryd.ntmps31
    go_wp2_with fail
    refine HCK.out.mono ?_
    rintro e w1 ⟨rfl, hb⟩
    go_wp2
    go_ret
    exact ⟨rfl, hb⟩
  | true =>
    rw [Pw.checkC_ok hok] at HCK
    have HR := Lib.hid (fun k => Pw.sumP_take_range hok k)
    have hl7 := (Pw.okL_len hok).2
    have HT := Lib.hid ((Pw.tot_range L).2.1 hok).2
    obtain ⟨T, hT⟩ : ∃ T, Pw.tot L = T := ⟨_, rfl⟩
    rw [hT] at HT ⊢
    clear hok hT
    go_enter Tryd.func31, Tryd.ntmps31
    go_wp2_with fail
    refine HCK.out.mono ?_
    rintro e w1 ⟨rfl, hb⟩
    have HB1 := Lib.hid hb
    clear hb
    go_wp2
    go_loopw [3, 11] (fun s i wr => ∃ k : Nat, k ≤ L.length ∧ i = .int .i64 k ∧ s = .int .i64 (Pw.sumP (L.take k)) ∧ Below w.heap.size w wr) (fun _ i _ => L.length - (intOf i).toNat)
    case atStart => exact ⟨0, Nat.zero_le _, rfl, rfl, HB1.out⟩
    case round =>
      obtain ⟨k, hk, rfl, rfl, hb⟩ := hrel
      have HB := Lib.hid hb
      clear hb
      by_cases hlt : k < L.length
      · have h1 : (k : Int) < (L.length : Int) := by omega
        have h0 : (0 : Int) ≤ (k : Int) := by omega
        obtain ⟨b, o, rfl, n0, n1⟩ := HV.out.at HB.out k hlt
        have HS := Lib.hid (Pw.sumP_take L k hlt)
        have r1 := HR.out k
        have r2 := HR.out (k + 1)
        obtain ⟨S, hS⟩ : ∃ S, Pw.sumP (L.take k) = S := ⟨_, rfl⟩
        obtain ⟨⟨x, q⟩, hm⟩ : ∃ m, L[k] = m := ⟨_, rfl⟩
        rw [hS, hm] at HS
        rw [hS] at r1 ⊢
        rw [hm] at n0 n1
        rw [HS.out] at r2
        dsimp only at n0 n1 r2
        clear hS hm
        have HBN := Lib.hid (HB.out.alloc HB.out.size (.cells #[.string ⟨x.toArray⟩, .int .i64 q] 64))
        have r3 : Hid (0 ≤ S + q ∧ S + q ≤ 7000) := Lib.hid r2
        go_wp2
        refine ⟨⟨k + 1, by omega, by go_num, by rw [HS.out], HBN.out⟩, by simp [intOf]; omega⟩
      · have h1 : ¬ ((k : Int) < (L.length : Int)) := by omega
        obtain rfl : k = L.length := by omega
        go_wp2
        go_ret
        exact ⟨ret_i64 HT.out.symm, HB.out⟩

set_option maxRecDepth 8000 in
theorem quorum_any (L : List M) (v : Value) (w : World) (hv : Mems w v L) :
    Calls Tryd.prog 70 #[v] w fun e w' => e = .returned (.int .i64 (Pw.quo L : Nat)) ∧ Below w.heap.size w w' := by
  have HT := Lib.hid (total_any L v w hv)
  have hr := (Pw.tot_range L).1
  obtain ⟨A, cap, rfl⟩ := hv.form
  unfold Pw.quo
  obtain ⟨T, hT⟩ : ∃ T, Pw.tot L = T := ⟨_, rfl⟩
  rw [hT] at HT hr ⊢
  clear hT hv
  by_cases h : T = 0
  · subst h
    go_enter Tryd.func70, Tryd.ntmps70
    go_wp2_with fail
    refine HT.out.mono ?_
    rintro e w1 ⟨rfl, hb⟩
    go_wp2
    go_ret
    exact ⟨rfl, hb⟩
  · rw [if_neg h]
    have h0 : ((T : Int) == 0) = false := by rw [beq_eq_false_iff_ne]; omega
    go_enter Tryd.func70, Tryd.ntmps70
    go_wp2_with fail
    refine HT.out.mono ?_
    rintro e w1 ⟨rfl, hb⟩
    go_wp2
    go_ret
    refine ⟨ret_i64 ?_, hb⟩
    go_num

set_option maxRecDepth 8000 in
theorem most_any (L : List M) (v : Value) (w : World) (hv : Mems w v L) :
    Calls Tryd.prog 30 #[v] w fun e w' => e = .returned (.int .i64 (Pw.mos L : Nat)) ∧ Below w.heap.size w w' := by
  have HT := Lib.hid (total_any L v w hv)
  have hr := (Pw.tot_range L).1
  obtain ⟨A, cap, rfl⟩ := hv.form
  unfold Pw.mos
  obtain ⟨T, hT⟩ : ∃ T, Pw.tot L = T := ⟨_, rfl⟩
  rw [hT] at HT hr ⊢
  clear hT hv
  go_enter Tryd.func30, Tryd.ntmps30
  go_wp2_with fail
  refine HT.out.mono ?_
  rintro e w1 ⟨rfl, hb⟩
  go_wp2
  go_ret
  refine ⟨ret_i64 ?_, hb⟩
  go_num
end Go.Proofs.YtojpkodmpjibkaaDoor
namespace Go.Proofs.YtojpkodmpjibkaaDoor
open Go.RowKit
open Go.Proofs.YtojpkodmpjibkaaDoor.Pw (M)

def strInt : MapLaw Tryd.prog 9 (List UInt8) Int := ⟨fun s => .string ⟨s.toArray⟩, fun n => .int .i64 n, fun s => s.length ≤ 140737488351232, lawS, keyS, fun _ _ h => str_inj h⟩
def strUnit : MapLaw Tryd.prog 9 (List UInt8) Unit := ⟨fun s => .string ⟨s.toArray⟩, fun _ => .agg #[], fun s => s.length ≤ 140737488351232, lawS, keyS, fun _ _ h => str_inj h⟩
theorem zeroI (w : World) : (zeroValue 3).run Tryd.prog w = .ok (.int .i64 0) w := by kernel_rfl
theorem zeroU (w : World) : (zeroValue 87).run Tryd.prog w = .ok (.agg #[]) w := by kernel_rfl

/-- The powers by name. -/
def Pw.powF (L : List M) (s : List UInt8) : Option Int := (L.find? (fun m => decide (m.name = s))).map (·.power)
theorem Pw.powF_step {L : List M} (h : Pw.okL L = true) (k : Nat) (hk : k < L.length) (s : List UInt8) : Pw.powF (L.take (k + 1)) s = updF (Pw.powF (L.take k)) L[k].name (some L[k].power) s := by
  unfold Pw.powF updF
  rw [List.take_succ_eq_append_getElem hk, List.find?_append]
  by_cases e : s = L[k].name
  · subst e
    rw [if_pos rfl]
    have hn : (L.take k).find? (fun m => decide (m.name = L[k].name)) = none := by
      rw [List.find?_eq_none]
      intro m hm
      obtain ⟨i, hi, rfl⟩ := List.mem_iff_getElem.1 hm
      have hik : i < k := by simp at hi; omega
      have hp := List.pairwise_iff_getElem.1 (Pw.okL_pair h) i k (by omega) hk hik
      rw [List.getElem_take]
      simp only [decide_eq_true_eq]
      intro e
      rw [e] at hp
      exact List.lt_irrefl _ hp
    rw [hn]
    simp
  · rw [if_neg e]
    have hn : [L[k]].find? (fun m => decide (m.name = s)) = none := by
      rw [List.find?_eq_none]
      intro m hm
      simp at hm
      subst hm
      simp only [decide_eq_true_eq]
      exact fun e' => e e'.symm
    rw [hn]
    simp
/-- What is left of them. -/
def Pw.leftF (L : List M) (names : List (List UInt8)) (s : List UInt8) : Option Int := if s ∈ names then none else Pw.powF L s
theorem Pw.leftF_step (L : List M) (N : List (List UInt8)) (k : Nat) (hk : k < N.length) (s : List UInt8) : updF (Pw.leftF L (N.take k)) N[k] none s = Pw.leftF L (N.take (k + 1)) s := by
  have hm : s ∈ N.take (k + 1) ↔ s ∈ N.take k ∨ s = N[k] := by rw [List.take_succ_eq_append_getElem hk, List.mem_append, List.mem_singleton]
  unfold Pw.leftF updF
  show (if s = N[k] then none else if s ∈ N.take k then none else Pw.powF L s) = if s ∈ N.take (k + 1) then none else Pw.powF L s
  by_cases e : s = N[k]
  · rw [if_pos e, if_pos (hm.2 (Or.inr e))]
  · rw [if_neg e]
    by_cases e2 : s ∈ N.take k
    · rw [if_pos e2, if_pos (hm.2 (Or.inl e2))]
    · rw [if_neg e2, if_neg (fun h => (hm.1 h).elim e2 e)]
theorem Pw.pick_nil (L : List M) (N : List (List UInt8)) : Pw.sumP (Pw.pick L (N.take 0)) = 0 := by
  have h : Pw.pick L (N.take 0) = [] := by
    unfold Pw.pick
    rw [List.filter_eq_nil_iff]
    intro m _
    simp
  rw [h]; rfl
theorem Pw.pick_step {L : List M} (h : Pw.okL L = true) (N : List (List UInt8)) (k : Nat) (hk : k < N.length) :
    Pw.sumP (Pw.pick L (N.take (k + 1))) = Pw.sumP (Pw.pick L (N.take k)) + (Pw.leftF L (N.take k) N[k]).getD 0 := by
  rw [List.take_succ_eq_append_getElem hk]
  unfold Pw.leftF Pw.powF
  by_cases e : N[k] ∈ N.take k
  · rw [if_pos e, Pw.pick_no L _ _ (fun _ _ _ => e)]
    simp
  · rw [if_neg e]
    cases hf : L.find? (fun m => decide (m.name = N[k])) with
    | none =>
      rw [Pw.pick_no L _ _ (fun m hm e' => absurd e' (by simpa using List.find?_eq_none.1 hf m hm))]
      simp
    | some m =>
      have h1 : m.name = N[k] := by simpa using List.find?_some hf
      have h2 := List.mem_of_find?_eq_some hf
      rw [← h1] at e ⊢
      rw [Pw.pick_one h _ h2 e]
      simp

set_option maxRecDepth 8000 in
set_option maxHeartbeats 1000000 in
theorem of_any (L : List M) (v : Value) (N : List (List UInt8)) (u : Value) (w : World) (hv : Mems w v L) (hu : Strs w u N) (hN : ∀ s ∈ N, s.length ≤ 140737488351232) (hlen : N.length ≤ 1000000) :
    Calls Tryd.prog 29 #[v, u] w fun e w' => e = .returned (.int .i64 (Pw.ofL L N : Nat)) ∧ Below w.heap.size w w' := by
  have HV := Lib.hid hv
  have HU := Lib.hid hu
  obtain ⟨A, cap, rfl⟩ := hv.form
  obtain ⟨A2, cap2, rfl, -⟩ := hu
  have HCK := Lib.hid (check_any L _ w HV.out)
  cases hok : Pw.okL L with
  | false =>
    rw [Pw.checkC_bad hok] at HCK
    rw [show Pw.ofL L N = 0 by simp [Pw.ofL, hok]]
    clear hok hv
    go_enter Tryd.func29, Tryd.ntmps29
    go_wp2_with fail
    refine HCK.out.mono ?_
    rintro e w1 ⟨rfl, hb⟩
    go_wp2
    go_ret
    exact ⟨rfl, hb⟩
  | true =>
    rw [Pw.checkC_ok hok] at HCK
    have HOK := Lib.hid hok
    have HT : Hid ((Pw.ofL L N : Nat) = Pw.sumP (Pw.pick L N)) := Lib.hid (by
      have := (Pw.pick_range hok N).1
      simp only [Pw.ofL, hok, if_true]; omega)
    obtain ⟨T, hT⟩ : ∃ T, Pw.ofL L N = T := ⟨_, rfl⟩
    rw [hT] at HT ⊢
    have hl7 := (Pw.okL_len hok).2
    have hmm := @run_makeMap Tryd.prog
    clear hT hok hv
    go_enter Tryd.func29, Tryd.ntmps29
    go_wp2_with fail
    refine HCK.out.mono ?_
    rintro e w1 ⟨rfl, hb⟩
    have HB1 := Lib.hid hb
    clear hb
    go_wp2
    obtain ⟨B, hB⟩ : ∃ B, w1.heap.size = B := ⟨_, rfl⟩
    have HF0 := Lib.hid (FnAt.made strInt w1 B hB.symm)
    have HBB : Hid (w.heap.size ≤ B) := Lib.hid (by rw [← hB]; exact HB1.out.size)
    have HB2 := Lib.hid (HB1.out.alloc HB1.out.size (.map #[] 0))
    rw [hB]
    clear hmm
    go_loopw [17] (fun i wr => ∃ k : Nat, k ≤ L.length ∧ i = .int .i64 k ∧ FnAt strInt wr B (Pw.powF (L.take k)) ∧ Below w.heap.size w wr) (fun i _ => L.length - (intOf i).toNat)
    case atStart => exact ⟨0, Nat.zero_le _, rfl, HF0.out, HB2.out⟩
    case round =>
      obtain ⟨k, hk, rfl, hf, hb⟩ := hrel
      have HB := Lib.hid hb
      have HF := Lib.hid hf
      clear hf hb HF0 HB2
      by_cases hlt : k < L.length
      · have h1 : (k : Int) < (L.length : Int) := by omega
        have h0 : (0 : Int) ≤ (k : Int) := by omega
        obtain ⟨b, o, rfl, n0, n1⟩ := HV.out.at HB.out k hlt
        have HST := Lib.hid (Pw.powF_step HOK.out k hlt)
        have HOKM := Lib.hid (Pw.okL_mem HOK.out L[k] (List.getElem_mem hlt))
        obtain ⟨⟨x, q⟩, hm⟩ : ∃ m, L[k] = m := ⟨_, rfl⟩
        rw [hm] at n0 n1 HST HOKM
        dsimp only at n0 n1 HST HOKM
        clear hm
        have hb' := (Below.refl wr.heap.size wr).alloc (Nat.le_refl _) (.cells #[.string ⟨x.toArray⟩, .int .i64 q] 64)
        obtain ⟨w3, hrun, hf3, ho3, hs3⟩ := FnAt.put (HF.out.below hb') Tryd.underlying97 (s := x) (show x.length ≤ 140737488351232 by have := HOKM.out.2.1; omega) q
        dsimp only [strInt] at hrun
        have hbel3 : Below w.heap.size w w3 := (HB.out.alloc HB.out.size (.cells #[.string ⟨x.toArray⟩, .int .i64 q] 64)).trans (ho3.below (fun k hk => hk ▸ HBB.out) (by have := HB.out.size; simp; omega))
        have HF3 := Lib.hid (hf3.congr (fun s => (HST.out s).symm))
        have HB3 := Lib.hid hbel3
        clear hf3 hbel3 ho3 hs3 hb'
        go_wp2
        exact ⟨⟨k + 1, by omega, by go_num, HF3.out, HB3.out⟩, by simp [intOf]; omega⟩
      · have h1 : ¬ ((k : Int) < (L.length : Int)) := by omega
        obtain rfl : k = L.length := by omega
        have hf2 : FnAt strInt wr B (Pw.leftF L (N.take 0)) := HF.out.congr (fun s => by simp [Pw.leftF])
        have HF2 := Lib.hid hf2
        clear hf2 hk hlt
        go_wp2
        go_loopw [8, 29] (fun t i wx => ∃ j : Nat, j ≤ N.length ∧ i = .int .i64 j ∧ t = .int .i64 (Pw.sumP (Pw.pick L (N.take j))) ∧ FnAt strInt wx B (Pw.leftF L (N.take j)) ∧ Below w.heap.size w wx) (fun _ i _ => N.length - (intOf i).toNat)
        case atStart => exact ⟨0, Nat.zero_le _, rfl, by rw [Pw.pick_nil L N], HF2.out, HB.out⟩
        case round =>
          obtain ⟨j, hj, rfl, rfl, hf, hb⟩ := hrel
          have HBx := Lib.hid hb
          have HFx := Lib.hid hf
          clear hf hb h1
          by_cases hlt : j < N.length
          · have h1 : (j : Int) < (N.length : Int) := by omega
            have h0 : (0 : Int) ≤ (j : Int) := by omega
            obtain ⟨A3, cap3, hv3, hc3⟩ := HU.out.below HBx.out
            obtain ⟨rfl, rfl⟩ : A2 = A3 ∧ cap2 = cap3 := by simpa using hv3
            obtain ⟨p, rfl, n0⟩ := hc3 j hlt
            have HS := Lib.hid (Pw.pick_step HOK.out N j hlt)
            have HL := Lib.hid (Pw.leftF_step L N j hlt)
            have r1 := Pw.pick_range HOK.out (N.take j)
            have r2 := Pw.pick_range HOK.out (N.take (j + 1))
            have HX := Lib.hid (hN N[j] (List.getElem_mem hlt))
            obtain ⟨x, hx⟩ : ∃ x, N[j] = x := ⟨_, rfl⟩
            rw [hx] at n0 HS HL HX
            clear hx hv3 hc3
            have hlook := FnAt.look HFx.out Tryd.underlying97 (s := x) HX.out false (zeroI wr)
            obtain ⟨w3, hrun, hf3, ho3, hs3⟩ := FnAt.drop HFx.out Tryd.underlying97 (s := x) HX.out
            have hlook2 : (Instr.lookup 97 (.map (some B)) (.string ⟨x.toArray⟩) false).run Tryd.prog wr = .ok (.int .i64 ((Pw.leftF L (N.take j) x).getD 0)) wr := by
              refine hlook.trans ?_
              cases Pw.leftF L (N.take j) x <;> rfl
            dsimp only [strInt] at hrun
            have HF3 := Lib.hid (hf3.congr HL.out)
            have HB3 := Lib.hid (HBx.out.trans (ho3.below (fun k hk => hk ▸ HBB.out) HBx.out.size))
            obtain ⟨D, hD⟩ : ∃ D, (Pw.leftF L (N.take j) x).getD 0 = D := ⟨_, rfl⟩
            obtain ⟨S, hS⟩ : ∃ S, Pw.sumP (Pw.pick L (N.take j)) = S := ⟨_, rfl⟩
            rw [hD] at hlook2 HS
            rw [hS] at HS r1 ⊢
            rw [HS.out] at r2
            have r1a : 0 ≤ S ∧ S ≤ 7000 := by omega
            have r2a : 0 ≤ S + D ∧ S + D ≤ 7000 := by omega
            have HR := Lib.hid hrun
            clear hlook hf3 ho3 hs3 hD hS r1 r2 hrun
            go_wp2_with (at_delete; refine wpList_delete_run rfl _ _ _ _ rfl (.map (some B)) (.string ⟨x.toArray⟩) (by rfl) (by rfl) HR.out ?_)
            exact ⟨⟨j + 1, by omega, by go_num, by rw [HS.out], HF3.out, HB3.out⟩, by simp [intOf]; omega⟩
          · have h1 : ¬ ((j : Int) < (N.length : Int)) := by omega
            obtain rfl : j = N.length := by omega
            go_wp2
            go_ret
            refine ⟨ret_i64 ?_, HBx.out⟩
            rw [HT.out]
end Go.Proofs.YtojpkodmpjibkaaDoor
