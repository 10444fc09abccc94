/- TriOfT, TriCover, TriWorks, ArgTActs, TriMade, TriMade2, BookItems, CodeFew, TriLaw, TriSave, TriLoadItem, TriLoadPart, TriLoad, TriGrownMath, TriSavedMath, VerReach, RegionInv, TriCover2, TriShow, ProofMath, ProofPlain, TriUnlike, ProofLaw, ArgItems -/
import Derived.Test.YtjfefphgikncnaaDoorPk13
import Derived.Test.YtjfefphgikncnaaDoorPk12
import Derived.Deep.RegionHeld3
import Derived.Test.YtjfefphgikncnaaDoorPk03
import Derived.Deep.Slices
import Derived.DataReads
import Derived.OpenShut
import Derived.SizedLaws
import Derived.Lib.LaidU8
import Derived.BigQuiet
import Derived.Test.YtjfefphgikncnaaDoorPk02
import Derived.WalkSpells
import Derived.WalkLawsBesides
import Derived.Deep.QuietTactic
import Derived.Test.YtjfefphgikncnaaDoorPk10
import Derived.Test.YtjfefphgikncnaaDoorPk07
import Derived.Test.YtjfefphgikncnaaDoorPk11
import Derived.Test.YtjfefphgikncnaaDoorPk09
import Derived.RegionTactic
namespace Go.Proofs.YtjfefphgikncnaaDoor
open Go.RowKit
open Sto (T St)
open Tri (Tr Ok upd ix hb lay splitT Trim rank)
open Go.Proofs.YtjfefphgikncnaaDoor.Nd (N)

def TOfPost (L : St) (w : World) (e : Ending) (w' : World) : Prop :=
  ∃ z, e = .returned (.tuple #[z, .int .i64 (Tri.ofR [] L).2]) ∧ ((Tri.ofR [] L).2 = 0 → ∃ g', z = ptr g' ∧ TrAt w' g' (Tri.ofR [] L).1) ∧ ((Tri.ofR [] L).2 ≠ 0 → z = nilp) ∧ Below w.heap.size w w'
theorem TOfPost.bad {L S : St} {c : Nat} {w w' : World} (h : Tri.ofR [] L = (S, c)) (hc : c ≠ 0) (hb : Below w.heap.size w w') : TOfPost L w (.returned (.tuple #[.pointer none, .int .i64 c])) w' := ⟨nilp, by rw [h]; rfl, by rw [h]; exact fun e => absurd e hc, fun _ => rfl, hb⟩
theorem TOfPost.good {L S : St} {g' : Nat} {w w' : World} (h : Tri.ofR [] L = (S, 0)) (hT : TrAt w' g' S) (hb : Below w.heap.size w w') : TOfPost L w (.returned (.tuple #[.pointer (some ⟨g', 0, none⟩), .int .i64 0])) w' := ⟨_, by rw [h]; rfl, by rw [h]; exact fun _ => ⟨g', rfl, hT⟩, by rw [h]; exact fun e => absurd rfl e, hb⟩
set_option maxRecDepth 100000 in
set_option maxHeartbeats 2000000 in
theorem tof_wide (L : St) (v : Value) (w : World) (hv : ItIn w v L) (hl : L.length ≤ 5000000000000) (hT : Tab w) :
    Calls Tryd.prog 12 #[v] w (TOfPost L w) := by
  have HV := Lib.hid hv
  have HT := Lib.hid hT
  have HL := Lib.hid hl
  have HNW := Lib.hid (tnew_any w)
  unfold ptr at HNW
  obtain ⟨A, cap, rfl, -, -⟩ := hv.form
  clear hv hT
  go_enter Tryd.func12, Tryd.ntmps12
  go_wp2_with fail
  refine HNW.out.mono ?_
  rintro e w1 ⟨g0, rfl, ht0, -, hb1⟩
  have HB1 := Lib.hid hb1
  have H0 := Lib.hid (ht0.open w.heap.size)
  clear ht0 hb1
  go_wp2
  go_loopw [4, 12] (fun av iv wr => ∃ (k : Nat) (gk : Nat) (S : St), av = .pointer (some ⟨gk, 0, none⟩) ∧ k ≤ L.length ∧ iv = .int .i64 k ∧ OpenAt wr (Fm.from w.heap.size) gk S ∧ Tri.ofR [] L = Tri.ofR S (L.drop k) ∧ Below w.heap.size w wr) (fun _ i _ => L.length - (intOf i).toNat)
  case atStart => exact ⟨0, g0, [], rfl, Nat.zero_le _, rfl, H0.out, rfl, HB1.out⟩
  case round =>
    obtain ⟨k, gk, S, rfl, hk, rfl, hop, hof, hb⟩ := hrel
    have HB := Lib.hid hb
    have HOF := Lib.hid hof
    by_cases hlt : k < L.length
    · have h1 : (k : Int) < (L.length : Int) := by omega
      have h0 : (0 : Int) ≤ (k : Int) := by omega
      have hnb : (k : Int) ≤ 5000000000000 := by omega
      have HVW := Lib.hid (RowsIn.below HV.out hb)
      obtain ⟨b, o, rfl, n0, n1⟩ := ItIn.at HVW.out k hlt
      have HST := Lib.hid (Tri.ofR_step (S := S) hlt)
      have HSB := Lib.hid (Tri.ofR_bad (S := S) hlt)
      obtain ⟨x, hx⟩ : ∃ x, L[k].1 = x := ⟨_, rfl⟩
      obtain ⟨y, hy⟩ : ∃ y, L[k].2 = y := ⟨_, rfl⟩
      rw [hx, hy] at HST HSB
      rw [hx] at n0
      rw [hy] at n1
      have hba : Below wr.heap.size wr (wr.alloc (.cells #[.string ⟨x.toArray⟩, .string ⟨y.toArray⟩] 42)) := (Below.refl _ wr).alloc (Nat.le_refl _) _
      have HWI := Lib.hid (twith_any x y (wr.alloc (.cells #[.string ⟨x.toArray⟩, .string ⟨y.toArray⟩] 42)) (Fm.from w.heap.size) (fun g hg _ => Nat.le_trans hb.size (Nat.le_trans hba.size hg)) (hop.below hba))
      have HBA : Hid (∀ w', Below (wr.alloc (.cells #[.string ⟨x.toArray⟩, .string ⟨y.toArray⟩] 42)).heap.size (wr.alloc (.cells #[.string ⟨x.toArray⟩, .string ⟨y.toArray⟩] 42)) w' → Below w.heap.size w w') := Lib.hid (fun w' h => HB.out.trans ((bchain hba h).mono HB.out.size))
      unfold TWithPost ptr at HWI
      obtain ⟨c, hc⟩ : ∃ c, Tri.putC S x y = c := ⟨_, rfl⟩
      rw [hc] at HWI HST HSB
      clear hop hof hb hx hy hba hc
      go_wp2_with fail
      refine HWI.out.mono ?_
      rintro e w2 ⟨z, rfl, hz1, hz0, hb2⟩
      have HB2 := Lib.hid (HBA.out _ hb2)
      by_cases hc0 : c = 0
      · obtain ⟨g', rfl, -, hop2⟩ := hz1 hc0
        subst hc0
        replace HST := Lib.hid (HST.out rfl)
        have HOP := Lib.hid hop2
        clear hz1 hz0 hb2 hop2
        go_wp2
        exact ⟨⟨k + 1, g', Tri.put S x y, rfl, by omega, by go_num, HOP.out, by rw [HOF.out]; exact HST.out, HB2.out⟩, by simp [intOf]; omega⟩
      · have hc1 : ((c : Int) == 0) = false := by rw [beq_eq_false_iff_ne]; omega
        have e1 : z = .pointer none := hz0 hc0
        subst e1
        have HC := Lib.hid hc0
        clear hz1 hz0 hb2 hc0
        go_wp2
        go_ret2
        exact TOfPost.bad (HOF.out.trans (HSB.out HC.out)) HC.out HB2.out
    · obtain rfl : k = L.length := by omega
      have h1 : ¬ ((L.length : Int) < (L.length : Int)) := by omega
      have HEND : Hid (Tri.ofR [] L = (S, 0)) := Lib.hid (by rw [HOF.out, List.drop_length]; rfl)
      obtain ⟨top, t, hr, hp, hs⟩ := hop
      have HSE := Lib.hid (seal_to t top wr w.heap.size HT.out.pos hb.size (HT.out.mid hb HT.out.pos) hs.ok hp)
      have HR := Lib.hid hr
      have HS := Lib.hid hs
      have m0 := hr.top
      clear hof hb hr hp hs
      go_wp2_with fail
      refine HSE.out.mono ?_
      rintro e w2 ⟨rfl, hp2, hk2, hb2⟩
      have HTR : Hid (TrAt w2 gk S) := Lib.hid ⟨top, t, hk2.2.2 _ _ _ _ (by decide) HR.out, hp2.sealed (fun _ _ e => by cases e) true, HS.out⟩
      have HB2 := Lib.hid (HB.out.trans hb2)
      clear hp2 hk2 hb2
      go_wp2
      go_ret2
      exact TOfPost.good HEND.out HTR.out HB2.out
theorem tof_in (L : St) (v : Value) (w : World) (hv : ItIn w v L) (hl : L.length ≤ 10000) (hT : Tab w) :
    Calls Tryd.prog 12 #[v] w (TOfPost L w) := tof_wide L v w hv (by omega) hT
theorem tof_any (L : St) (v : Value) (w : World) (hv : ItAt w v L) (hl : L.length ≤ 10000) (hT : Tab w) :
    Calls Tryd.prog 12 #[v] w (TOfPost L w) := tof_in L v w hv.inn hl hT
end Go.Proofs.YtjfefphgikncnaaDoor
namespace Go.Proofs.YtjfefphgikncnaaDoor
open Go.RowKit
open Sto (T)
open Tri (Tr Ok upd ix hb lay splitT Trim rank)
open Go.Proofs.YtjfefphgikncnaaDoor.Nd (N)

set_option maxRecDepth 100000 in
theorem trail_wants {c : Nat} {path : T} (w : World) (hc : w.heap[c]? = some (.cells #[.string ⟨path.toArray⟩] 9 (0, 0))) : Wants w 29 #[.pointer (some ⟨c, 0, none⟩)] (fun p => Tri.begins p path) where
  call := fun _ _ => rfl
  step := fun w' p hb _ _ => by
    show Calls Tryd.prog 29 #[.string ⟨p.toArray⟩, .pointer (some ⟨c, 0, none⟩)] w' _
    have c0 := cell_of_one ((hb.block c (lt_of_heap hc)).trans hc)
    have HP := Lib.hid (fun w => prefix_any path p w)
    unfold Tri.begins
    go_enter Tryd.func29, Tryd.ntmps29
    go_wp2_with fail
    refine (HP.out _).mono ?_
    rintro e w1 ⟨rfl, rfl⟩
    go_wp2
    go_ret
    exact ⟨rfl, Below.refl _ _⟩
set_option maxRecDepth 100000 in
set_option maxHeartbeats 1000000 in
theorem trail_any {g : Nat} {t : Tr} {top n : Value} (key : T) (w : World) (hl : key.length ≤ 1000) (hg : w.heap[g]? = some (.cells #[top, n] 54 (0, 0))) (hs : Sealed w t top) :
    Calls Tryd.prog 18 #[ptr g, .string ⟨key.toArray⟩] w (TextsPost w (wantedT (fun p => Tri.begins p (Nib.ofL key)) t)) := by
  have hmf : ∀ (fn : Fn) (first cap : Array Value) (w : World), (Instr.makeFunc fn first cap).run Tryd.prog w = .ok (.func fn first cap) w := fun _ _ _ _ => rfl
  have HOF := Lib.hid (fun w => of_any key w (by omega))
  have HT : Hid (∀ w1 path, Below w.heap.size w w1 → Calls Tryd.prog 28 #[ptr g, .func (.func 29) #[] #[.pointer (some ⟨w1.heap.size, 0, none⟩)]] (w1.alloc (.cells #[.string ⟨path.toArray⟩] 9)) (TextsPost (w1.alloc (.cells #[.string ⟨path.toArray⟩] 9)) (wantedT (fun p => Tri.begins p path) t))) := Lib.hid (fun w1 path hb => by
    have hb2 := hb.alloc hb.size (.cells #[.string ⟨path.toArray⟩] 9)
    exact texts_any _ ((hb2.block g (lt_of_heap hg)).trans hg) (hs.below hb2) (trail_wants _ (heap_alloc_new w1 _)) (down_begins path))
  unfold TextsPost ptr at HT
  unfold TextsPost ptr
  obtain ⟨P, hP⟩ : ∃ P, Nib.ofL key = P := ⟨_, rfl⟩
  rw [hP] at HOF ⊢
  clear hg hs hP
  go_enter Tryd.func18, Tryd.ntmps18
  go_wp2_with fail
  refine (HOF.out _).mono ?_
  rintro e w1 ⟨rfl, hb1⟩
  have HB1 := Lib.hid hb1
  clear hb1
  go_wp2_with fail
  refine (HT.out w1 P HB1.out).mono ?_
  rintro e w2 ⟨z, rfl, ho, hb⟩
  have HB2 : Hid (Below w.heap.size w w2) := Lib.hid (bchain (HB1.out.alloc HB1.out.size _) hb)
  have HO : Hid (Own w2 w.heap.size z (wantedT (fun p => Tri.begins p P) t)) := Lib.hid (own_lowS ho (by have := HB1.out.size; simp; omega))
  clear ho hb
  go_wp2
  go_ret
  exact ⟨z, rfl, HO.out, HB2.out⟩
end Go.Proofs.YtjfefphgikncnaaDoor
namespace Go.Proofs.YtjfefphgikncnaaDoor
open Go.RowKit
open Sto (T St)
open Tri (Tr Ok upd ix hb lay splitT Trim rank)
open Go.Proofs.YtjfefphgikncnaaDoor.Nd (N)

namespace Tri
def wK : St := [([107], [118])]
theorem wK_of : ofR [] wK = (wK, 0) := by decide +kernel
theorem wU_tree : TreeOf wK (.leaf [6, 11] [118]) := by
  have h0 : TreeOf [] .nil := ⟨trivial, trivial, rfl⟩
  have h1 : TreeOf (put [] [107] [118]) (Tr.put .nil (Nib.ofL [107]) [118]) := h0.put (by decide)
  exact h1
theorem wU_text : Nd.written (Tr.node Nd.sumS (.leaf [6, 11] [118])) = [1, 1, 2, 32, 107, 1, 1, 118] := by decide +kernel
end Tri
theorem wanted_all (t : Tr) : wantedT (fun _ => true) t = (t.spots Nd.sumS []).map fun x => Nd.written x.2 := by
  unfold wantedT
  rw [List.filter_eq_self.2 (fun _ _ => rfl)]
/-- What a trie's nodes are. -/
theorem TrAt.tree {w : World} {g : Nat} {S : St} (h : TrAt w g S) : ∃ top t, TRow w g top S.length ∧ PAt w (Fm.from 0) true t top ∧ TrS S t := h
end Go.Proofs.YtjfefphgikncnaaDoor
namespace Go.Proofs.YtjfefphgikncnaaDoor
open Go.RowKit Go.ChangeShapes Go.WideShapes

/-- An act. -/
structure ActT where
  kind : Int
  key : List UInt8
  val : List UInt8
instance : Inhabited ActT := ⟨⟨0, [], []⟩⟩
def TActs (w : World) (v : Value) (L : List ActT) : Prop :=
  ∃ (A : Option Addr) (cap : Nat), v = .slice A L.length cap ∧ (0 < L.length → ∃ b o, A = some ⟨b, o, none⟩ ∧ b < w.heap.size ∧ ∀ i (h : i < L.length),
    w.cell? ⟨b, o + i * 3, none⟩ = some (.int .i64 L[i].kind) ∧ w.cell? ⟨b, o + i * 3 + 1, none⟩ = some (.string ⟨L[i].key.toArray⟩) ∧ w.cell? ⟨b, o + i * 3 + 2, none⟩ = some (.string ⟨L[i].val.toArray⟩))
theorem TActs.below {w w' : World} {v : Value} {L : List ActT} (h : TActs w v L) (hb : Below w.heap.size w w') : TActs w' v L := by
  obtain ⟨A, cap, rfl, hc⟩ := h
  refine ⟨A, cap, rfl, fun h0 => ?_⟩
  obtain ⟨b, o, rfl, hlt, hcell⟩ := hc h0
  refine ⟨b, o, rfl, Nat.lt_of_lt_of_le hlt hb.size, fun i hi => ?_⟩
  obtain ⟨h1, h2, h3⟩ := hcell i hi
  exact ⟨(hb.cell hlt).trans h1, (hb.cell hlt).trans h2, (hb.cell hlt).trans h3⟩
theorem TActs.form {w : World} {v : Value} {L : List ActT} (h : TActs w v L) : ∃ A cap, v = .slice A L.length cap := by
  obtain ⟨A, cap, rfl, _⟩ := h
  exact ⟨A, cap, rfl⟩
theorem TActs.at {w w' : World} {A : Option Addr} {n cap : Nat} {L : List ActT} (h : TActs w (.slice A n cap) L) (hb : Below w.heap.size w w') (k : Nat) (hk : k < L.length) :
    ∃ b o, A = some ⟨b, o, none⟩ ∧ b < w.heap.size ∧ w'.cell? ⟨b, o + k * 3, none⟩ = some (.int .i64 L[k].kind) ∧ w'.cell? ⟨b, o + k * 3 + 1, none⟩ = some (.string ⟨L[k].key.toArray⟩) ∧ w'.cell? ⟨b, o + k * 3 + 2, none⟩ = some (.string ⟨L[k].val.toArray⟩) := by
  obtain ⟨A0, cap0, hv0, hc0⟩ := h
  obtain ⟨rfl, rfl, rfl⟩ : A = A0 ∧ n = L.length ∧ cap = cap0 := by simpa using hv0
  obtain ⟨b, o, rfl, hlt, hcell⟩ := hc0 (by omega)
  obtain ⟨h1, h2, h3⟩ := hcell k hk
  exact ⟨b, o, rfl, hlt, (hb.cell hlt).trans h1, (hb.cell hlt).trans h2, (hb.cell hlt).trans h3⟩

end Go.Proofs.YtjfefphgikncnaaDoor
namespace Go.Proofs.YtjfefphgikncnaaDoor
open Go.RowKit
open Sto (T St)
open Tri (Tr)

end Go.Proofs.YtjfefphgikncnaaDoor
namespace Go.Proofs.YtjfefphgikncnaaDoor
open Go.RowKit
open Sto (T St)
open Tri (Tr)

end Go.Proofs.YtjfefphgikncnaaDoor
namespace Go.Proofs.YtjfefphgikncnaaDoor
open Go.RowKit
open Sto (T St)

end Go.Proofs.YtjfefphgikncnaaDoor
namespace Go.Proofs.YtjfefphgikncnaaDoor
open Go.RowKit

def Code.few (L : List (List UInt8)) (n e : Nat) : Bool := decide (L.length ≤ n) && L.all fun s => decide (s.length ≤ e)
theorem Code.few_iff (L : List (List UInt8)) (n e : Nat) : Code.few L n e = true ↔ L.length ≤ n ∧ ∀ s ∈ L, s.length ≤ e := by simp [Code.few]
theorem Code.all_snoc (L : List (List UInt8)) (e k : Nat) (h : k < L.length) : ((L.take (k + 1)).all fun s => decide (s.length ≤ e)) = (((L.take k).all fun s => decide (s.length ≤ e)) && decide (L[k].length ≤ e)) := by
  rw [List.take_succ_eq_append_getElem h, List.all_append]
  simp only [List.all_cons, List.all_nil, Bool.and_true]

set_option maxHeartbeats 400000 in
theorem few_any (L : List (List UInt8)) (v : Value) (n e : Nat) (w : World) (hs : Strs w v L) (hl : L.length ≤ maxLen) :
    Calls Tryd.prog 11 #[v, .int .i64 n, .int .i64 e] w fun x w' => x = .returned (.bool (Code.few L n e)) ∧ w' = w := by
  obtain ⟨A, cap, rfl, hc⟩ := hs
  unfold maxLen at hl
  by_cases hbig : L.length > n
  · have hf : Code.few L n e = false := by rw [Code.few, decide_eq_false (by omega)]; rfl
    rw [hf]
    clear hf hc
    have hb : (L.length : Int) > n := by omega
    go_enter Tryd.func11, Tryd.ntmps11
    go_wp2
    go_ret
    exact ⟨rfl, rfl⟩
  · have hf : Code.few L n e = L.all fun s => decide (s.length ≤ e) := by rw [Code.few, decide_eq_true (by omega)]; rfl
    have HF := Lib.hid hf
    have hb : ¬ ((L.length : Int) > n) := by omega
    clear hbig hf
    go_enter Tryd.func11, Tryd.ntmps11
    go_wp2
    go_loop [7] (fun i => ∃ k : Nat, k ≤ L.length ∧ i = .int .i64 k ∧ ((L.take k).all fun s => decide (s.length ≤ e)) = true) (fun i => L.length - (intOf i).toNat)
    case atStart => exact ⟨0, Nat.zero_le _, rfl, rfl⟩
    case round =>
      obtain ⟨k, hk, rfl, hall⟩ := hrel
      have HA := Lib.hid hall
      clear hall
      by_cases hlt : k < L.length
      · have h1 : (k : Int) < (L.length : Int) := by omega
        obtain ⟨a, rfl, hcell⟩ := hc k hlt
        clear hc
        have hsn := Lib.hid (Code.all_snoc L e k hlt)
        have hmem := Lib.hid (List.getElem_mem hlt)
        obtain ⟨t, ht⟩ : ∃ t, L[k] = t := ⟨_, rfl⟩
        rw [ht] at hcell hsn hmem
        clear ht
        by_cases hte : t.length ≤ e
        · have h2 : ¬ ((t.length : Int) > (e : Int)) := by omega
          go_wp2
          go_round
          case rel => exact ⟨k + 1, by omega, by go_num, by rw [hsn.out, HA.out, decide_eq_true hte]; rfl⟩
          case measure => simp [intOf]; omega
        · have h2 : (t.length : Int) > (e : Int) := by omega
          have hno : (L.all fun s => decide (s.length ≤ e)) = false := by
            rw [List.all_eq_false]
            exact ⟨t, hmem.out, by simpa using hte⟩
          have HN := Lib.hid hno
          clear hno
          go_wp2
          go_ret
          refine ⟨?_, rfl⟩
          rw [HF.out, HN.out]
          rfl
      · go_wp2
        go_ret
        refine ⟨?_, rfl⟩
        have HB := HA.out
        rw [List.take_of_length_le (by omega)] at HB
        rw [HF.out, HB]
        rfl

theorem Code.take_snoc_eq {L M : List (List UInt8)} {k : Nat} (h1 : k < L.length) (h2 : k < M.length) : L.take (k + 1) = M.take (k + 1) ↔ L.take k = M.take k ∧ L[k] = M[k] := by
  rw [List.take_succ_eq_append_getElem h1, List.take_succ_eq_append_getElem h2]
  constructor
  · intro h
    have := List.append_inj' h rfl
    exact ⟨this.1, by simpa using this.2⟩
  · rintro ⟨a, b⟩
    rw [a, b]

set_option maxHeartbeats 400000 in
theorem same_any (L M : List (List UInt8)) (u v : Value) (w : World) (hu : Strs w u L) (hv : Strs w v M) (hl : L.length ≤ 100000000) (hm : M.length ≤ maxLen) :
    Calls Tryd.prog 13 #[u, v] w fun x w' => x = .returned (.bool (decide (L = M))) ∧ Below w.heap.size w w' := by
  obtain ⟨A, cap, rfl, hc⟩ := hu
  obtain ⟨B, cap2, rfl, hd⟩ := hv
  unfold maxLen at hm
  by_cases he : L.length = M.length
  · have h0 : ((L.length : Int) == (M.length : Int)) = true := by rw [beq_iff_eq]; omega
    have he' := Lib.hid he
    go_enter Tryd.func13, Tryd.ntmps13
    go_wp2
    go_loopw [5, 6] (fun s i wr => ∃ k : Nat, k ≤ L.length ∧ s = .bool (decide (L.take k = M.take k)) ∧ i = .int .i64 k ∧ Below w.heap.size w wr ∧ (L.take k ≠ M.take k → L ≠ M)) (fun _ i _ => L.length - (intOf i).toNat)
    case atStart => exact ⟨0, Nat.zero_le _, by simp, rfl, Below.refl _ _, by simp⟩
    case round =>
      obtain ⟨k, hk, rfl, rfl, hbel, hno⟩ := hrel
      have HN := Lib.hid hno
      clear hno
      rcases htk : decide (L.take k = M.take k) with _ | _
      · have HT := Lib.hid htk
        clear htk
        go_wp2
        go_ret
        refine ⟨?_, hbel⟩
        have h := HN.out (of_decide_eq_false HT.out)
        rw [decide_eq_false h]
        rfl
      · have HT := Lib.hid htk
        clear htk
        by_cases hlt : k < L.length
        · have h1 : (k : Int) < (L.length : Int) := by omega
          have h2 : (k : Int) < (M.length : Int) := by omega
          obtain ⟨a, rfl, hcell⟩ := hc k hlt
          obtain ⟨b, rfl, hdell⟩ := hd k (by omega)
          have hcell1 := (hbel.cell (World.block_lt_of_cell? _ _ hcell)).trans hcell
          have hdell1 := (hbel.cell (World.block_lt_of_cell? _ _ hdell)).trans hdell
          have hsn := Lib.hid (Code.take_snoc_eq hlt (show k < M.length by omega))
          clear hc hd hcell hdell
          obtain ⟨s, hs⟩ : ∃ s, L[k] = s := ⟨_, rfl⟩
          obtain ⟨t, ht⟩ : ∃ t, M[k] = t := ⟨_, rfl⟩
          rw [hs] at hcell1 hsn
          rw [ht] at hdell1 hsn
          clear hs ht
          go_wp2
          go_quiet (fail)
          go_wp2
          go_roundw
          case rel =>
            refine ⟨k + 1, by omega, ?_, by go_num, bel_drewN hbel _, ?_⟩
            · have e := hsn.out
              have e1 := of_decide_eq_true HT.out
              by_cases hst : s = t
              · rw [decide_eq_true (e.2 ⟨e1, hst⟩)]; simp [hst]
              · rw [decide_eq_false (fun h => hst (e.1 h).2)]; simp [hst]
            · intro h hLM
              subst hLM
              exact h rfl
          case measure => simp [intOf]; omega
        · go_wp2
          go_ret
          refine ⟨?_, hbel⟩
          have e := of_decide_eq_true HT.out
          have he2 := he'.out
          rw [List.take_of_length_le (by omega), List.take_of_length_le (by omega)] at e
          rw [decide_eq_true e]
          rfl
  · have h0 : ((L.length : Int) == (M.length : Int)) = false := by rw [beq_eq_false_iff_ne]; omega
    have hne : decide (L = M) = false := decide_eq_false (fun h => he (by rw [h]))
    rw [hne]
    clear he hc hd hne
    go_enter Tryd.func13, Tryd.ntmps13
    go_wp2
    go_loop [5, 6] (fun s i => s = .bool false ∧ i = .int .i64 0) (fun _ _ => 0)
    case atStart => exact ⟨rfl, rfl⟩
    case round =>
      obtain ⟨rfl, rfl⟩ := hrel
      go_wp2
      go_ret
      exact ⟨rfl, Below.refl _ _⟩

end Go.Proofs.YtjfefphgikncnaaDoor
namespace Go.Proofs.YtjfefphgikncnaaDoor
open Go.RowKit
open Sto (T St)
open Tri (Tr)

/-- The tree of items. -/
def treeS (S : St) : Tr := S.foldr (fun x t => t.put (Nib.ofL x.1) x.2) .nil
theorem treeS_tree (S : St) (hS : Sto.Rising S) (hv : ∀ p ∈ S, p.2 ≠ []) : Tri.TreeOf S (treeS S) := by
  induction S with
  | nil => exact ⟨trivial, trivial, rfl⟩
  | cons a r ih =>
    obtain ⟨h1, h2⟩ := List.pairwise_cons.1 hS
    have h3 := (ih h2 fun p h => hv p (List.mem_cons_of_mem _ h)).put (k := a.1) (hv a (List.mem_cons_self ..))
    have e : Tri.put r a.1 a.2 = a :: r := by
      cases r with
      | nil => rfl
      | cons b r =>
        have hab := h1 b (List.mem_cons_self ..)
        rw [Tri.put, if_neg (fun h => List.lt_irrefl _ (List.lt_trans h hab)), if_neg (fun e => Sto.lt_ne hab e.symm)]
    rw [e] at h3
    exact h3
theorem treeS_of {S : St} {t : Tr} (h : TrS S t) : treeS S = t :=
  (treeS_tree S h.rise fun p hp e => by have := (h.fair p hp).2.2.1; rw [e] at this; simp at this).one h.tree
def rootS (S : St) : T := (treeS S).sum Nd.sumS
def nodesS (S : St) : List T := wantedT (fun _ => true) (treeS S)
theorem sroot_any {g : Nat} {S : St} (w : World) (h : TrAt w g S) :
    Calls Tryd.prog 9 #[ptr g] w fun e w' => e = .returned (.string ⟨(rootS S).toArray⟩) ∧ Below w.heap.size w w' := by
  obtain ⟨top, t, h1, h2, h3⟩ := h
  unfold rootS
  rw [treeS_of h3]
  exact troot_any w h1 h2 h3.ok
end Go.Proofs.YtjfefphgikncnaaDoor
namespace Go.Proofs.YtjfefphgikncnaaDoor
open Go.RowKit
open Sto (T St)
open Tri (Tr Ok hb)
open Go.Proofs.YtjfefphgikncnaaDoor.Nd (N)

/-- Two unlike texts of one sum. -/
def Clash (L : List T) : Prop := ∃ s ∈ L, ∃ t ∈ L, s ≠ t ∧ Sto.sumOf s = Sto.sumOf t
/-- A store that has some of these texts, each at its sum. -/
structure OfTexts (st : St) (C : List T) : Prop where
  rise : Sto.Rising st
  own : OwnSums st
  of : ∀ x t, Sto.look st x = some t → t ∈ C
theorem OfTexts.nil (C : List T) : OfTexts [] C := ⟨Sto.rising_nil, OwnSums.nil, fun x t h => by cases h⟩
theorem OfTexts.put {st : St} {C : List T} (h : OfTexts st C) {t : T} (ht : t ∈ C) (hn : ¬ Clash C) : OfTexts (Sto.put st (Sto.sumOf t) t) C ∧ Sto.look (Sto.put st (Sto.sumOf t) t) (Sto.sumOf t) = some t ∧ ∀ x y, Sto.look st x = some y → Sto.look (Sto.put st (Sto.sumOf t) t) x = some y := by
  have hown := h.own.put h.rise t
  have hkeep : ∀ x y, Sto.look st x = some y → Sto.look (Sto.put st (Sto.sumOf t) t) x = some y := fun x y hl => by
    obtain ⟨s, hs⟩ : ∃ s, Sto.sumOf t = s := ⟨_, rfl⟩
    rw [hs, Sto.look_put h.rise]
    by_cases e : x = s
    · rw [if_pos e, ← e, hl]; rfl
    · rw [if_neg e]; exact hl
  have hit : Sto.look (Sto.put st (Sto.sumOf t) t) (Sto.sumOf t) = some t := by
    obtain ⟨s, hs⟩ : ∃ s, Sto.sumOf t = s := ⟨_, rfl⟩
    rw [hs, Sto.look_put h.rise, if_pos rfl]
    cases hl : Sto.look st s with
    | none => rfl
    | some y =>
      have hy := h.of s y hl
      have hys := h.own s y hl
      by_cases e : y = t
      · rw [e]; rfl
      · exact absurd ⟨y, hy, t, ht, e, hys.trans hs.symm⟩ hn
  refine ⟨⟨Sto.put_rising h.rise _ _, hown, fun x y hl => ?_⟩, hit, hkeep⟩
  obtain ⟨s, hs⟩ : ∃ s, Sto.sumOf t = s := ⟨_, rfl⟩
  rw [hs, Sto.look_put h.rise] at hl
  by_cases e : x = s
  · rw [if_pos e] at hl
    cases hk : Sto.look st s with
    | none =>
      rw [hk] at hl
      have e2 : t = y := Option.some.inj hl
      rw [← e2]; exact ht
    | some z =>
      rw [hk] at hl
      have e2 : z = y := Option.some.inj hl
      rw [← e2]; exact h.of _ _ hk
  · rw [if_neg e] at hl
    exact h.of _ _ hl
theorem sumS_of {n : N} (h : Nd.fine n = true) : Nd.sumS n = Sto.sumOf (Nd.written n) := by
  unfold Nd.sumS Sto.sumOf
  rw [if_pos h]
theorem nodesS_nodes {S : St} {t : Tr} (h : TrS S t) : nodesS S = (t.nodes Nd.sumS).map Nd.written := by
  unfold nodesS
  rw [treeS_of h, wanted_all, ← Tri.spots_nodes Nd.sumS t [], List.map_map]
  rfl
theorem nodes_fine {t : Tr} (h : Ok t) : ∀ n ∈ t.nodes Nd.sumS, Nd.fine n = true ∧ n.kids.length = 16 := by
  induction t with
  | nil => intro n hn; cases hn
  | leaf p v => intro n hn; rw [List.mem_singleton.1 hn]; exact ⟨h.fine id, Tri.node_kids ..⟩
  | ext p t ih =>
    intro n hn
    rcases List.mem_cons.1 hn with e | e
    · rw [e]; exact ⟨h.fine id, Tri.node_kids ..⟩
    · exact ih ⟨h.canon.2.2, h.fits.2, h.small.2⟩ n e
  | br v k ih =>
    intro n hn
    rcases List.mem_cons.1 hn with e | e
    · rw [e]; exact ⟨h.fine id, Tri.node_kids ..⟩
    · obtain ⟨i, _, hi⟩ := List.mem_flatMap.1 e
      exact ih i ⟨h.canon.1 i, h.fits i, h.small.2 i⟩ n hi
theorem nodesS_short {S : St} {t : Tr} (h : TrS S t) : ∀ x ∈ nodesS S, x.length ≤ 999 := by
  intro x hx
  rw [nodesS_nodes h] at hx
  obtain ⟨n, hn, rfl⟩ := List.mem_map.1 hx
  obtain ⟨h1, h2⟩ := nodes_fine h.ok n hn
  have := Nd.written_most n h2 h1
  omega
/-- A trie that a map's change leaves as it was. -/
theorem TrAt.out {w w' : World} {g m : Nat} {S : St} (h : TrAt w g S) (ho : Out (fun j => j = m) w w') (hm : ∀ cs t f, w.heap[m]? ≠ some (.cells cs t f)) : TrAt w' g S := by
  obtain ⟨top, t, h1, h2, h3⟩ := h
  refine ⟨top, t, ho.heap h1 (fun e => hm _ _ _ (by rw [← e]; exact h1)), h2.change (fun _ _ _ h => h) fun g k p x K s s2 _ hr => ho.heap hr (fun e => hm _ _ _ (by rw [← e]; exact hr)), h3⟩
end Go.Proofs.YtjfefphgikncnaaDoor
namespace Go.Proofs.YtjfefphgikncnaaDoor
open Go.RowKit
open Sto (T St)
open Tri (Tr Ok hb)
open Go.Proofs.YtjfefphgikncnaaDoor.Nd (N)

def Fm.up (B : Nat) : Fm := fun _ g => B ≤ g
theorem PAt.up {w w' : World} {B : Nat} {s : Bool} {t : Tr} {v : Value} (h : PAt w (Fm.up B) s t v) (ho : ∀ g, B ≤ g → g < w.heap.size → w'.heap[g]? = w.heap[g]?) : PAt w' (Fm.up B) s t v :=
  h.change (fun _ _ _ h => h) fun g _ _ _ _ _ _ hg hr => (ho g hg (lt_of_heap hr)).trans hr
end Go.Proofs.YtjfefphgikncnaaDoor
namespace Go.Proofs.YtjfefphgikncnaaDoor
open Go.RowKit
open Sto (T St)
open Tri (Tr Ok hb)
open Go.Proofs.YtjfefphgikncnaaDoor.Nd (N)

theorem Loaded.parts {S : St} {sum place : T} {inE : Bool} {t : Tr} {kd : Nat} {P V : T} {L : List T} (h : Loaded S sum place inE t) (hd : Sto.nodeOf S sum = (⟨kd, P, V, L⟩, 0)) : t.kind = kd ∧ t.pth = P ∧ t.vl = V := by
  have e := h.node
  rw [hd, Tri.node_kid _ h.nn] at e
  simp only [Prod.mk.injEq, N.mk.injEq, and_true] at e
  exact ⟨by omega, e.2.1.symm, e.2.2.1.symm⟩
/-- A kid that is refused: so is the whole. -/
theorem LdI.bad {S : St} {n kd : Nat} {P V place sum : T} {L : List T} {hL : L.length = 16} {inE : Bool} {i : Nat} (hi : i < 16) {k : Fin 16 → Tr} {ni : Nat} (hk : ∀ j : Fin 16, j.val < i → KidOf S kd (place ++ P) (L[j.val]'(by rw [hL]; exact j.isLt)) j (k j)) (hni : ni = n + ownN V + cntK k i)
    (hd : Sto.nodeOf S sum = (⟨kd, P, V, L⟩, 0)) (hx : L[i]'(by omega) ≠ []) (hbad : ∀ t, Loaded S (L[i]'(by omega)) (placeT kd (place ++ P) ⟨i, hi⟩) (decide (kd = 2)) t → 1024 < ni + t.items.length) : ∀ t, Loaded S sum place inE t → 1024 < n + t.items.length := by
  intro t ht
  have hko := fun j => ht.kidOf hd (kind := kd) rfl hL j
  obtain ⟨e1, e2, e3⟩ := ht.parts hd
  have h1 : Loaded S (L[i]'(by omega)) (placeT kd (place ++ P) ⟨i, hi⟩) (decide (kd = 2)) (t.kid ⟨i, hi⟩) := by
    rcases hko ⟨i, hi⟩ with ⟨h, _⟩ | ⟨_, h⟩
    · exact absurd h hx
    · exact h
  have h2 := hbad _ h1
  have h3 := items_count ht.ok ht.nn
  have h4 := cntK_step t.kid i hi
  have h5 := cntK_mono t.kid (i := i + 1) (j := 16) (by omega) (by omega)
  have h6 : cntK k i = cntK t.kid i := cntK_same fun j hj => (hk j hj).one (hko j)
  rw [e3] at h3
  omega
end Go.Proofs.YtjfefphgikncnaaDoor
namespace Go.Proofs.YtjfefphgikncnaaDoor
open Go.RowKit
open Sto (T St)
open Tri (Tr Ok hb)
open Go.Proofs.YtjfefphgikncnaaDoor.Nd (N)

end Go.Proofs.YtjfefphgikncnaaDoor
namespace Go.Proofs.YtjfefphgikncnaaDoor.Tri
open Sto (T St Rising keys)
open Go.Proofs.YtjfefphgikncnaaDoor.Nd (N)

end Go.Proofs.YtjfefphgikncnaaDoor.Tri
namespace Go.Proofs.YtjfefphgikncnaaDoor
open Go.RowKit
open Sto (T St)
open Tri (Tr Ok hb)

theorem paths_inj {S U : St} (h : Tri.paths S = Tri.paths U) : S = U := by
  unfold Tri.paths at h
  refine (List.map_inj_right fun x y e => ?_).1 h
  have e1 := congrArg Prod.fst e
  have e2 := congrArg Prod.snd e
  exact Prod.ext ((Tri.ofL_eq _ _).1 e1) e2
theorem TrS.one {S U : St} {t : Tr} (h : TrS S t) (k : TrS U t) : S = U := paths_inj (h.tree.2.2.symm.trans k.tree.2.2)
/-- Of tries whose nodes are in one store, those of one sum have the same items. -/
theorem TrS.same {S U st : St} {t u : Tr} (h : TrS S t) (k : TrS U u) (ht : t.inS st) (hu : u.inS st) (e : t.sum Nd.sumS = u.sum Nd.sumS) : S = U := by
  by_cases n1 : t.isNil
  · by_cases n2 : u.isNil
    · rw [Tri.nil_of_isNil n1] at h; rw [Tri.nil_of_isNil n2] at k
      exact h.one k
    · rw [Tri.nil_of_isNil n1] at e
      exact absurd e.symm (k.ok.sum_ne n2)
  · by_cases n2 : u.isNil
    · rw [Tri.nil_of_isNil n2] at e
      exact absurd e (h.ok.sum_ne n1)
    · have := inS_one h.ok k.ok n1 n2 ht hu e
      subst this
      exact h.one k
theorem rootS_tree {S : St} {t : Tr} (h : TrS S t) : rootS S = t.sum Nd.sumS := by
  unfold rootS
  rw [treeS_of h]
theorem root_short {S : St} {t : Tr} (h : TrS S t) : (rootS S).length ≤ 32 := by
  rw [rootS_tree h]
  by_cases hn : t.isNil
  · rw [Tri.nil_of_isNil hn]; simp [Tri.Tr.sum]
  · rw [h.ok.sum_len hn]; omega
end Go.Proofs.YtjfefphgikncnaaDoor
namespace Go.Proofs.YtjfefphgikncnaaDoor
open Sto (T St)
open Tri (Tr Ok hb)
open Go.Proofs.YtjfefphgikncnaaDoor.Nd (N)

theorem sum_text {t : Tr} (h : Ok t) (hn : ¬ t.isNil) : t.sum Nd.sumS = Sto.sumOf (Nd.written (t.node Nd.sumS)) := by
  rw [Tri.sum_node _ hn]
  exact sumS_of (h.fine hn)
end Go.Proofs.YtjfefphgikncnaaDoor
namespace Go.Proofs.YtjfefphgikncnaaDoor
open Go

end Go.Proofs.YtjfefphgikncnaaDoor
namespace Go.Proofs.YtjfefphgikncnaaDoor
open Go.RowKit
open Sto (T)
open Tri (Tr Ok upd ix hb lay splitT Trim rank)
open Go.Proofs.YtjfefphgikncnaaDoor.Nd (N)

/-- A variable of the region's own: made once b, and holding P once d. -/
def CovR (w0 w : World) (b d : Option Bool) (P : T) (v : Value) : Prop :=
  b = some true → ∃ c, v = .pointer (some ⟨c, 0, none⟩) ∧ w0.heap.size ≤ c ∧ w.heap[c]? = some (.cells #[.string ⟨(if d = some true then P else []).toArray⟩] 9 (0, 0))
theorem CovR.below {w0 w w' : World} {b d : Option Bool} {P : T} {v : Value} (h : CovR w0 w b d P v) (hb : Below w.heap.size w w') : CovR w0 w' b d P v := fun hx => by
  obtain ⟨c, e, h1, h2⟩ := h hx
  exact ⟨c, e, h1, (hb.block c (lt_of_heap h2)).trans h2⟩
end Go.Proofs.YtjfefphgikncnaaDoor
namespace Go.Proofs.YtjfefphgikncnaaDoor
open Go.RowKit
open Sto (T St)
open Tri (Tr)

def trailS (S : St) (k : T) : List T := wantedT (fun p => Tri.begins p (Nib.ofL k)) (treeS S)
theorem strail_any {g : Nat} {S : St} (k : T) (w : World) (h : TrAt w g S) (hl : k.length ≤ 1000) :
    Calls Tryd.prog 18 #[ptr g, .string ⟨k.toArray⟩] w (TextsPost w (trailS S k)) := by
  obtain ⟨top, t, h1, h2, h3⟩ := h
  unfold trailS
  rw [treeS_of h3]
  exact trail_any k w hl h1 (h3.sealed h2)
end Go.Proofs.YtjfefphgikncnaaDoor
namespace Go.Proofs.YtjfefphgikncnaaDoor
open Sto (T St)
open Tri (Tr Ok hb ix)
open Go.Proofs.YtjfefphgikncnaaDoor.Nd (N)
namespace Prf

/-- What a node says of what is left: the sum that is sought next with what is left then, or a value. -/
def next (n : N) (l : T) : (T × T) ⊕ T :=
  if n.kind = 1 then .inr (if n.path = l then n.val else [])
  else if n.kind = 2 then (if l.take n.path.length = n.path then .inl (n.kids.getD 0 [], l.drop n.path.length) else .inr [])
  else match l with
    | [] => .inr n.val
    | b :: q => if n.kids.getD b.toNat [] = [] then .inr [] else .inl (n.kids.getD b.toNat [], q)
/-- To follow what is left from a sum by just these nodes. -/
def follow : T → T → List T → Option T
  | _, _, [] => none
  | s, l, x :: r =>
    if Sto.sumOf x = s ∧ (Nd.dec x).2 = 0 then
      match next (Nd.dec x).1 l with
      | .inl p => follow p.1 p.2 r
      | .inr v => if r = [] then some v else none
    else none
def verify (root key : T) (nodes : List T) : T × Bool × Nat :=
  if Tri.keyed key then
    (if root = [] then (if nodes = [] then ([], false, 0) else ([], false, 130))
    else match follow root (Nib.ofL key) nodes with
      | some v => (v, decide (v ≠ []), 0)
      | none => ([], false, 130))
  else ([], false, 1)
/-! ### the nodes on the way -/
def trail : Tr → T → List N
  | .nil, _ => []
  | .leaf p v, _ => [Tr.node Nd.sumS (.leaf p v)]
  | .ext p t, l => Tr.node Nd.sumS (.ext p t) :: (if l.take p.length = p then trail t (l.drop p.length) else [])
  | .br v k, [] => [Tr.node Nd.sumS (.br v k)]
  | .br v k, b :: q => Tr.node Nd.sumS (.br v k) :: (if b.toNat ≤ 15 then trail (k (ix b)) q else [])
theorem trail_head {t : Tr} (h : ¬ t.isNil) (l : T) : ∃ r, trail t l = t.node Nd.sumS :: r := by
  cases t with
  | nil => exact absurd trivial h
  | leaf p v => exact ⟨_, rfl⟩
  | ext p t => exact ⟨_, rfl⟩
  | br v k => cases l <;> exact ⟨_, rfl⟩
theorem spots_pre (t : Tr) : ∀ (p : T), ∀ x ∈ t.spots Nd.sumS p, ∃ q, x.1 = p ++ q := by
  induction t with
  | nil => intro p x hx; cases hx
  | leaf q v => intro p x hx; rw [List.mem_singleton.1 hx]; exact ⟨[], by simp⟩
  | ext q t ih =>
    intro p x hx
    rcases List.mem_cons.1 hx with rfl | hx
    · exact ⟨[], by simp⟩
    · obtain ⟨r, hr⟩ := ih _ x hx
      exact ⟨q ++ r, by rw [hr, List.append_assoc]⟩
  | br v k ih =>
    intro p x hx
    rcases List.mem_cons.1 hx with rfl | hx
    · exact ⟨[], by simp⟩
    · obtain ⟨i, _, hi⟩ := List.mem_flatMap.1 hx
      obtain ⟨r, hr⟩ := ih i _ x hi
      exact ⟨[hb i] ++ r, by rw [hr, List.append_assoc]⟩
theorem begins_app (p q l : T) : Tri.begins (p ++ q) (p ++ l) = Tri.begins q l := by
  unfold Tri.begins
  rw [List.length_append, List.take_append, List.take_of_length_le (Nat.le_add_right _ _), Nat.add_sub_cancel_left]
  simp
theorem begins_self (p l : T) : Tri.begins p (p ++ l) = true := by
  unfold Tri.begins
  simp
/-- Of a tree at a place that is not ahead of the mark no node is ahead of it. -/
theorem none_of {t : Tr} {p m : T} (h : Tri.begins p m = false) : ((t.spots Nd.sumS p).filter fun x => Tri.begins x.1 m) = [] := by
  rw [List.filter_eq_nil_iff]
  intro x hx
  obtain ⟨q, hq⟩ := spots_pre t p x hx
  have h1 : m.take p.length ≠ p := of_decide_eq_false h
  intro hb
  have h2 : m.take (p ++ q).length = p ++ q := by rw [← hq]; exact of_decide_eq_true hb
  apply h1
  have h3 := congrArg (List.take p.length) h2
  rw [List.take_take, List.length_append, Nat.min_eq_left (by omega), List.take_left] at h3
  exact h3
theorem begins_ext (p q l : T) : Tri.begins (p ++ q) (p ++ l) = decide (l.take q.length = q) := by rw [begins_app]; rfl
theorem flat_one (f : Fin 16 → List (T × N)) (i : Fin 16) (h : ∀ j, j ≠ i → f j = []) : ∀ L : List (Fin 16), L.Nodup → L.flatMap f = if i ∈ L then f i else [] := by
  intro L
  induction L with
  | nil => intro _; rfl
  | cons j L ih =>
    intro hn
    obtain ⟨h1, h2⟩ := List.nodup_cons.1 hn
    rw [List.flatMap_cons, ih h2]
    by_cases e : j = i
    · subst e
      rw [if_neg h1, if_pos (List.mem_cons_self ..), List.append_nil]
    · rw [h j e, List.nil_append]
      by_cases hm : i ∈ L
      · rw [if_pos hm, if_pos (List.mem_cons_of_mem _ hm)]
      · rw [if_neg hm, if_neg (fun e2 => (List.mem_cons.1 e2).elim (fun e3 => e e3.symm) hm)]
theorem flat_none (f : Fin 16 → List (T × N)) (h : ∀ j, f j = []) (L : List (Fin 16)) : L.flatMap f = [] := by
  rw [List.flatMap_eq_nil_iff]
  exact fun j _ => h j
theorem filter_flat (P : T × N → Bool) (f : Fin 16 → List (T × N)) (L : List (Fin 16)) : (L.flatMap f).filter P = L.flatMap fun i => (f i).filter P := by
  induction L with
  | nil => rfl
  | cons a L ih => rw [List.flatMap_cons, List.filter_append, ih, List.flatMap_cons]
theorem trail_spots (t : Tr) : ∀ (p l : T), ((t.spots Nd.sumS p).filter fun x => Tri.begins x.1 (p ++ l)).map (·.2) = trail t l := by
  induction t with
  | nil => intro p l; rfl
  | leaf q v =>
    intro p l
    rw [Tr.spots, List.filter_cons, if_pos (begins_self p l)]
    rfl
  | ext q t ih =>
    intro p l
    rw [Tr.spots, List.filter_cons, if_pos (begins_self p l), List.map_cons, trail]
    congr 1
    by_cases h : l.take q.length = q
    · rw [if_pos h]
      have e : p ++ l = (p ++ q) ++ l.drop q.length := by
        rw [List.append_assoc]
        conv => lhs; rw [← List.take_append_drop q.length l, h]
      rw [e]
      exact ih (p ++ q) (l.drop q.length)
    · rw [if_neg h, none_of (by rw [begins_ext]; exact decide_eq_false h)]
      rfl
  | br v k ih =>
    intro p l
    rw [Tr.spots, List.filter_cons, if_pos (begins_self p l), List.map_cons, filter_flat]
    cases l with
    | nil =>
      rw [trail, flat_none]
      · rfl
      · intro j
        exact none_of (by rw [begins_ext]; simp)
    | cons b q =>
      rw [trail]
      congr 1
      by_cases hb15 : b.toNat ≤ 15
      · rw [if_pos hb15, flat_one _ (ix b) (fun j hj => none_of (by
          rw [begins_ext]
          simp only [List.length_cons, List.length_nil, Nat.zero_add, List.take_succ_cons, List.take_zero, decide_eq_false_iff_not, List.cons.injEq, and_true]
          intro e
          apply hj
          rw [← Tri.ix_hb j, ← e])) _ (List.nodup_finRange 16), if_pos (List.mem_finRange _)]
        have e : p ++ b :: q = (p ++ [hb (ix b)]) ++ q := by rw [Tri.hb_ix hb15]; simp
        rw [e]
        exact ih (ix b) (p ++ [hb (ix b)]) q
      · rw [if_neg hb15, flat_none]
        · rfl
        · intro j
          refine none_of ?_
          rw [begins_ext]
          simp only [List.length_cons, List.length_nil, Nat.zero_add, List.take_succ_cons, List.take_zero, decide_eq_false_iff_not, List.cons.injEq, and_true]
          intro e
          apply hb15
          rw [e, Tri.hb_toNat]
          have := j.isLt
          omega
theorem trail_wanted (t : Tr) (l : T) : wantedT (fun q => Tri.begins q l) t = (trail t l).map Nd.written := by
  unfold wantedT
  have h := trail_spots t [] l
  rw [List.nil_append] at h
  rw [← h, List.map_map]
  rfl
theorem trailS_eq {S : St} {t : Tr} (h : TrS S t) (k : T) : trailS S k = (trail t (Nib.ofL k)).map Nd.written := by
  unfold trailS
  rw [treeS_of h, trail_wanted]
theorem trail_sub (t : Tr) : ∀ l, ∀ n ∈ trail t l, n ∈ t.nodes Nd.sumS := by
  intro l n hn
  have h := trail_spots t [] l
  rw [List.nil_append] at h
  rw [← h] at hn
  obtain ⟨x, hx, rfl⟩ := List.mem_map.1 hn
  rw [← Tri.spots_nodes Nd.sumS t []]
  exact List.mem_map.2 ⟨x, (List.mem_filter.1 hx).1, rfl⟩
/-! ### what a tree's own nodes say -/
theorem dec_node {t : Tr} (h : Ok t) (hn : ¬ t.isNil) : Nd.dec (Nd.written (t.node Nd.sumS)) = (t.node Nd.sumS, 0) := Nd.dec_written _ (Tri.node_kids _ _) (h.fine hn)
/-- What a tree's topmost node says: where it goes on, a kid that is there, and what that has of what is left then. -/
theorem next_node {t : Tr} (h : Ok t) (hn : ¬ t.isNil) (l : T) (hl : Nib.fitL l = true) :
    (∃ i q, next (t.node Nd.sumS) l = .inl ((t.kid i).sum Nd.sumS, q) ∧ ¬ (t.kid i).isNil ∧ Nib.fitL q = true ∧ t.get l = (t.kid i).get q ∧ trail t l = t.node Nd.sumS :: trail (t.kid i) q) ∨
    (∃ v, next (t.node Nd.sumS) l = .inr v ∧ v = (t.get l).getD [] ∧ trail t l = [t.node Nd.sumS]) := by
  cases t with
  | nil => exact absurd trivial hn
  | leaf p v =>
    refine Or.inr ⟨_, rfl, ?_, rfl⟩
    show (if p = l then v else []) = _
    rw [Tr.get]
    by_cases e : p = l
    · rw [if_pos e, if_pos e.symm]; rfl
    · rw [if_neg e, if_neg (fun e2 => e e2.symm)]; rfl
  | ext p t =>
    obtain ⟨v, k, rfl, _⟩ := Tri.ext_br h.canon
    by_cases e : l.take p.length = p
    · refine Or.inl ⟨0, l.drop p.length, ?_, id, Tri.fit_drop _ hl, ?_, ?_⟩
      · show (if l.take p.length = p then _ else _) = _
        rw [if_pos e]; rfl
      · rw [Tr.get, if_pos e]; rfl
      · rw [trail, if_pos e]; rfl
    · refine Or.inr ⟨[], ?_, ?_, ?_⟩
      · show (if l.take p.length = p then _ else _) = _
        rw [if_neg e]
      · rw [Tr.get, if_neg e]; rfl
      · rw [trail, if_neg e]
  | br v k =>
    cases l with
    | nil =>
      refine Or.inr ⟨v, rfl, ?_, rfl⟩
      rw [Tr.get]
      by_cases e : v = []
      · rw [if_pos e, e]; rfl
      · rw [if_neg e]; rfl
    | cons b q =>
      obtain ⟨hb15, hq⟩ := Tri.fit_cons.1 hl
      have hlt : b.toNat < 16 := by omega
      have hk : (List.ofFn fun i => (k i).sum Nd.sumS).getD b.toNat [] = (k (ix b)).sum Nd.sumS := by
        rw [List.getD_eq_getElem?_getD, List.getElem?_ofFn, dif_pos hlt]
        simp only [Option.getD_some]
        congr 2
        exact Fin.ext (by simp [ix]; omega)
      have hnx : next (Tr.node Nd.sumS (.br v k)) (b :: q) = if (k (ix b)).sum Nd.sumS = [] then .inr [] else .inl ((k (ix b)).sum Nd.sumS, q) := by
        show (if (List.ofFn fun i => (k i).sum Nd.sumS).getD b.toNat [] = [] then Sum.inr [] else Sum.inl ((List.ofFn fun i => (k i).sum Nd.sumS).getD b.toNat [], q)) = _
        rw [hk]
      by_cases e : (k (ix b)).isNil
      · refine Or.inr ⟨[], ?_, ?_, ?_⟩
        · rw [hnx, if_pos (show (k (ix b)).sum Nd.sumS = [] by rw [Tri.nil_of_isNil e]; rfl)]
        · rw [Tr.get, if_pos hb15, Tri.nil_of_isNil e]; rfl
        · rw [trail, if_pos hb15, Tri.nil_of_isNil e]; rfl
      · refine Or.inl ⟨ix b, q, ?_, e, hq, ?_, ?_⟩
        · rw [hnx, if_neg (show (k (ix b)).sum Nd.sumS ≠ [] from (h.kid (ix b)).sum_ne e)]; rfl
        · rw [Tr.get, if_pos hb15]; rfl
        · rw [trail, if_pos hb15]; rfl
/-- What is proved is verified. -/
theorem follow_trail (t : Tr) : Ok t → ¬ t.isNil → ∀ l, Nib.fitL l = true → follow (t.sum Nd.sumS) l ((trail t l).map Nd.written) = some ((t.get l).getD []) := by
  refine Tri.kid_ind (P := fun t => Ok t → ¬ t.isNil → ∀ l, Nib.fitL l = true → follow (t.sum Nd.sumS) l ((trail t l).map Nd.written) = some ((t.get l).getD [])) (fun _ h => absurd trivial h) ?_ t
  intro t hn ih hok _ l hl
  have hc : Sto.sumOf (Nd.written (t.node Nd.sumS)) = t.sum Nd.sumS ∧ (Nd.dec (Nd.written (t.node Nd.sumS))).2 = 0 := ⟨(sum_text hok hn).symm, by rw [dec_node hok hn]⟩
  rcases next_node hok hn l hl with ⟨i, q, h1, h2, h3, h4, h5⟩ | ⟨v, h1, h2, h3⟩
  · rw [h5, List.map_cons, follow, if_pos hc, dec_node hok hn]
    simp only [h1]
    rw [ih i (hok.kid i) h2 q h3, h4]
  · rw [h3, List.map_cons, follow, if_pos hc, dec_node hok hn]
    simp only [h1, List.map_nil, if_true, h2]
theorem follow_cut (L : List T) : ∀ {s l v : T}, follow s l L = some v → ∀ n, n < L.length → follow s l (L.take n) = none := by
  induction L with
  | nil => intro s l v _ n hn; exact absurd hn (Nat.not_lt_zero _)
  | cons x r ih =>
    intro s l v hv n hn
    cases n with
    | zero => rfl
    | succ n =>
      rw [follow] at hv
      rw [List.take_succ_cons, follow]
      by_cases hc : Sto.sumOf x = s ∧ (Nd.dec x).2 = 0
      · rw [if_pos hc] at hv ⊢
        cases hx : next (Nd.dec x).1 l with
        | inl p =>
          simp only [hx] at hv ⊢
          exact ih hv n (by simpa using hn)
        | inr u =>
          simp only [hx] at hv ⊢
          by_cases hr : r = []
          · subst hr
            simp at hn
          · rw [if_neg hr] at hv; cases hv
      · rw [if_neg hc] at hv; cases hv
theorem follow_more (L : List T) : ∀ {s l v : T}, follow s l L = some v → ∀ M, M ≠ [] → follow s l (L ++ M) = none := by
  induction L with
  | nil => intro s l v hv; cases hv
  | cons x r ih =>
    intro s l v hv M hM
    rw [follow] at hv
    rw [List.cons_append, follow]
    by_cases hc : Sto.sumOf x = s ∧ (Nd.dec x).2 = 0
    · rw [if_pos hc] at hv ⊢
      cases hx : next (Nd.dec x).1 l with
      | inl p =>
        simp only [hx] at hv ⊢
        exact ih hv M hM
      | inr u =>
        simp only [hx] at hv ⊢
        rw [if_neg]
        intro e
        exact hM (List.append_eq_nil_iff.1 e).2
    · rw [if_neg hc] at hv; cases hv
theorem follow_root {L : List T} {s l v : T} (h : follow s l L = some v) : s.length = 32 := by
  cases L with
  | nil => cases h
  | cons x r =>
    rw [follow] at h
    by_cases hc : Sto.sumOf x = s ∧ (Nd.dec x).2 = 0
    · rw [← hc.1]; exact Sto.sumOf_len x
    · rw [if_neg hc] at h; cases h
/-- At most one node more than what is left has half bytes. -/
theorem trail_few (t : Tr) : Ok t → ∀ l : T, (trail t l).length ≤ l.length + 1 := by
  induction t with
  | nil => intro _ l; simp [trail]
  | leaf p v => intro _ l; simp [trail]
  | ext p t ih =>
    intro h l
    rw [trail]
    by_cases e : l.take p.length = p
    · rw [if_pos e]
      have h1 := ih (h.kid 0) (l.drop p.length)
      rw [List.length_drop] at h1
      have h2 : 1 ≤ p.length := List.length_pos_iff.2 h.canon.1
      have h3 : p.length ≤ l.length := by have := congrArg List.length e; simp at this; omega
      simp only [List.length_cons]
      omega
    · rw [if_neg e]; simp
  | br v k ih =>
    intro h l
    cases l with
    | nil => simp [trail]
    | cons b q =>
      rw [trail]
      by_cases hb15 : b.toNat ≤ 15
      · rw [if_pos hb15]
        have h1 := ih (ix b) (h.kid (ix b)) q
        simp only [List.length_cons]
        omega
      · rw [if_neg hb15]; simp
end Prf
end Go.Proofs.YtjfefphgikncnaaDoor
namespace Go.Proofs.YtjfefphgikncnaaDoor
open Sto (T St)
open Go.Proofs.YtjfefphgikncnaaDoor.Nd (N)
namespace Prf

/-- What the bytes of a node tell. -/
structure Told (n : N) : Prop where
  kids : n.kids.length = 16
  short : ∀ x ∈ n.kids, x.length ≤ 32
  path : n.path.length ≤ 16
  fit : Nib.fitL n.path = true
  val : n.val.length ≤ 32
  kind : n.kind = 1 ∨ (n.kind = 2 ∧ n.kids.getD 0 [] ≠ []) ∨ n.kind = 3
theorem Told.of {x : T} (h : (Nd.dec x).2 = 0) : Told (Nd.dec x).1 := by
  rcases Nd.dec_is x with ⟨_, h1, h2, _⟩ | ⟨h1, _⟩
  · unfold Nd.fine at h1
    simp only [Bool.and_eq_true, decide_eq_true_eq] at h1
    obtain ⟨k1, k2, k3, k4, k5⟩ := h1
    refine ⟨h2, fun y hy => ?_, k3, k2, k4, ?_⟩
    · have := List.all_eq_true.1 k1 y hy
      simp only [Bool.or_eq_true, decide_eq_true_eq] at this
      rcases this with e | e
      · rw [e]; simp
      · omega
    · by_cases e1 : (Nd.dec x).1.kind = 1
      · exact Or.inl e1
      rw [if_neg e1] at k5
      by_cases e2 : (Nd.dec x).1.kind = 2
      · rw [if_pos e2] at k5
        simp only [Bool.and_eq_true, decide_eq_true_eq] at k5
        exact Or.inr (Or.inl ⟨e2, k5.2.1⟩)
      rw [if_neg e2] at k5
      by_cases e3 : (Nd.dec x).1.kind = 3
      · exact Or.inr (Or.inr e3)
      · rw [if_neg e3] at k5
        cases k5
  · rw [h] at h1
    cases h1
/-- Whether a text is a node of this sum. -/
def isN (s x : T) : Bool := decide (Sto.sumOf x = s ∧ (Nd.dec x).2 = 0)
/-- To follow, where of the sum "" there is nothing. -/
def fol (s l : T) (L : List T) : Option T := if s = [] then (if L = [] then some [] else none) else follow s l L
theorem fol_nil (l : T) (L : List T) : fol [] l L = if L = [] then some [] else none := by unfold fol; rw [if_pos rfl]
theorem fol_none {s l : T} (hs : s ≠ []) : fol s l [] = none := by unfold fol; rw [if_neg hs, follow]
theorem fol_bad {s l x : T} {r : List T} (hs : s ≠ []) (h : isN s x = false) : fol s l (x :: r) = none := by
  unfold fol
  rw [if_neg hs, follow, if_neg (of_decide_eq_false h)]
theorem fol_cons {s l x : T} {r : List T} (hs : s ≠ []) (h : isN s x = true) : fol s l (x :: r) = match next (Nd.dec x).1 l with | .inl p => follow p.1 p.2 r | .inr v => if r = [] then some v else none := by
  unfold fol
  rw [if_neg hs, follow, if_pos (of_decide_eq_true h)]
  first | done | rfl
theorem fol_leaf {s l x : T} {r : List T} {n : N} (hs : s ≠ []) (h : isN s x = true) (hn : (Nd.dec x).1 = n) (hk : n.kind = 1) : fol s l (x :: r) = if r = [] then some (if n.path = l then n.val else []) else none := by
  rw [fol_cons hs h, hn]
  unfold next
  rw [if_pos hk]
theorem fol_ext {s l x : T} {r : List T} {n : N} (hs : s ≠ []) (h : isN s x = true) (hn : (Nd.dec x).1 = n) (hk : n.kind = 2) (h0 : n.kids.getD 0 [] ≠ []) (hp : l.take n.path.length = n.path) : fol s l (x :: r) = fol (n.kids.getD 0 []) (l.drop n.path.length) r := by
  rw [fol_cons hs h, hn]
  unfold next
  rw [if_neg (by rw [hk]; decide), if_pos hk, if_pos hp]
  unfold fol
  rw [if_neg h0]
theorem fol_off {s l x : T} {r : List T} {n : N} (hs : s ≠ []) (h : isN s x = true) (hn : (Nd.dec x).1 = n) (hk : n.kind = 2) (hp : l.take n.path.length ≠ n.path) : fol s l (x :: r) = if r = [] then some [] else none := by
  rw [fol_cons hs h, hn]
  unfold next
  rw [if_neg (by rw [hk]; decide), if_pos hk, if_neg hp]
theorem fol_end {s x : T} {r : List T} {n : N} (hs : s ≠ []) (h : isN s x = true) (hn : (Nd.dec x).1 = n) (hk : n.kind = 3) : fol s [] (x :: r) = if r = [] then some n.val else none := by
  rw [fol_cons hs h, hn]
  unfold next
  rw [if_neg (by rw [hk]; decide), if_neg (by rw [hk]; decide)]
theorem fol_kid {s x q : T} {b : UInt8} {r : List T} {n : N} (hs : s ≠ []) (h : isN s x = true) (hn : (Nd.dec x).1 = n) (hk : n.kind = 3) : fol s (b :: q) (x :: r) = fol (n.kids.getD b.toNat []) q r := by
  rw [fol_cons hs h, hn]
  unfold next
  rw [if_neg (by rw [hk]; decide), if_neg (by rw [hk]; decide)]
  dsimp only
  by_cases e : n.kids.getD b.toNat [] = []
  · rw [if_pos e, e, fol_nil]
  · rw [if_neg e]
    unfold fol
    rw [if_neg e]
/-- What Verify tells, by the way that the code goes. -/
theorem verify_fol (root key : T) (nodes : List T) : verify root key nodes = if Tri.keyed key then (match fol root (Nib.ofL key) nodes with | some v => (v, decide (v ≠ []), 0) | none => ([], false, 130)) else ([], false, 1) := by
  unfold verify
  by_cases hk : Tri.keyed key
  · rw [if_pos hk, if_pos hk]
    unfold fol
    by_cases hr : root = []
    · rw [if_pos hr, if_pos hr]
      by_cases hn : nodes = []
      · rw [if_pos hn, if_pos hn]; rfl
      · rw [if_neg hn, if_neg hn]
    · rw [if_neg hr, if_neg hr]
      first | done | rfl
  · rw [if_neg hk, if_neg hk]
end Prf
end Go.Proofs.YtjfefphgikncnaaDoor
namespace Go.Proofs.YtjfefphgikncnaaDoor
open Go.RowKit
open Sto (T St)

end Go.Proofs.YtjfefphgikncnaaDoor
namespace Go.Proofs.YtjfefphgikncnaaDoor
open Sto (T St)
open Tri (Tr Ok)
open Go.Proofs.YtjfefphgikncnaaDoor.Nd (N)
namespace Prf

/-- The items that may be, of the first twenty. -/
def stepS (S : St) (x : T × T) : St := if Tri.putC S x.1 x.2 = 0 then Tri.put S x.1 x.2 else S
def someS (L : St) : St := (L.take 20).foldl stepS []
theorem some_step (L : St) (k : Nat) (hk : k < L.length) : (L.take (k + 1)).foldl stepS [] = stepS ((L.take k).foldl stepS []) L[k] := by
  rw [List.take_succ_eq_append_getElem hk, List.foldl_append]
  rfl
theorem root_sum {S : St} {t : Tr} (h : TrS S t) : rootS S = t.sum Nd.sumS := by
  unfold rootS
  rw [treeS_of h]
theorem empty_of {S : St} {t : Tr} (h : TrS S t) (hn : t.isNil) : S = [] := by
  rw [Tri.nil_of_isNil hn] at h
  exact h.one TrS.empty
theorem code_ok {S : St} {k : T} (hk : Tri.keyed k = true) : (Tri.getC S k).1 = (Sto.look S k).getD [] ∧ ((Tri.getC S k).2 = 0 ↔ Sto.look S k ≠ none) := by
  cases hl : Sto.look S k with
  | none => rw [Tri.getC_none hk hl]; exact ⟨rfl, by simp⟩
  | some v => rw [Tri.getC_some hk hl]; exact ⟨rfl, by simp⟩
/-- What a value tells of Get. -/
theorem get_is {S : St} {t : Tr} (h : TrS S t) {k v : T} (hk : Tri.keyed k = true) (hv : v = (Sto.look S k).getD []) : v = (Tri.getC S k).1 ∧ decide (v ≠ []) = decide ((Tri.getC S k).2 = 0) := by
  obtain ⟨h1, h2⟩ := code_ok (S := S) hk
  refine ⟨hv.trans h1.symm, ?_⟩
  rw [decide_eq_decide, h2, hv]
  cases hl : Sto.look S k with
  | none => simp
  | some u => simpa using h.look_ne hl
/-- What is proved is verified. -/
theorem verify_whole {S : St} {t : Tr} (h : TrS S t) {k : T} (hk : Tri.keyed k = true) : verify (rootS S) k (trailS S k) = ((Tri.getC S k).1, decide ((Tri.getC S k).2 = 0), 0) := by
  unfold verify
  rw [if_pos hk]
  by_cases hn : t.isNil
  · obtain rfl := empty_of h hn
    have e1 : rootS [] = [] := by rw [root_sum TrS.empty]; rfl
    have e2 : trailS [] k = [] := by rw [trailS_eq TrS.empty]; rfl
    rw [e1, e2, if_pos rfl, if_pos rfl, Tri.getC_none hk rfl]
    rfl
  · have e1 : rootS S ≠ [] := by rw [root_sum h]; exact h.ok.sum_ne hn
    rw [if_neg e1, root_sum h, trailS_eq h, follow_trail t h.ok hn _ (Tri.ofL_fit k)]
    have hg : (t.get (Nib.ofL k)).getD [] = (Sto.look S k).getD [] := by rw [h.tree.get h.rise]
    obtain ⟨q1, q2⟩ := get_is h hk hg
    dsimp only
    rw [q2, q1]
/-- No more and no less. -/
theorem verify_cut {r k : T} {L : List T} (h : (verify r k L).2.2 = 0) (n : Nat) (hn : n < L.length) : verify r k (L.take n) = ([], false, 130) := by
  unfold verify at h ⊢
  by_cases hk : Tri.keyed k = true
  case neg =>
    rw [if_neg hk] at h; cases h
  rw [if_pos hk] at h ⊢
  by_cases hr : r = []
  · rw [if_pos hr] at h
    by_cases hL : L = []
    · subst hL; simp at hn
    · rw [if_neg hL] at h; cases h
  · rw [if_neg hr] at h ⊢
    cases hf : follow r (Nib.ofL k) L with
    | none => rw [hf] at h; cases h
    | some v => rw [follow_cut L hf n hn]
theorem verify_more {r k : T} {L M : List T} (h : (verify r k L).2.2 = 0) (hM : M ≠ []) : verify r k (L ++ M) = ([], false, 130) := by
  unfold verify at h ⊢
  by_cases hk : Tri.keyed k = true
  case neg =>
    rw [if_neg hk] at h; cases h
  rw [if_pos hk] at h ⊢
  by_cases hr : r = []
  · rw [if_pos hr, if_neg (fun e => hM (List.append_eq_nil_iff.1 e).2)]
  · rw [if_neg hr] at h ⊢
    cases hf : follow r (Nib.ofL k) L with
    | none => rw [hf] at h; cases h
    | some v => rw [follow_more L hf M hM]
theorem verify_other {r k : T} {L : List T} (hk : Tri.keyed k = true) (hr : r ≠ []) (h : r.length ≠ 32) : verify r k L = ([], false, 130) := by
  unfold verify
  rw [if_pos hk, if_neg hr]
  cases hf : follow r (Nib.ofL k) L with
  | none => rfl
  | some v => exact absurd (follow_root hf) h
theorem verify_none {k : T} {L : List T} (hk : Tri.keyed k = true) (h : L ≠ []) : verify [] k L = ([], false, 130) := by
  unfold verify
  rw [if_pos hk, if_pos rfl, if_neg h]
theorem trailS_few {S : St} {t : Tr} (h : TrS S t) {k : T} (hk : Tri.keyed k = true) : (trailS S k).length ≤ 17 := by
  rw [trailS_eq h, List.length_map]
  have h1 := trail_few t h.ok (Nib.ofL k)
  rw [Nib.ofL_length] at h1
  simp [Tri.keyed] at hk
  omega
theorem trailS_ne {S : St} {t : Tr} (h : TrS S t) (hr : rootS S ≠ []) (k : T) : trailS S k ≠ [] := by
  have hn : ¬ t.isNil := fun e => hr (by rw [root_sum h, Tri.nil_of_isNil e]; rfl)
  obtain ⟨r, hr'⟩ := trail_head hn (Nib.ofL k)
  rw [trailS_eq h, hr']
  simp
theorem trailS_nil {S : St} {t : Tr} (h : TrS S t) (hr : rootS S = []) (k : T) : trailS S k = [] := by
  have hn : t.isNil := Classical.byContradiction fun e => h.ok.sum_ne e (by rw [← root_sum h]; exact hr)
  rw [trailS_eq h, Tri.nil_of_isNil hn]
  rfl
theorem trailS_short {S : St} {t : Tr} (h : TrS S t) (k : T) : ∀ x ∈ trailS S k, x.length ≤ 999 := fun x hx => by
  rw [trailS_eq h] at hx
  obtain ⟨n, hn, rfl⟩ := List.mem_map.1 hx
  refine nodesS_short h _ ?_
  rw [nodesS_nodes h]
  exact List.mem_map.2 ⟨n, trail_sub t _ n hn, rfl⟩
def wP : List T := [[1, 1, 2, 32, 107, 1, 1, 118]]
theorem wK_tr : TrS Tri.wK (.leaf [6, 11] [118]) := ⟨Tri.wU_tree, List.pairwise_singleton .., by decide, by decide⟩
theorem wK_trail (k : T) : trailS Tri.wK k = wP := by
  rw [trailS_eq wK_tr]
  show [Nd.written (Tr.node Nd.sumS (.leaf [6, 11] [118]))] = _
  rw [Tri.wU_text]
  rfl
theorem wK_k : verify (rootS Tri.wK) [107] wP = ([118], true, 0) := by
  have h := verify_whole wK_tr (k := [107]) (by decide)
  rw [wK_trail] at h
  rw [h]
  decide +kernel
theorem wK_x : verify (rootS Tri.wK) [120] wP = ([], false, 0) := by
  have h := verify_whole wK_tr (k := [120]) (by decide)
  rw [wK_trail] at h
  rw [h]
  decide +kernel
theorem wK_none : verify [] [107] wP = ([], false, 130) := verify_none (by decide) (by decide)
end Prf
end Go.Proofs.YtjfefphgikncnaaDoor
namespace Go.Proofs.YtjfefphgikncnaaDoor
open Go.RowKit Go.ChangeShapes Go.WideShapes
open Sto (T St)

set_option maxRecDepth 100000 in
theorem cellsItem : Tryd.prog.cellsOf 42 = 2 := by kernel_rfl
theorem okWide_slice_at {P : Program} {W : World} {r : Reach} {b0 : Nat} {t e : TypeId} {v : Value} (ht : P.underlying t = some (.slice e)) (h : Value.okWide P W r b0 t v) : v = .slice none 0 0 ∨ ∃ b o len cap, v = .slice (some ⟨b, o, none⟩) len cap ∧ len ≤ cap := by
  obtain ⟨a, len, cap, rfl⟩ := okWide_slice ht h
  simp only [Value.okWide, ht, Cell.okWide, Cell.ok] at h
  cases a with
  | none =>
    left
    cases len <;> cases cap <;> simp_all
  | some a =>
    right
    obtain ⟨h1, _, h2⟩ := h
    obtain ⟨b, o, sp⟩ := a
    have h3 : sp = none := h2.2.1
    subst h3
    exact ⟨b, o, len, cap, rfl, h1⟩
set_option maxRecDepth 100000 in
theorem item_cells {H : Type} {enc : TypeId × Value → H} {W : World} {fuel : Nat} {cs : List Value} {x : DataW H × List MemPlace} (ht : DataW.trod enc Tryd.prog W 0 (fun _ => true) true fuel 42 cs = some x) :
    ∃ s : T × T, cs = itcl s := by
  obtain ⟨ys, n', _, hy, hcl, hyl, hfs⟩ := DataW.trod_struct Tryd.underlying42 ht
  rw [cellsItem] at hcl
  match cs, hcl, ys, hyl with
  | [v0, v1], _, [y0, y1], _ =>
    have g0 := hfs 0 _ rfl
    have g1 := hfs 1 _ rfl
    simp [cellsS] at g0 g1
    obtain ⟨s0, e0, _, _⟩ := DataW.trod_string Tryd.underlying9 g0
    obtain ⟨s1, e1, _, _⟩ := DataW.trod_string Tryd.underlying9 g1
    obtain rfl : v0 = .string s0 := by simpa using e0
    obtain rfl : v1 = .string s1 := by simpa using e1
    exact ⟨(s0.data.toList, s1.data.toList), by simp [itcl]⟩
set_option maxRecDepth 100000 in
theorem items_open {H : Type} {enc : TypeId × Value → H} {W : World} {r : Reach} {b0 : Nat} {v : Value} {d : DataW H} {p : List MemPlace}
    (hv : Value.okWide Tryd.prog W r b0 22 v) (h : DataW.Trod enc Tryd.prog W 0 (fun _ => true) true 22 v d p)
    (hz : ∀ n ∈ d.weights Tryd.prog 22, n ≤ reachBytes) :
    ∃ L, ItIn W v L ∧ L.length * 32 ≤ reachBytes := by
  obtain ⟨fuel, hf⟩ := h
  rcases okWide_slice_at Tryd.underlying22 hv with rfl | ⟨b, o, len, cap, rfl, hlc⟩
  · exact ⟨[], ⟨none, 0, rfl, Nat.le_refl _, fun _ => Or.inl ⟨rfl, rfl⟩, fun h => absurd h (by simp)⟩, by simp⟩
  rcases Go.Deep.open_slice Tryd.underlying22 hf with ⟨hcs, _⟩ | ⟨x, l, c, m, n, D, Pl, hcs, _, hl, hm, hmm, hx, hel⟩
  · simp [Value.cells] at hcs
  · simp [Value.cells] at hcs
    obtain ⟨rfl, rfl, rfl⟩ := hcs
    simp only [if_true] at hmm
    subst hmm
    rw [cellsItem] at hel hx
    obtain ⟨hd, -⟩ := Prod.mk.inj hx
    have hlen32 : len * 32 ≤ reachBytes := by
      have h1 := hz ((((List.range len).map D).length + ((List.range (m - len)).map fun j => D (len + j)).length) * Tryd.prog.bytesOf 42) (by
        rw [hd]; simp [DataW.weights, Tryd.underlying22])
      rw [show Tryd.prog.bytesOf 42 = 32 from by kernel_rfl] at h1
      simp only [List.length_map, List.length_range] at h1
      omega
    have key : ∀ i, i < len → ∃ q : T × T, W.cell? ⟨b, o + i * 2 + 0, none⟩ = some (.string ⟨q.1.toArray⟩) ∧ W.cell? ⟨b, o + i * 2 + 1, none⟩ = some (.string ⟨q.2.toArray⟩) := fun i hi => by
      obtain ⟨cs', hc, ht⟩ := hel i (by omega)
      obtain ⟨_, _, hat⟩ := World.cells?_some hc
      obtain ⟨q, rfl⟩ := item_cells ht
      have q0 := hat 0 (by omega)
      have q1 := hat 1 (by omega)
      rw [Addr.add_mid, Addr.add_mid] at q0 q1
      exact ⟨q, by simpa [itcl] using q0, by simpa [itcl] using q1⟩
    obtain ⟨f, hf⟩ := Go.Deep.choose_lt (fun i hi => key i hi)
    have hlen : ((List.range len).map f).length = len := by simp
    refine ⟨(List.range len).map f, ⟨some ⟨b, o, none⟩, _, by rw [hlen], by rw [hlen]; exact hlc, fun _ => Or.inr ⟨b, o, rfl⟩, fun h0 => ?_⟩, by rw [hlen]; exact hlen32⟩
    rw [hlen] at h0
    obtain ⟨q0, _⟩ := hf 0 h0
    refine ⟨b, o, rfl, block_lt_of_cell q0, fun i hi j u hu => ?_⟩
    rw [hlen] at hi
    obtain ⟨q0, q1⟩ := hf i hi
    have e : ((List.range len).map f)[i]'(by rw [hlen]; exact hi) = f i := by simp
    rw [e] at hu
    match j, hu with
    | 0, hu => simp [itcl] at hu; subst hu; exact q0
    | 1, hu => simp [itcl] at hu; subst hu; exact q1
    | j + 2, hu => simp [itcl] at hu
end Go.Proofs.YtjfefphgikncnaaDoor
