/- DigestOnce: what is noted again changes nothing; a log never has a thing twice, and each that was taken; once there is a clash it stays. -/
import Derived.Test.YtebjckodfbailaaDoorDigClashWalk
namespace Go.Proofs.YtebjckodfbailaaDoor
open Go.RowKit

theorem RowIs.form {w : World} {b : Nat} {M : List Dig.N} (h : RowIs w b M) : Noteds w (.slice (some ⟨b, 0, none⟩) M.length M.length) M :=
  ⟨_, _, rfl, fun _ => ⟨b, 0, rfl, h.lt, fun i hi => by obtain ⟨h1, h2, h3, _⟩ := h.at i hi; rw [Nat.zero_add]; exact ⟨h1, h2, h3⟩⟩⟩

def boxN (n : Dig.N) : Obj := .cells #[.int .i64 n.tag, .string ⟨n.text.toArray⟩, .string ⟨n.dig.toArray⟩] 35 (0, 0)
/-- What the law has in memory: the log and the list of what was taken, the row x of what it told, the boxes y, y + 1 of its clash. -/
structure OnceIn (W : World) (B g : Nat) (F : Nat → Prop) (s : Value) (G I : List Dig.N) (x y : Nat) (a b : Dig.N) : Prop where
  both : Both W B g F s G I
  size : B ≤ W.heap.size
  row : RowIs W x G
  box1 : W.heap[y]? = some (boxN a)
  box2 : W.heap[y + 1]? = some (boxN b)
  offx : ¬ F x
  offy : ¬ F y
  offz : ¬ F (y + 1)
theorem OnceIn.put {W W' : World} {B g : Nat} {F F' : Nat → Prop} {s : Value} {G I : List Dig.N} {x y : Nat} {a b : Dig.N} (h : OnceIn W B g F s G I x y a b) (hF : ∀ k, F' k → F k ∨ W.heap.size ≤ k) (hl : LogAt W' g F' G) (ho : Out F W W') : OnceIn W' B g F' s G I x y a b where
  both := h.both.put h.size hF hl ho
  size := Nat.le_trans h.size ho.size
  row := ho.heap h.row h.offx
  box1 := ho.heap h.box1 h.offy
  box2 := ho.heap h.box2 h.offz
  offx := fun hf => (hF _ hf).elim h.offx (fun hs => absurd h.row.lt (by omega))
  offy := fun hf => (hF _ hf).elim h.offy (fun hs => absurd (lt_of_heap h.box1) (by omega))
  offz := fun hf => (hF _ hf).elim h.offz (fun hs => absurd (lt_of_heap h.box2) (by omega))
theorem OnceIn.below {W W' : World} {B g : Nat} {F : Nat → Prop} {s : Value} {G I : List Dig.N} {x y : Nat} {a b : Dig.N} (h : OnceIn W B g F s G I x y a b) (hb : Below W.heap.size W W') : OnceIn W' B g F s G I x y a b where
  both := h.both.below hb
  size := Nat.le_trans h.size hb.size
  row := h.row.below hb h.row.lt
  box1 := (hb.block _ (lt_of_heap h.box1)).trans h.box1
  box2 := (hb.block _ (lt_of_heap h.box2)).trans h.box2
  offx := h.offx
  offy := h.offy
  offz := h.offz

set_option maxRecDepth 8000 in
set_option maxHeartbeats 2000000 in
theorem once_walk (v : Value) (L : List Dig.N) (w : World) (hv : Noteds w v L) (hlen : L.length * 40 ≤ reachBytes) (hok : ∀ n ∈ L, OkN n) (hT : Tab w) :
    Calls Tryd.prog 6 #[v] w fun e w' => e = .returned (.bool true) ∧ Below w.heap.size w w' := by
  have hr : reachBytes = 140737488351232 := rfl
  have HF := Lib.hid (fun w hv => fill_any L v w hv hok (by omega))
  have HV := Lib.hid hv
  have HT := Lib.hid hT
  have HGD := Lib.hid (Dig.fill_good (L.take 40))
  have HGM := Lib.hid (Dig.fill_mem (L.take 40))
  have HGL := Lib.hid (Dig.fill_len (L.take 40))
  have HOK : Hid (∀ n ∈ Dig.fillI [] [] (L.take 40), OkN n) := Lib.hid (fun n hn => by
    rcases Dig.fillI_mem hn with h | h
    · cases h
    · exact hok n (List.mem_of_mem_take h))
  obtain ⟨A, cap, rfl⟩ := hv.form
  clear hv hlen hok hT hr
  go_enter Tryd.func6, Tryd.ntmps6
  go_wp2_with fail
  refine (works_any _ HT.out).mono ?_
  rintro e w1 ⟨rfl, hb1⟩
  have HB1 := Lib.hid hb1
  clear hb1
  go_wp2_with fail
  refine (HF.out _ (HV.out.below HB1.out)).mono ?_
  rintro e w2 ⟨g, s, F, rfl, hbo, hb2⟩
  have hil : ((Dig.fillI [] [] (L.take 40)).length : Int) ≤ 40 := by
    have := Dig.fillI_length [] [] (L.take 40)
    simp at this
    omega
  obtain ⟨G, hG⟩ : ∃ G, Dig.fillG [] (L.take 40) = G := ⟨_, rfl⟩
  obtain ⟨I, hI⟩ : ∃ I, Dig.fillI [] [] (L.take 40) = I := ⟨_, rfl⟩
  rw [hG, hI] at hbo HGM HGL
  rw [hG] at HGD
  rw [hI] at HOK hil
  have HBO := Lib.hid hbo
  have HB2 := Lib.hid (bchain HB1.out hb2)
  have HN := Lib.hid hbo.noteds
  have HND := Lib.hid hbo.log.nodup
  have hgl0 : G.length ≤ I.length := HGL.out
  have hgl : (G.length : Int) ≤ (I.length : Int) := by omega
  obtain ⟨As, caps, rfl⟩ := hbo.noteds.form
  have HA := Lib.hid (fun F w hl => all_any G g F w hl)
  have HCL := Lib.hid (fun F w hl => clash_any G g F w hl)
  obtain ⟨a, ha⟩ : ∃ a, Dig.clashA G = a := ⟨_, rfl⟩
  obtain ⟨b, hb⟩ : ∃ b, Dig.clashB G = b := ⟨_, rfl⟩
  obtain ⟨ok, hk⟩ : ∃ ok, (Dig.clash G).isSome = ok := ⟨_, rfl⟩
  rw [ha, hb, hk] at HCL
  unfold nval at HCL
  clear ha hb hk hb2 hG hI HF HV hbo hgl0
  go_wp2_with fail
  refine (HA.out F w2 HBO.out.log).mono ?_
  rintro e w3 ⟨rfl, hr3, hb3⟩
  have HR3 := Lib.hid hr3
  have HB3 := Lib.hid (bchain HB2.out hb3)
  have HBO3 := Lib.hid (HBO.out.below hb3)
  clear hr3 hb3
  go_wp2_with fail
  refine (HCL.out F w3 HBO3.out.log).mono ?_
  rintro e w4 ⟨rfl, hb4⟩
  have HB4 := Lib.hid (bchain HB3.out hb4)
  have HBO4 := Lib.hid (HBO3.out.below hb4)
  have HR4 := Lib.hid (HR3.out.below hb4 HR3.out.lt)
  have hx4 : w2.heap.size < w4.heap.size := HR4.out.lt
  have hin : OnceIn ((w4.alloc (.cells #[.int .i64 a.tag, .string ⟨a.text.toArray⟩, .string ⟨a.dig.toArray⟩] 35)).alloc (.cells #[.int .i64 b.tag, .string ⟨b.text.toArray⟩, .string ⟨b.dig.toArray⟩] 35)) w1.heap.size g F (.slice As I.length caps) G I w2.heap.size w4.heap.size a b := by
    have hbb : Below w4.heap.size w4 ((w4.alloc (.cells #[.int .i64 a.tag, .string ⟨a.text.toArray⟩, .string ⟨a.dig.toArray⟩] 35)).alloc (.cells #[.int .i64 b.tag, .string ⟨b.text.toArray⟩, .string ⟨b.dig.toArray⟩] 35)) := ((Below.refl _ _).alloc (Nat.le_refl _) _).alloc (by simp) _
    have hlt : ∀ k, F k → k < w2.heap.size := HBO.out.log.lt
    have hs1 : w1.heap.size ≤ w4.heap.size := by
      have h1 := HBO.out.log.lt
      have h2 := HBO.out.from_
      obtain ⟨_, _, _, _, hp⟩ := HBO.out.log.parts
      have := h1 _ hp.fg
      have := h2 _ hp.fg
      omega
    exact ⟨HBO4.out.below hbb, by simp; omega, HR4.out.below hbb HR4.out.lt, heap_old_at _ (heap_new_at _ _ _ rfl), heap_new_at _ _ _ (by simp), fun h => by have := hlt _ h; omega, fun h => by have := hlt _ h; omega, fun h => by have := hlt _ h; omega⟩
  have hB5 := (HB4.out.alloc HB4.out.size (.cells #[.int .i64 a.tag, .string ⟨a.text.toArray⟩, .string ⟨a.dig.toArray⟩] 35)).alloc (by have := HB4.out.size; simp; omega) (.cells #[.int .i64 b.tag, .string ⟨b.text.toArray⟩, .string ⟨b.dig.toArray⟩] 35)
  have HIN := Lib.hid hin
  have HB5 := Lib.hid hB5
  have hsz1 : w.heap.size ≤ w1.heap.size := HB1.out.size
  clear hin hB5 hx4
  go_wp2
  go_loopw [32] (fun iv wr => ∃ i : Nat, i ≤ I.length ∧ iv = .int .i64 i ∧ ∃ F, OnceIn wr w1.heap.size g F (.slice As I.length caps) G I w2.heap.size w4.heap.size a b ∧ Below w.heap.size w wr) (fun i _ => I.length - (intOf i).toNat)
  case atStart => exact ⟨0, Nat.zero_le _, rfl, F, HIN.out, HB5.out⟩
  case round =>
    obtain ⟨i, hi, rfl, F1, hin, hb⟩ := hrel
    have HB := Lib.hid hb
    have HINR := Lib.hid hin
    have hno := hin.both.noteds
    have HNO := Lib.hid hno
    clear hb hin
    by_cases hlt : i < I.length
    · have h1 : (i : Int) < (I.length : Int) := by omega
      have h0 : (0 : Int) ≤ (i : Int) := by omega
      obtain ⟨b1, o, rfl, hbl⟩ := hno.addr (by omega)
      obtain ⟨n0, n1, n2⟩ := hno.at rfl i hlt
      have hmem : I[i] ∈ G := (HGM.out _).2 (List.getElem_mem hlt)
      have hpm := Dig.putC_mem HGD.out hmem
      have HP := Lib.hid (put_any I[i] G g F1 wr HINR.out.both.log (HOK.out _ (List.getElem_mem hlt)))
      rw [hpm.1, hpm.2] at HP
      have HC1 := Lib.hid (Dig.cnt_one HND.out hmem)
      obtain ⟨n, hn⟩ : ∃ n, I[i] = n := ⟨_, rfl⟩
      have HNI := Lib.hid hn
      rw [hn] at n0 n1 n2 HP HC1
      unfold nval at HP
      clear hno hn hmem hpm
      go_wp2_with fail
      refine HP.out.mono ?_
      rintro e w6 ⟨rfl, F2, hF2, hl2, ho2⟩
      have hin2 := HINR.out.put hF2 hl2 ho2
      have HIN2 := Lib.hid hin2
      have HB6 := Lib.hid (HB.out.trans (ho2.below (fun k hk => Nat.le_trans hsz1 (HINR.out.both.from_ k hk)) (Nat.le_trans hsz1 HINR.out.size)))
      have HNO2 := Lib.hid hin2.both.noteds
      clear hF2 hl2 ho2 n0 n1 n2 hin2
      go_wp2
      go_loopw [10, 44] (fun cv kv wx => ∃ k : Nat, k ≤ G.length ∧ kv = .int .i64 k ∧ cv = .int .i64 ((Dig.cnt n (G.take k) : Nat) : Int) ∧ Below w6.heap.size w6 wx) (fun _ k _ => G.length - (intOf k).toNat)
      case atStart => exact ⟨0, Nat.zero_le _, rfl, rfl, Below.refl _ _⟩
      case round =>
        obtain ⟨k, hk, rfl, rfl, hbx⟩ := hrel
        have HBX := Lib.hid hbx
        clear hbx
        by_cases hkt : k < G.length
        · have h2 : (k : Int) < (G.length : Int) := by omega
          have hk0 : (0 : Int) ≤ (k : Int) := by omega
          obtain ⟨m0, m1, m2, _⟩ := (HIN2.out.row.below HBX.out HIN2.out.row.lt).at k hkt
          obtain ⟨n0, n1, n2⟩ := (HNO2.out.below HBX.out).at rfl i hlt
          have HCS := Lib.hid (Dig.cnt_snoc n G k hkt)
          have hc0 : (0 : Int) ≤ ((Dig.cnt n (G.take k) : Nat) : Int) := by omega
          have hc1 : ((Dig.cnt n (G.take k) : Nat) : Int) ≤ (k : Int) := by
            have := Dig.cnt_le n (G.take k)
            rw [List.length_take] at this
            omega
          obtain ⟨c, hc⟩ : ∃ c, Dig.cnt n (G.take k) = c := ⟨_, rfl⟩
          obtain ⟨m, hm⟩ : ∃ m, G[k] = m := ⟨_, rfl⟩
          rw [hc] at HCS hc0 hc1 ⊢
          rw [hm] at m0 m1 m2 HCS
          rw [HNI.out] at n0 n1 n2
          clear hc hm
          by_cases ht : m.tag = n.tag
          · rw [ht] at m0
            by_cases hx : m.text = n.text
            · rw [hx] at m1
              by_cases hd : m.dig = n.dig
              · rw [hd] at m2
                have HU : Hid (m = n) := Lib.hid (Dig.N.ext' ht hx hd)
                clear ht hx hd
                go_wp2
                go_region
                all_goals
                  go_wp2
                  refine ⟨⟨k + 1, by omega, by go_num, by rw [HCS.out, if_pos HU.out]; go_num, HBX.out.drew⟩, by simp [intOf]; omega⟩
              · have HU : Hid (m ≠ n) := Lib.hid (fun e => hd (by rw [e]))
                clear ht hx
                go_wp2
                go_region
                all_goals
                  go_wp2
                  refine ⟨⟨k + 1, by omega, by go_num, by rw [HCS.out, if_neg HU.out]; rfl, HBX.out.drew⟩, by simp [intOf]; omega⟩
            · have HU : Hid (m ≠ n) := Lib.hid (fun e => hx (by rw [e]))
              clear ht
              go_wp2
              go_region
              all_goals
                go_wp2
                refine ⟨⟨k + 1, by omega, by go_num, by rw [HCS.out, if_neg HU.out]; rfl, HBX.out.drew⟩, by simp [intOf]; omega⟩
          · have HU : Hid (m ≠ n) := Lib.hid (fun e => ht (by rw [e]))
            go_wp2
            go_region
            all_goals
              go_wp2
              refine ⟨⟨k + 1, by omega, by go_num, by rw [HCS.out, if_neg HU.out]; rfl, HBX.out.drew⟩, by simp [intOf]; omega⟩
        · obtain rfl : k = G.length := by omega
          have h2 : ¬ ((G.length : Int) < (G.length : Int)) := by omega
          rw [List.take_length, HC1.out]
          go_wp2
          refine ⟨⟨i + 1, by omega, by go_num, F2, HIN2.out.below HBX.out, HB6.out.trans (HBX.out.mono HB6.out.size)⟩, by simp [intOf]; omega⟩
    · obtain rfl : i = I.length := by omega
      have h1 : ¬ ((I.length : Int) < (I.length : Int)) := by omega
      clear hno
      go_wp2_with fail
      refine (HCL.out F1 wr HINR.out.both.log).mono ?_
      rintro e w7 ⟨rfl, hb7⟩
      have HB7 := Lib.hid (bchain HB.out hb7)
      have HIN7 := Lib.hid (HINR.out.below hb7)
      clear hb7
      have hbb : Below w7.heap.size w7 ((w7.alloc (.cells #[.int .i64 a.tag, .string ⟨a.text.toArray⟩, .string ⟨a.dig.toArray⟩] 35)).alloc (.cells #[.int .i64 b.tag, .string ⟨b.text.toArray⟩, .string ⟨b.dig.toArray⟩] 35)) := ((Below.refl _ _).alloc (Nat.le_refl _) _).alloc (by simp) _
      have HIN8 := Lib.hid (HIN7.out.below hbb)
      have HB8 := Lib.hid (bchain HB7.out hbb)
      clear hbb
      go_wp2_with fail
      refine (HA.out F1 _ HIN8.out.both.log).mono ?_
      rintro e w9 ⟨rfl, _, hb9⟩
      have g1 := (hb9.block w7.heap.size (by simp; omega)).trans (heap_old_at _ (heap_new_at w7 (.cells #[.int .i64 a.tag, .string ⟨a.text.toArray⟩, .string ⟨a.dig.toArray⟩] 35) _ rfl))
      have g2 := (hb9.block (w7.heap.size + 1) (by simp)).trans (heap_new_at (w7.alloc (.cells #[.int .i64 a.tag, .string ⟨a.text.toArray⟩, .string ⟨a.dig.toArray⟩] 35)) (.cells #[.int .i64 b.tag, .string ⟨b.text.toArray⟩, .string ⟨b.dig.toArray⟩] 35) _ (by simp))
      have hin9 := HIN8.out.below hb9
      obtain ⟨c0, c1, c2, -, -, -⟩ := cells3 g1
      obtain ⟨d0, d1, d2, -, -, -⟩ := cells3 g2
      obtain ⟨e0, e1, e2, -, -, -⟩ := cells3 hin9.box1
      obtain ⟨f0, f1, f2, -, -, -⟩ := cells3 hin9.box2
      have HB9 := Lib.hid (bchain HB8.out hb9)
      clear hb9 g1 g2 hin9
      go_wp2
      go_ret
      exact ⟨rfl, HB9.out⟩
end Go.Proofs.YtebjckodfbailaaDoor
