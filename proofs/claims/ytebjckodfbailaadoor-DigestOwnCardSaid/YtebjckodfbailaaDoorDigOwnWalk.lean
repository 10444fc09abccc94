/- DigestOwn: what is noted with its own sum has the sum of the tag's byte and the text; it is found by it, unless something of this sum was noted ahead. -/
import Derived.Test.YtebjckodfbailaaDoorDigOnceWalk
namespace Go.Proofs.YtebjckodfbailaaDoor
open Go.RowKit

theorem conv_byte (w : World) (x : Int) (h0 : 0 ≤ x) (h1 : x < 256) : (convert 50 9 (.slice (some ⟨w.heap.size, 0, none⟩) 1 1)).run Tryd.prog (w.alloc (.cells #[.int .u8 x] 5)) = .ok (.string ⟨[Sha.byteOf x].toArray⟩) (w.alloc (.cells #[.int .u8 x] 5)) := by
  have := conv_tag w x
  rw [show x % 256 = x by omega] at this
  exact this
theorem Dig.own_tag {t : Int} (h0 : 1 ≤ t) (h1 : t < 256) : Dig.isTag t = true := by simp [Dig.isTag]; omega
theorem Dig.own_put {G : List Dig.N} (hl : G.length ≤ 40) {t : Int} (h0 : 1 ≤ t) (h1 : t < 256) (s : List UInt8) : Dig.putC G (Dig.noted t s) = 0 := by
  have ht := Dig.own_tag h0 h1
  have hd : (Dig.sum t s).length = 32 := by rw [Dig.sum, if_pos ht]; exact Sha.sumP_length _
  have hg : ¬ 1024 ≤ G.length := by omega
  simp [Dig.putC, Dig.noted, ht, hd, hg]
/-- What is found behind. -/
theorem Dig.own_find {G : List Dig.N} (n : Dig.N) (h : Dig.putC G n = 0) : Dig.find (Dig.putL G n) n.dig = some ((Dig.find G n.dig).getD n) := by
  unfold Dig.putL
  split
  · rw [Dig.find_snoc]
    cases Dig.find G n.dig <;> simp
  · rename_i ht
    have hm : n ∈ G := by
      unfold Dig.putC at h
      unfold Dig.taken at ht
      by_cases h1 : Dig.isTag n.tag = true
      · by_cases h2 : n.dig.length = 32
        · by_cases h3 : n ∈ G
          · exact h3
          · by_cases h4 : G.length < 1024
            · exact absurd ⟨h1, h2, h3, h4⟩ ht
            · simp [h1, h2, h3, Nat.not_lt.1 h4] at h
        · simp [h1, h2] at h
      · simp [h1] at h
    obtain ⟨m, e⟩ := Dig.find_mem hm
    rw [e]; rfl

set_option maxRecDepth 8000 in
set_option maxHeartbeats 2000000 in
theorem own_walk (v : Value) (L : List Dig.N) (t : Int) (s : ByteArray) (w : World) (hv : Noteds w v L) (hlen : L.length * 40 ≤ reachBytes) (hok : ∀ n ∈ L, OkN n) (ht : (Lit.int .u8 t).wf = true) (hs : s.size ≤ maxLen) (hT : Tab w) :
    Calls Tryd.prog 7 #[v, .int .u8 t, .string s] w fun e w' => e = .returned (.bool true) ∧ Below w.heap.size w w' := by
  have hr : reachBytes = 140737488351232 := rfl
  obtain ⟨l, rfl⟩ := bytes_list s
  have hls : (⟨l.toArray⟩ : ByteArray).size = l.length := size_list l
  rw [hls] at hs
  have ht0 : 0 ≤ t ∧ t < 256 := by
    have e1 : IntKind.u8.min = 0 := by decide
    have e2 : IntKind.u8.max = 255 := by decide
    simp [Lit.wf, e1, e2] at ht
    omega
  have HF := Lib.hid (fun w hv => fill_any L v w hv hok (by omega))
  have HV := Lib.hid hv
  have HT := Lib.hid hT
  obtain ⟨A, cap, rfl⟩ := hv.form
  have hlmax : (l.length : Int) ≤ 9223372036854775807 := by unfold maxLen at hs; omega
  clear hv hlen hok hT hr hls hs ht
  by_cases hbig : (l.length : Int) > 200
  · go_enter Tryd.func7, Tryd.ntmps7
    go_wp2_with fail
    refine (works_any _ HT.out).mono ?_
    rintro e w1 ⟨rfl, hb1⟩
    go_wp2
    go_ret
    exact ⟨rfl, hb1⟩
  by_cases hz : t = 0
  · subst hz
    go_enter Tryd.func7, Tryd.ntmps7
    go_wp2_with fail
    refine (works_any _ HT.out).mono ?_
    rintro e w1 ⟨rfl, hb1⟩
    go_wp2
    go_ret
    exact ⟨rfl, hb1⟩
  obtain ⟨h0, h1⟩ := ht0
  have h2 : 1 ≤ t := by omega
  have hbd : decide (200 < (l.length : Int)) = false := decide_eq_false (by omega)
  have hzd : (t == 0) = false := beq_eq_false_iff_ne.2 hz
  have HD32 : Hid ((Sha.sumP (Sha.byteOf t :: l)).length = 32) := Lib.hid (Sha.sumP_length _)
  have hcb := fun w => conv_byte w t h0 h1
  have hcm := cat_mk [Sha.byteOf t] l
  rw [List.singleton_append] at hcm
  have HS := Lib.hid (fun w hw => sum_any (Sha.byteOf t :: l) w hw (by simp; omega))
  have HSD : Hid (Dig.sum t l = Sha.sumP (Sha.byteOf t :: l)) := Lib.hid (by rw [Dig.sum, if_pos (Dig.own_tag h2 h1)])
  have HNT : Hid (Dig.noted t l = ⟨t, l, Sha.sumP (Sha.byteOf t :: l)⟩) := Lib.hid (by rw [Dig.noted, HSD.out])
  have HNO := Lib.hid (fun G g F w hl hT => note_any t l G g F w hl hT (by simp [Lit.wf, show IntKind.i64.min = -9223372036854775808 by decide, show IntKind.i64.max = 9223372036854775807 by decide]; omega) (by omega))
  have HPC := Lib.hid (fun (G : List Dig.N) (hG : G.length ≤ 40) => Dig.own_put hG h2 h1 l)
  rw [HNT.out] at HNO HPC
  obtain ⟨D, hD⟩ : ∃ D, Sha.sumP (Sha.byteOf t :: l) = D := ⟨_, rfl⟩
  rw [hD] at HD32 HS HSD HNT HNO HPC
  have hdl : D.length ≤ 140737488351232 := by have := HD32.out; omega
  have HDL := Lib.hid hdl
  clear hD hdl
  go_enter Tryd.func7, Tryd.ntmps7
  go_wp2_with fail
  refine (works_any _ HT.out).mono ?_
  rintro e w1 ⟨rfl, hb1⟩
  have HB1 := Lib.hid hb1
  clear hb1
  go_wp2_with fail
  refine (HF.out _ (HV.out.below HB1.out)).mono ?_
  rintro e w2 ⟨g, s, F, rfl, hbo, hb2⟩
  have hgl : (Dig.fillG [] (L.take 40)).length ≤ 40 := by
    have h3 := Dig.fillI_length [] [] (L.take 40)
    have h4 := Dig.fill_len (L.take 40)
    simp at h3
    omega
  obtain ⟨G, hG⟩ : ∃ G, Dig.fillG [] (L.take 40) = G := ⟨_, rfl⟩
  obtain ⟨I, hI⟩ : ∃ I, Dig.fillI [] [] (L.take 40) = I := ⟨_, rfl⟩
  rw [hG] at hgl
  rw [hG, hI] at hbo
  have HBO := Lib.hid hbo
  have HB2 := Lib.hid (bchain HB1.out hb2)
  have HOF := Lib.hid (Dig.own_find ⟨t, l, D⟩ (HPC.out G hgl))
  have HPG := Lib.hid (HPC.out G hgl)
  have HF1 := Lib.hid (fun F w hl => find_any G D g F w hl HDL.out)
  have HF2 := Lib.hid (fun F w hl => find_any (Dig.putL G ⟨t, l, D⟩) D g F w hl HDL.out)
  have HN := Lib.hid (fun F w hl hT => HNO.out G g F w hl hT)
  dsimp only at HOF
  rw [HPG.out, show Dig.noteS G t l = D by rw [Dig.noteS, HNT.out, HPG.out, if_pos rfl, HSD.out]] at HN
  rw [HOF.out] at HF2
  have hsz1 : w.heap.size ≤ w1.heap.size := HB1.out.size
  clear hG hI hbo hb2 hgl HOF HPC HNO
  obtain ⟨n1, ok1, n2, hX, hF1, hF2⟩ : ∃ n1 ok1 n2, ((ok1 = true ∧ n1 = n2) ∨ (ok1 = false ∧ n2 = ⟨t, l, D⟩)) ∧
      (∀ (F : Nat → Prop) (w : World), LogAt w g F G → Calls Tryd.prog 23 #[.pointer (some ⟨g, 0, none⟩), .string ⟨D.toArray⟩] w fun e w' => e = .returned (.tuple #[nval n1, .bool ok1]) ∧ Below w.heap.size w w') ∧
      (∀ (F : Nat → Prop) (w : World), LogAt w g F (Dig.putL G ⟨t, l, D⟩) → Calls Tryd.prog 23 #[.pointer (some ⟨g, 0, none⟩), .string ⟨D.toArray⟩] w fun e w' => e = .returned (.tuple #[nval n2, .bool true]) ∧ Below w.heap.size w w') := by
    refine ⟨_, _, _, ?_, HF1.out, HF2.out⟩
    cases Dig.find G D with
    | none => exact Or.inr ⟨rfl, rfl⟩
    | some m => exact Or.inl ⟨rfl, rfl⟩
  unfold nval at hF1 hF2
  have HG1 := Lib.hid hF1
  have HG2 := Lib.hid hF2
  have HX := Lib.hid hX
  clear hX hF1 hF2 HF1 HF2
  go_wp2_with fail
  refine (HS.out _ (HT.out.below (HB2.out.alloc HB2.out.size _))).mono ?_
  rintro e w3 ⟨rfl, hb3⟩
  have hb3' := bchain ((Below.refl w2.heap.size w2).alloc (Nat.le_refl _) (.cells #[.int .u8 t] 5)) hb3
  have HBO3 := Lib.hid (HBO.out.below hb3')
  have HB3 := Lib.hid (bchain HB2.out hb3')
  clear hb3 hb3'
  go_wp2_with fail
  refine (HG1.out F _ HBO3.out.log).mono ?_
  rintro e w4 ⟨rfl, hb4⟩
  have hb4' : Below w3.heap.size w3 (w4.alloc (.cells #[.int .i64 n1.tag, .string ⟨n1.text.toArray⟩, .string ⟨n1.dig.toArray⟩] 35)) := hb4.alloc hb4.size _
  have HBO4 := Lib.hid (HBO3.out.below hb4')
  have HB4 := Lib.hid (bchain HB3.out hb4')
  have hs4 : w3.heap.size ≤ w4.heap.size := hb4.size
  have HLT : Hid (∀ k, F k → k < w4.heap.size) := Lib.hid (fun k hk => Nat.lt_of_lt_of_le (HBO3.out.log.lt k hk) hs4)
  have HBX := Lib.hid (heap_new_at w4 (.cells #[.int .i64 n1.tag, .string ⟨n1.text.toArray⟩, .string ⟨n1.dig.toArray⟩] 35) _ rfl)
  clear hb4 hb4' hs4
  go_wp2_with fail
  refine (HN.out F _ HBO4.out.log (HT.out.below HB4.out)).mono ?_
  rintro e w5 ⟨rfl, F2, hF2, hl2, ho2⟩
  have HL5 := Lib.hid hl2
  have HBX5 := Lib.hid (ho2.heap HBX.out (fun hf => absurd (HLT.out _ hf) (by omega)))
  have HB5 := Lib.hid (HB4.out.trans (ho2.below (fun k hk => Nat.le_trans hsz1 (HBO4.out.from_ k hk)) HB4.out.size))
  clear hF2 hl2 ho2
  go_wp2_with fail
  refine (HG2.out F2 _ HL5.out).mono ?_
  rintro e w6 ⟨rfl, hb6⟩
  have hbx6 := heap_old_at (.cells #[.int .i64 n2.tag, .string ⟨n2.text.toArray⟩, .string ⟨n2.dig.toArray⟩] 35) ((hb6.block _ (lt_of_heap HBX5.out)).trans HBX5.out)
  obtain ⟨c0, c1, c2, -, -, -⟩ := cells3 hbx6
  have HB6 := Lib.hid ((bchain HB5.out hb6).alloc (bchain HB5.out hb6).size (.cells #[.int .i64 n2.tag, .string ⟨n2.text.toArray⟩, .string ⟨n2.dig.toArray⟩] 35))
  clear hb6 hbx6
  rcases HX.out with ⟨rfl, rfl⟩ | ⟨rfl, rfl⟩
  · go_wp2
    go_ret
    exact ⟨rfl, HB6.out⟩
  · go_wp2
    go_ret
    exact ⟨rfl, HB6.out⟩
end Go.Proofs.YtebjckodfbailaaDoor
