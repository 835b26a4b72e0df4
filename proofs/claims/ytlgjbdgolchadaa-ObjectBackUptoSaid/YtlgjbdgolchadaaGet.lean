/-
  The contract of object.Get.
-/
import Derived.Test.YtlgjbdgolchadaaNumbers
import Derived.Test.YtlgjbdgolchadaaTake5
namespace Go.Proofs.Ytlgjbdgolchadaa.obj
open Go.RowKit law bytes nums ord code
set_option linter.unusedVariables false

/-- a thing was read; the reader alone has turned, and what is new -/
def GotO (g : Nat) (s : St) (w : World) (e : Ending) (w' : World) : Prop :=
  ∃ A c, e = .returned (.agg #[.int .i64 (getO s).1.tag, .slice A (getO s).1.vec.length c, .string (getO s).1.str]) ∧ w.grownBy w' (some g) ∧ Rd w' g (getO s).2 ∧ Sl w' w'.heap.size A (iv (getO s).1.vec)
theorem Since.three {w V : World} {g : Nat} {s : St} (h : Since w V g s) {b : Nat} (hb : w.heap.size ≤ b) (u0 u1 u2 : Value) :
    Since w (((V.setCell ⟨b, 0, none⟩ u0).setCell ⟨b, 1, none⟩ u1).setCell ⟨b, 2, none⟩ u2) g s := ((h.set hb u0).set hb u1).set hb u2
theorem gro {w : World} {g p t : Nat} {cs : Array Value} {w' : World} (h : Blk w p t cs) (hg : w.grownBy w' (some g)) (hne : p ≠ g) : Blk w' p t cs := h.grown hg (fun e => hne (by injection e))

section
variable {g : Nat} {s : St} {w : World}
/-- behind the tag -/
theorem get_head (hr : Rd w g s) (hl : s.b.length ≤ 281474976710656) :
    Calls Try.prog 39 #[.pointer (some ⟨g, 0, none⟩), .int .i64 1, .int .i64 2] (w.alloc (.cells #[.int .i64 0, .slice none 0 0, .string ⟨#[]⟩] 24)) fun e w1 =>
      e = .returned (.int .i64 (tagS s)) ∧ w.heap.size < w1.heap.size ∧ w.grownBy w1 (some g) ∧ Rd w1 g (st1 s) ∧ Blk w1 w.heap.size 24 #[.int .i64 0, .slice none 0 0, .string ⟨#[]⟩] := by
  have h := rint_read g s 1 2 _ (hr.alloc (.cells #[.int .i64 0, .slice none 0 0, .string ⟨#[]⟩] 24)) hl
  refine h.mono ?_
  rintro e w1 ⟨rfl, hg1, hr1⟩
  have hg := hr.lt
  have hz := hg1.size
  refine ⟨rfl, ?_, only_trans (only_alloc (only_refl w _) _) hg1, hr1, gro (Blk.new w _ _) hg1 (by omega)⟩
  simp at hz
  omega
theorem alloc_size (w : World) (o : Obj) : (w.alloc o).heap.size = w.heap.size + 1 := by simp

set_option maxHeartbeats 1600000 in
theorem get_vec (hr : Rd w g s) (hc : nums.Clean s) (hl : s.b.length ≤ 281474976710656) (hT : tagS s = 1) : Calls Try.prog 18 #[.pointer (some ⟨g, 0, none⟩)] w (GotO g s w) := by
  have hG : getO s = (if (stN (st2 s) (cnt s)).e = 0 then ⟨1, vals (st2 s) (cnt s), ⟨#[]⟩⟩ else zeroO, stN (st2 s) (cnt s)) := by unfold getO; rw [if_pos hT]
  have hH := get_head hr hl
  rw [hT] at hH
  have HH := Lib.hid hH
  have hc1 : nums.Clean (st1 s) := numS_clean hc _
  have hl1 : (st1 s).b.length ≤ 281474976710656 := Nat.le_trans (numS_len _ _) hl
  have hg := hr.lt
  have hfc : nums.Clean (stN (st2 s) (cnt s)) := stN_clean (numS_clean hc1 _) _
  have hfl : (stN (st2 s) (cnt s)).b.length ≤ 281474976710656 := Nat.le_trans (stN_len _ _) (Nat.le_trans (numS_len _ _) hl1)
  have HFC := Lib.hid hfc
  have HFL := Lib.hid hfl
  have HG := Lib.hid hG
  clear hG hT hH hfc hfl hc hl hr
  unfold GotO
  go_enter Try.func18, Try.ntmps18
  go_wp2_with (fail)
  refine HH.out.mono ?_
  rintro e w1 ⟨rfl, hz1, hg1, hr1, hb1⟩
  clear HH
  have hbq := Blk.new w1 24 #[.int .i64 1, .slice none 0 0, .string ⟨#[]⟩]
  have hr1' := hr1.alloc (.cells #[.int .i64 1, .slice none 0 0, .string ⟨#[]⟩] 24)
  have hb1' := hb1.alloc (.cells #[.int .i64 1, .slice none 0 0, .string ⟨#[]⟩] 24)
  have hg1' := only_alloc hg1 (.cells #[.int .i64 1, .slice none 0 0, .string ⟨#[]⟩] 24)
  have hN := numbers_any g (st1 s) _ hr1' hc1 hl1
  have hsz := alloc_size w1 (.cells #[.int .i64 1, .slice none 0 0, .string ⟨#[]⟩] 24)
  have HN := Lib.hid hN
  clear hN hr1 hb1 hg1
  go_wp2_with (fail)
  refine HN.out.mono ?_
  rintro e w2 ⟨A, n, c, rfl, hn, hg2, hr2, hcond⟩
  have hcond' : (stN (st2 s) (cnt s)).e = 0 → n = cnt s ∧ w2.ownsRow (w1.heap.size + 1) 21 1 (.slice A n c) n (iv (vals (st2 s) (cnt s))) := by rw [← hsz]; exact hcond
  have hr2' : Rd w2 g (stN (st2 s) (cnt s)) := hr2
  have hbp := gro hb1' hg2 (by omega)
  have hbq2 := gro hbq hg2 (by omega)
  have hgg := only_trans hg1' hg2
  have hS : Since w w2 g (stN (st2 s) (cnt s)) := ⟨hg, hgg, hr2'⟩
  generalize hq : w1.heap.size = q at *
  have hS3 := hS.set (b := q) (i := 1) (by omega) (.slice A n c)
  have hbq3 := hbq2.set_ 1 (.slice A n c)
  have hbp3 := Blk.far (p := ⟨q, 1, none⟩) hbp (by show w.heap.size ≠ q; omega) (.slice A n c)
  have hB := broken_any g _ _ hS3.2.2 HFC.out HFL.out
  have HC := Lib.hid hcond'
  have HS3 := Lib.hid hS3
  obtain ⟨q0, q1, q2, qf⟩ := cells3 hbq2
  obtain ⟨a0, a1, a2, af⟩ := cells3 hbq3
  obtain ⟨b0, b1, b2, bf⟩ := cells3 hbp3
  have HN2 := Lib.hid hn
  clear HN hcond hcond' hr2 hr2' hbp hbq2 hgg hS hg2 hr1' hb1' hg1' hbq hsz hbq3 hbp3 hS3 hn
  by_cases he : (stN (st2 s) (cnt s)).e = 0
  · rw [decide_eq_false (by simp [he])] at hB
    have HB := Lib.hid hB
    have HE := Lib.hid he
    clear hB he
    go_wp2_with (fail)
    refine HB.out.mono ?_
    rintro e w3 ⟨rfl, rfl⟩
    go_wp2_with (fail)
    obtain ⟨rfl, hown⟩ := HC.out HE.out
    refine bodyPost_ret (v := .agg #[.int .i64 1, .slice A (cnt s) c, .string ⟨#[]⟩]) (by simp [results, Try.results18, go_sem, b0, b1, b2]) rfl ?_
    obtain ⟨h1, h2, h3⟩ := Since.three HS3.out (b := w.heap.size) (Nat.le_refl _) (.int .i64 1) (.slice A (cnt s) c) (.string ⟨#[]⟩)
    have k1 : (w2.setCell ⟨q, 1, none⟩ (.slice A (cnt s) c)).ownsRow (q + 1) 21 1 (.slice A (cnt s) c) (cnt s) (iv (vals (st2 s) (cnt s))) := ownsRow_setCell_below hown (Nat.lt_succ_self q) _
    have k2 := Sl.of_own (own_three k1 (b := w.heap.size) (by omega) (.int .i64 1) (.slice A (cnt s) c) (.string ⟨#[]⟩))
    rw [HG.out, if_pos HE.out]
    simp only [vals_len]
    exact ⟨A, c, rfl, h2, h3, k2⟩
  · rw [decide_eq_true he] at hB
    have HB := Lib.hid hB
    have HE := Lib.hid he
    clear hB he
    go_wp2_with (fail)
    refine HB.out.mono ?_
    rintro e w3 ⟨rfl, rfl⟩
    go_wp2_with (fail)
    refine bodyPost_ret (v := .agg #[.int .i64 0, .slice none 0 0, .string ⟨#[]⟩]) (by simp [results, Try.results18, go_sem, b0, b1, b2]) rfl ?_
    obtain ⟨h1, h2, h3⟩ := Since.three HS3.out (b := w.heap.size) (Nat.le_refl _) (.int .i64 0) (.slice none 0 0) (.string ⟨#[]⟩)
    rw [HG.out, if_neg HE.out]
    exact ⟨none, 0, rfl, h2, h3, Sl.nil⟩
set_option maxHeartbeats 1600000 in
theorem get_str (hr : Rd w g s) (hc : nums.Clean s) (hl : s.b.length ≤ 281474976710656) (hT : tagS s = 2) : Calls Try.prog 18 #[.pointer (some ⟨g, 0, none⟩)] w (GotO g s w) := by
  have hG : getO s = (if (textS (st1 s) 65536).2.e = 0 then ⟨2, [], ⟨(textS (st1 s) 65536).1.toArray⟩⟩ else zeroO, (textS (st1 s) 65536).2) := by unfold getO; rw [if_neg (by omega), if_pos hT]
  have hH := get_head hr hl
  rw [hT] at hH
  have HH := Lib.hid hH
  have hc1 : nums.Clean (st1 s) := numS_clean hc _
  have hl1 : (st1 s).b.length ≤ 281474976710656 := Nat.le_trans (numS_len _ _) hl
  have hg := hr.lt
  have hfc : nums.Clean (textS (st1 s) 65536).2 := textS_clean hc1 _
  have hfl : (textS (st1 s) 65536).2.b.length ≤ 281474976710656 := by have := textS_len (st1 s) 65536; omega
  have hX := fun W hr1 => rtext_read g (st1 s) 65536 (by omega) W hr1 hl1
  generalize textS (st1 s) 65536 = t at hG hfc hfl hX
  have HX := Lib.hid hX
  have HFC := Lib.hid hfc
  have HFL := Lib.hid hfl
  have HG := Lib.hid hG
  clear hG hT hH hfc hfl hc hl hr hX hc1 hl1
  unfold GotO
  go_enter Try.func18, Try.ntmps18
  go_wp2_with (fail)
  refine HH.out.mono ?_
  rintro e w1 ⟨rfl, hz1, hg1, hr1, hb1⟩
  clear HH
  have hbq := Blk.new w1 24 #[.int .i64 2, .slice none 0 0, .string ⟨#[]⟩]
  have hr1' := hr1.alloc (.cells #[.int .i64 2, .slice none 0 0, .string ⟨#[]⟩] 24)
  have hb1' := hb1.alloc (.cells #[.int .i64 2, .slice none 0 0, .string ⟨#[]⟩] 24)
  have hg1' := only_alloc hg1 (.cells #[.int .i64 2, .slice none 0 0, .string ⟨#[]⟩] 24)
  have HN := Lib.hid (HX.out _ hr1')
  clear hr1 hb1 hg1 HX
  go_wp2_with (fail)
  refine HN.out.mono ?_
  rintro e w2 ⟨rfl, hg2, hr2⟩
  have hbp := gro hb1' hg2 (by omega)
  have hbq2 := gro hbq hg2 (by omega)
  have hgg := only_trans hg1' hg2
  have hS : Since w w2 g t.2 := ⟨hg, hgg, hr2⟩
  generalize hq : w1.heap.size = q at *
  have hS3 := hS.set (b := q) (i := 2) (by omega) (.string ⟨t.1.toArray⟩)
  have hbq3 := hbq2.set_ 2 (.string ⟨t.1.toArray⟩)
  have hbp3 := Blk.far (p := ⟨q, 2, none⟩) hbp (by show w.heap.size ≠ q; omega) (.string ⟨t.1.toArray⟩)
  have hB := broken_any g _ _ hS3.2.2 HFC.out HFL.out
  have HS3 := Lib.hid hS3
  obtain ⟨q0, q1, q2, qf⟩ := cells3 hbq2
  obtain ⟨a0, a1, a2, af⟩ := cells3 hbq3
  obtain ⟨b0, b1, b2, bf⟩ := cells3 hbp3
  clear HN hr2 hbp hbq2 hgg hS hg2 hr1' hb1' hg1' hbq hbq3 hbp3 hS3
  by_cases he : t.2.e = 0
  · rw [decide_eq_false (by simp [he])] at hB
    have HB := Lib.hid hB
    have HE := Lib.hid he
    clear hB he
    go_wp2_with (fail)
    refine HB.out.mono ?_
    rintro e w3 ⟨rfl, rfl⟩
    go_wp2_with (fail)
    refine bodyPost_ret (v := .agg #[.int .i64 2, .slice none 0 0, .string ⟨t.1.toArray⟩]) (by simp [results, Try.results18, go_sem, b0, b1, b2]) rfl ?_
    obtain ⟨h1, h2, h3⟩ := Since.three HS3.out (b := w.heap.size) (Nat.le_refl _) (.int .i64 2) (.slice none 0 0) (.string ⟨t.1.toArray⟩)
    rw [HG.out, if_pos HE.out]
    exact ⟨none, 0, rfl, h2, h3, Sl.nil⟩
  · rw [decide_eq_true he] at hB
    have HB := Lib.hid hB
    have HE := Lib.hid he
    clear hB he
    go_wp2_with (fail)
    refine HB.out.mono ?_
    rintro e w3 ⟨rfl, rfl⟩
    go_wp2_with (fail)
    refine bodyPost_ret (v := .agg #[.int .i64 0, .slice none 0 0, .string ⟨#[]⟩]) (by simp [results, Try.results18, go_sem, b0, b1, b2]) rfl ?_
    obtain ⟨h1, h2, h3⟩ := Since.three HS3.out (b := w.heap.size) (Nat.le_refl _) (.int .i64 0) (.slice none 0 0) (.string ⟨#[]⟩)
    rw [HG.out, if_neg HE.out]
    exact ⟨none, 0, rfl, h2, h3, Sl.nil⟩
set_option maxHeartbeats 1600000 in
theorem get_no (hr : Rd w g s) (hc : nums.Clean s) (hl : s.b.length ≤ 281474976710656) (hT1 : tagS s ≠ 1) (hT2 : tagS s ≠ 2) : Calls Try.prog 18 #[.pointer (some ⟨g, 0, none⟩)] w (GotO g s w) := by
  have hG : getO s = (zeroO, st1 s) := by unfold getO; rw [if_neg hT1, if_neg hT2]
  have he := tag_no hT1 hT2
  have hH := get_head hr hl
  have hc1 : nums.Clean (st1 s) := numS_clean hc _
  have hl1 : (st1 s).b.length ≤ 281474976710656 := Nat.le_trans (numS_len _ _) hl
  have hg := hr.lt
  generalize tagS s = T at hH hT1 hT2
  have e1 : (T == 1) = false := by simpa using hT1
  have e2 : (T == 2) = false := by simpa using hT2
  have HH := Lib.hid hH
  have HG := Lib.hid hG
  have HC := Lib.hid hc1
  have HE := Lib.hid he
  clear hG hT1 hT2 hH hc hl hr hc1 he
  unfold GotO
  go_enter Try.func18, Try.ntmps18
  go_wp2_with (fail)
  refine HH.out.mono ?_
  rintro e w1 ⟨rfl, hz1, hg1, hr1, hb1⟩
  clear HH
  have hbq := Blk.new w1 24 #[.int .i64 T, .slice none 0 0, .string ⟨#[]⟩]
  have hr1' := hr1.alloc (.cells #[.int .i64 T, .slice none 0 0, .string ⟨#[]⟩] 24)
  have hb1' := hb1.alloc (.cells #[.int .i64 T, .slice none 0 0, .string ⟨#[]⟩] 24)
  have hg1' := only_alloc hg1 (.cells #[.int .i64 T, .slice none 0 0, .string ⟨#[]⟩] 24)
  go_wp2_with (fail)
  obtain ⟨V1, hV1⟩ : ∃ V, V = (w1.alloc (.cells #[.int .i64 T, .slice none 0 0, .string ⟨#[]⟩] 24)) := ⟨_, rfl⟩
  rw [← hV1] at hr1' hb1' hg1' ⊢
  have hB := broken_any g _ _ hr1' HC.out hl1
  rw [decide_eq_true HE.out] at hB
  have HB := Lib.hid hB
  have hS : Since w V1 g (st1 s) := ⟨hg, hg1', hr1'⟩
  have HS := Lib.hid hS
  obtain ⟨b0, b1, b2, bf⟩ := cells3 hb1'
  clear hB hr1 hb1 hg1 hr1' hb1' hg1' hbq hS hV1
  refine HB.out.mono ?_
  rintro e w3 ⟨rfl, rfl⟩
  go_wp2_with (fail)
  refine bodyPost_ret (v := .agg #[.int .i64 0, .slice none 0 0, .string ⟨#[]⟩]) (by simp [results, Try.results18, go_sem, b0, b1, b2]) rfl ?_
  obtain ⟨h1, h2, h3⟩ := Since.three HS.out (b := w.heap.size) (Nat.le_refl _) (.int .i64 0) (.slice none 0 0) (.string ⟨#[]⟩)
  rw [HG.out]
  exact ⟨none, 0, rfl, h2, h3, Sl.nil⟩
theorem get_any (hr : Rd w g s) (hc : nums.Clean s) (hl : s.b.length ≤ 281474976710656) : Calls Try.prog 18 #[.pointer (some ⟨g, 0, none⟩)] w (GotO g s w) := by
  by_cases h1 : tagS s = 1
  · exact get_vec hr hc hl h1
  by_cases h2 : tagS s = 2
  · exact get_str hr hc hl h2
  exact get_no hr hc hl h1 h2
end
end Go.Proofs.Ytlgjbdgolchadaa.obj
