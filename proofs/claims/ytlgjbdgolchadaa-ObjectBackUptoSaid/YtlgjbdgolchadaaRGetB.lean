/-
  The contract of the document's own Get: bytes, and what is none.
-/
import Derived.Test.YtlgjbdgolchadaaRGet
namespace Go.Proofs.Ytlgjbdgolchadaa.obj
open Go.RowKit law bytes nums ord code
set_option linter.unusedVariables false

set_option maxHeartbeats 3000000 in
set_option maxRecDepth 100000 in
theorem rget_no (s : St) (A : Option Addr) (c B : Nat) (w : World) (hs : Sl w B A (bv s.b)) (hB : B ≤ w.heap.size) (hl : s.b.length ≤ 281474976710656) (hc : s.b.length ≤ c) (hT1 : tagS s ≠ 1) (hT2 : tagS s ≠ 2) :
    Calls Try.prog 19 #[.agg #[.slice A s.b.length c, .int .i64 s.e]] w (RGot B s w) := by
  have hG : getO s = (zeroO, st1 s) := by unfold getO; rw [if_neg hT1, if_neg hT2]
  have HG := Lib.hid hG
  have he := tag_no hT1 hT2
  have hl1 : (st1 s).b.length ≤ 281474976710656 := Nat.le_trans (numS_len _ _) hl
  unfold RGot
  obtain ⟨hb0, h1, h2, h3⟩ := mix_box w 40 24 #[.slice A s.b.length c, .int .i64 s.e] #[.int .i64 0, .slice none 0 0, .string ⟨#[]⟩] #[.slice none 0 0, .int .i64 0]
  have hT1' := take_1 (hs.below (hb0.mono hB)) (Nat.le_trans hB hb0.size) hl hc
  generalize tagS s = T at hT1 hT2 hT1'
  have e1 : (T == 1) = false := by simpa using hT1
  have e2 : (T == 2) = false := by simpa using hT2
  have n0 : ((st1 s).e == 0) = false := by simpa using he
  have n1 : ((st1 s).e != 0) = true := by simpa using he
  have HT1 := Lib.hid hT1'
  clear hT1' hG he hT1 hT2
  go_enter Try.func19, Try.ntmps19
  go_wp2_with (fail)
  refine HT1.out.mono ?_
  rintro e w1 ⟨A1, c1, rfl, hc1, hs1, hb1⟩
  have hz1 := hb1.size
  have hz0 : w.heap.size + 3 ≤ (((w.alloc (.cells #[.slice A s.b.length c, .int .i64 s.e] 40)).alloc (.cells #[.int .i64 0, .slice none 0 0, .string ⟨#[]⟩] 24)).alloc (.cells #[.slice none 0 0, .int .i64 0] 40)).heap.size := by simp
  have h34' : w.heap.size + 3 ≤ w1.heap.size := by omega
  have k1 := h1.below hb1 h1.lt
  have k2 := h2.below hb1 h2.lt
  have k3 := h3.below hb1 h3.lt
  have hbw := hb0.trans (hb1.mono hb0.size)
  have hn0 : w.heap.size ≠ w1.heap.size := by omega
  have hs1' := back_sl hB hb0 hs1
  obtain ⟨a0, a1, af⟩ := cells2 k1
  have m1 := k1.alloc (.cells #[.int .i64 1, .int .u64 0, .int .i64 T, .bool false, .string ⟨#[]⟩, .int .i64 0, .int .i64 0, .int .i64 0] 75)
  obtain ⟨b0, b1, bf⟩ := cells2 m1
  clear hs1 hb1 h1 h2 h3 hb0 HT1 hs
  go_upto_region 3 with (fail)
  have v1 := (Blk.two m1 (.slice A1 (st1 s).b.length c1) (.int .i64 (st1 s).e)).alloc (.cells #[.int .i64 T, .slice none 0 0, .string ⟨#[]⟩] 24)
  have v2 := (Blk.off (i := 1) (Blk.off (i := 0) (k2.alloc (.cells #[.int .i64 1, .int .u64 0, .int .i64 T, .bool false, .string ⟨#[]⟩, .int .i64 0, .int .i64 0, .int .i64 0] 75)) (b := w.heap.size) (by omega) (.slice A1 (st1 s).b.length c1)) (b := w.heap.size) (by omega) (.int .i64 (st1 s).e)).alloc (.cells #[.int .i64 T, .slice none 0 0, .string ⟨#[]⟩] 24)
  have v3 := (Blk.off (i := 1) (Blk.off (i := 0) (k3.alloc (.cells #[.int .i64 1, .int .u64 0, .int .i64 T, .bool false, .string ⟨#[]⟩, .int .i64 0, .int .i64 0, .int .i64 0] 75)) (b := w.heap.size) (by omega) (.slice A1 (st1 s).b.length c1)) (b := w.heap.size) (by omega) (.int .i64 (st1 s).e)).alloc (.cells #[.int .i64 T, .slice none 0 0, .string ⟨#[]⟩] 24)
  have v4 := (Blk.off (i := 1) (Blk.off (i := 0) (Blk.new w1 75 #[.int .i64 1, .int .u64 0, .int .i64 T, .bool false, .string ⟨#[]⟩, .int .i64 0, .int .i64 0, .int .i64 0]) (b := w.heap.size) (by omega) (.slice A1 (st1 s).b.length c1)) (b := w.heap.size) (by omega) (.int .i64 (st1 s).e)).alloc (.cells #[.int .i64 T, .slice none 0 0, .string ⟨#[]⟩] 24)
  have v5 := Blk.new (((w1.alloc (.cells #[.int .i64 1, .int .u64 0, .int .i64 T, .bool false, .string ⟨#[]⟩, .int .i64 0, .int .i64 0, .int .i64 0] 75)).setCell ⟨w.heap.size, 0, none⟩ (.slice A1 (st1 s).b.length c1)).setCell ⟨w.heap.size, 1, none⟩ (.int .i64 (st1 s).e)) 24 #[.int .i64 T, .slice none 0 0, .string ⟨#[]⟩]
  have hsz : (((w1.alloc (.cells #[.int .i64 1, .int .u64 0, .int .i64 T, .bool false, .string ⟨#[]⟩, .int .i64 0, .int .i64 0, .int .i64 0] 75)).setCell ⟨w.heap.size, 0, none⟩ (.slice A1 (st1 s).b.length c1)).setCell ⟨w.heap.size, 1, none⟩ (.int .i64 (st1 s).e)).heap.size = w1.heap.size + 1 := by simp [World.setCell]
  rw [hsz] at v5
  have vb : Below w.heap.size w ((((w1.alloc (.cells #[.int .i64 1, .int .u64 0, .int .i64 T, .bool false, .string ⟨#[]⟩, .int .i64 0, .int .i64 0, .int .i64 0] 75)).setCell ⟨w.heap.size, 0, none⟩ (.slice A1 (st1 s).b.length c1)).setCell ⟨w.heap.size, 1, none⟩ (.int .i64 (st1 s).e)).alloc (.cells #[.int .i64 T, .slice none 0 0, .string ⟨#[]⟩] 24)) := (Below.two (hbw.alloc hbw.size _) (Nat.le_refl _) _ _).alloc (by have := hbw.size; rw [hsz]; omega) _
  obtain ⟨V1, hV1⟩ : ∃ V, V = ((((w1.alloc (.cells #[.int .i64 1, .int .u64 0, .int .i64 T, .bool false, .string ⟨#[]⟩, .int .i64 0, .int .i64 0, .int .i64 0] 75)).setCell ⟨w.heap.size, 0, none⟩ (.slice A1 (st1 s).b.length c1)).setCell ⟨w.heap.size, 1, none⟩ (.int .i64 (st1 s).e)).alloc (.cells #[.int .i64 T, .slice none 0 0, .string ⟨#[]⟩] 24)) := ⟨_, rfl⟩
  rw [← hV1] at v1 v2 v3 v4 v5 vb ⊢
  clear k1 k2 k3 hbw a0 a1 af m1 b0 b1 bf hV1 hsz hn0 hz0
  obtain ⟨p4, hp4⟩ : ∃ p, p = w1.heap.size := ⟨_, rfl⟩
  rw [← hp4] at v4 v5 hz1 ⊢
  have h34 : w.heap.size + 3 ≤ p4 := by rw [hp4]; exact h34'
  clear hz1 hp4 h34'
  obtain ⟨a0, a1, af⟩ := cells2 v1
  obtain ⟨b0, b1, b2, b3, b4, b5, b6, b7, bf⟩ := cells8 v4
  obtain ⟨d0, d1, d2, df⟩ := cells3 v5
  obtain ⟨x0, x1, x2, xf⟩ := cells3 v2
  obtain ⟨y0, y1, yf⟩ := cells2 v3
  go_wp2_with (fail)
  go_region
  all_goals
    (try go_wp2)
    refine bodyPost_ret (v := .tuple #[.agg #[.int .i64 0, .slice none 0 0, .string ⟨#[]⟩], .agg #[.slice A1 (st1 s).b.length c1, .int .i64 (st1 s).e]]) (by simp [results, Try.results19, go_sem, x0, x1, x2, y0, y1]) rfl ?_
    rw [HG.out]
    refine ⟨none, 0, A1, c1, rfl, Sl.nil, hs1', hc1, ?_⟩
    (repeat' (first | (with_reducible exact vb) | (with_reducible refine Below.drew ?_) | (with_reducible refine Below.one ?_ (by omega) _)))
set_option maxHeartbeats 3000000 in
set_option maxRecDepth 100000 in
theorem rget_str (s : St) (A : Option Addr) (c B : Nat) (w : World) (hs : Sl w B A (bv s.b)) (hB : B ≤ w.heap.size) (hl : s.b.length ≤ 281474976710656) (hc : s.b.length ≤ c) (hT : tagS s = 2) :
    Calls Try.prog 19 #[.agg #[.slice A s.b.length c, .int .i64 s.e]] w (RGot B s w) := by
  have hG : getO s = (if (textS (st1 s) 65536).2.e = 0 then ⟨2, [], ⟨(textS (st1 s) 65536).1.toArray⟩⟩ else zeroO, (textS (st1 s) 65536).2) := by unfold getO; rw [if_neg (by omega), if_pos hT]
  have hl1 : (st1 s).b.length ≤ 281474976710656 := Nat.le_trans (numS_len _ _) hl
  unfold RGot
  obtain ⟨hb0, h1, h2, h3⟩ := mix_box w 40 24 #[.slice A s.b.length c, .int .i64 s.e] #[.int .i64 0, .slice none 0 0, .string ⟨#[]⟩] #[.slice none 0 0, .int .i64 0]
  have hT1 := take_1 (hs.below (hb0.mono hB)) (Nat.le_trans hB hb0.size) hl hc
  rw [hT] at hT1
  have HT1 := Lib.hid hT1
  have hT2 := fun (W : World) (A1 : Option Addr) (c1 : Nat) h1 h2 h3 => take_4 (s := st1 s) (A := A1) (c := c1) (B := B) (w := W) h1 h2 hl1 h3
  generalize textS (st1 s) 65536 = t at hG hT2
  have HG := Lib.hid hG
  have HT2 := Lib.hid hT2
  clear hT1 hT hG hT2
  go_enter Try.func19, Try.ntmps19
  go_wp2_with (fail)
  refine HT1.out.mono ?_
  rintro e w1 ⟨A1, c1, rfl, hc1, hs1, hb1⟩
  have hz1 := hb1.size
  have hz0 : w.heap.size + 3 ≤ (((w.alloc (.cells #[.slice A s.b.length c, .int .i64 s.e] 40)).alloc (.cells #[.int .i64 0, .slice none 0 0, .string ⟨#[]⟩] 24)).alloc (.cells #[.slice none 0 0, .int .i64 0] 40)).heap.size := by simp
  have h34' : w.heap.size + 3 ≤ w1.heap.size := by omega
  have k1 := h1.below hb1 h1.lt
  have k2 := h2.below hb1 h2.lt
  have k3 := h3.below hb1 h3.lt
  have hbw := hb0.trans (hb1.mono hb0.size)
  have hn0 : w.heap.size ≠ w1.heap.size := by omega
  have hs1' := back_sl hB hb0 hs1
  obtain ⟨a0, a1, af⟩ := cells2 k1
  have m1 := k1.alloc (.cells #[.int .i64 1, .int .u64 0, .int .i64 2, .bool false, .string ⟨#[]⟩, .int .i64 0, .int .i64 0, .int .i64 0] 75)
  obtain ⟨b0, b1, bf⟩ := cells2 m1
  clear hs1 hb1 h1 h2 h3 hb0 HT1 hs
  go_upto_region 3 with (fail)
  have v1 := (Blk.two m1 (.slice A1 (st1 s).b.length c1) (.int .i64 (st1 s).e)).alloc (.cells #[.int .i64 2, .slice none 0 0, .string ⟨#[]⟩] 24)
  have v2 := (Blk.off (i := 1) (Blk.off (i := 0) (k2.alloc (.cells #[.int .i64 1, .int .u64 0, .int .i64 2, .bool false, .string ⟨#[]⟩, .int .i64 0, .int .i64 0, .int .i64 0] 75)) (b := w.heap.size) (by omega) (.slice A1 (st1 s).b.length c1)) (b := w.heap.size) (by omega) (.int .i64 (st1 s).e)).alloc (.cells #[.int .i64 2, .slice none 0 0, .string ⟨#[]⟩] 24)
  have v3 := (Blk.off (i := 1) (Blk.off (i := 0) (k3.alloc (.cells #[.int .i64 1, .int .u64 0, .int .i64 2, .bool false, .string ⟨#[]⟩, .int .i64 0, .int .i64 0, .int .i64 0] 75)) (b := w.heap.size) (by omega) (.slice A1 (st1 s).b.length c1)) (b := w.heap.size) (by omega) (.int .i64 (st1 s).e)).alloc (.cells #[.int .i64 2, .slice none 0 0, .string ⟨#[]⟩] 24)
  have v4 := (Blk.off (i := 1) (Blk.off (i := 0) (Blk.new w1 75 #[.int .i64 1, .int .u64 0, .int .i64 2, .bool false, .string ⟨#[]⟩, .int .i64 0, .int .i64 0, .int .i64 0]) (b := w.heap.size) (by omega) (.slice A1 (st1 s).b.length c1)) (b := w.heap.size) (by omega) (.int .i64 (st1 s).e)).alloc (.cells #[.int .i64 2, .slice none 0 0, .string ⟨#[]⟩] 24)
  have v5 := Blk.new (((w1.alloc (.cells #[.int .i64 1, .int .u64 0, .int .i64 2, .bool false, .string ⟨#[]⟩, .int .i64 0, .int .i64 0, .int .i64 0] 75)).setCell ⟨w.heap.size, 0, none⟩ (.slice A1 (st1 s).b.length c1)).setCell ⟨w.heap.size, 1, none⟩ (.int .i64 (st1 s).e)) 24 #[.int .i64 2, .slice none 0 0, .string ⟨#[]⟩]
  have hsz : (((w1.alloc (.cells #[.int .i64 1, .int .u64 0, .int .i64 2, .bool false, .string ⟨#[]⟩, .int .i64 0, .int .i64 0, .int .i64 0] 75)).setCell ⟨w.heap.size, 0, none⟩ (.slice A1 (st1 s).b.length c1)).setCell ⟨w.heap.size, 1, none⟩ (.int .i64 (st1 s).e)).heap.size = w1.heap.size + 1 := by simp [World.setCell]
  rw [hsz] at v5
  have vb : Below w.heap.size w ((((w1.alloc (.cells #[.int .i64 1, .int .u64 0, .int .i64 2, .bool false, .string ⟨#[]⟩, .int .i64 0, .int .i64 0, .int .i64 0] 75)).setCell ⟨w.heap.size, 0, none⟩ (.slice A1 (st1 s).b.length c1)).setCell ⟨w.heap.size, 1, none⟩ (.int .i64 (st1 s).e)).alloc (.cells #[.int .i64 2, .slice none 0 0, .string ⟨#[]⟩] 24)) := (Below.two (hbw.alloc hbw.size _) (Nat.le_refl _) _ _).alloc (by have := hbw.size; rw [hsz]; omega) _
  obtain ⟨V1, hV1⟩ : ∃ V, V = ((((w1.alloc (.cells #[.int .i64 1, .int .u64 0, .int .i64 2, .bool false, .string ⟨#[]⟩, .int .i64 0, .int .i64 0, .int .i64 0] 75)).setCell ⟨w.heap.size, 0, none⟩ (.slice A1 (st1 s).b.length c1)).setCell ⟨w.heap.size, 1, none⟩ (.int .i64 (st1 s).e)).alloc (.cells #[.int .i64 2, .slice none 0 0, .string ⟨#[]⟩] 24)) := ⟨_, rfl⟩
  rw [← hV1] at v1 v2 v3 v4 v5 vb ⊢
  clear k1 k2 k3 hbw a0 a1 af m1 b0 b1 bf hV1 hsz hn0 hz0
  obtain ⟨p4, hp4⟩ : ∃ p, p = w1.heap.size := ⟨_, rfl⟩
  rw [← hp4] at v4 v5 hz1 ⊢
  have h34 : w.heap.size + 3 ≤ p4 := by rw [hp4]; exact h34'
  clear hz1 hp4 h34'
  obtain ⟨a0, a1, af⟩ := cells2 v1
  obtain ⟨b0, b1, b2, b3, b4, b5, b6, b7, bf⟩ := cells8 v4
  obtain ⟨d0, d1, d2, df⟩ := cells3 v5
  obtain ⟨x0, x1, x2, xf⟩ := cells3 v2
  obtain ⟨y0, y1, yf⟩ := cells2 v3
  have HT3 := Lib.hid (HT2.out V1 A1 c1 (hs1'.below (vb.mono hB)) (Nat.le_trans hB vb.size) hc1)
  clear HT2
  go_wp2_with (fail)
  refine HT3.out.mono ?_
  rintro e w2 ⟨A2, c2, rfl, hc2, hs2, hb2⟩
  have hs2' := back_sl hB vb hs2
  have v1 := v1.below hb2 v1.lt
  have v2 := v2.below hb2 v2.lt
  have v3 := v3.below hb2 v3.lt
  have v4 := v4.below hb2 v4.lt
  have v5 := v5.below hb2 v5.lt
  have vb := vb.trans (hb2.mono vb.size)
  clear HT3 hs2 hb2 hs1' hc1 a0 a1 af b0 b1 b2 b3 b4 b5 b6 b7 bf d0 d1 d2 df x0 x1 x2 xf y0 y1 yf
  obtain ⟨a0, a1, af⟩ := cells2 v1
  obtain ⟨b0, b1, b2, b3, b4, b5, b6, b7, bf⟩ := cells8 v4
  obtain ⟨d0, d1, d2, df⟩ := cells3 v5
  go_upto_region 13 with (fail)
  have v1 := Blk.two (Blk.off8 v1 (b := p4) (by omega) (.int .i64 3) (.int .u64 0) (.int .i64 0) (.bool false) (.string ⟨t.1.toArray⟩) (.int .i64 0) (.int .i64 0) (.int .i64 0)) (.slice A2 t.2.b.length c2) (.int .i64 t.2.e)
  have v2 := Blk.off (i := 1) (Blk.off (i := 0) (Blk.off8 v2 (b := p4) (by omega) (.int .i64 3) (.int .u64 0) (.int .i64 0) (.bool false) (.string ⟨t.1.toArray⟩) (.int .i64 0) (.int .i64 0) (.int .i64 0)) (b := w.heap.size) (by omega) (.slice A2 t.2.b.length c2)) (b := w.heap.size) (by omega) (.int .i64 t.2.e)
  have v3 := Blk.off (i := 1) (Blk.off (i := 0) (Blk.off8 v3 (b := p4) (by omega) (.int .i64 3) (.int .u64 0) (.int .i64 0) (.bool false) (.string ⟨t.1.toArray⟩) (.int .i64 0) (.int .i64 0) (.int .i64 0)) (b := w.heap.size) (by omega) (.slice A2 t.2.b.length c2)) (b := w.heap.size) (by omega) (.int .i64 t.2.e)
  have v4 := Blk.off (i := 1) (Blk.off (i := 0) (Blk.eight v4 (.int .i64 3) (.int .u64 0) (.int .i64 0) (.bool false) (.string ⟨t.1.toArray⟩) (.int .i64 0) (.int .i64 0) (.int .i64 0)) (b := w.heap.size) (by omega) (.slice A2 t.2.b.length c2)) (b := w.heap.size) (by omega) (.int .i64 t.2.e)
  have v5 := Blk.off (i := 1) (Blk.off (i := 0) (Blk.off8 v5 (b := p4) (by omega) (.int .i64 3) (.int .u64 0) (.int .i64 0) (.bool false) (.string ⟨t.1.toArray⟩) (.int .i64 0) (.int .i64 0) (.int .i64 0)) (b := w.heap.size) (by omega) (.slice A2 t.2.b.length c2)) (b := w.heap.size) (by omega) (.int .i64 t.2.e)
  have vb := Below.two (Below.eight vb (b := p4) (by omega) (.int .i64 3) (.int .u64 0) (.int .i64 0) (.bool false) (.string ⟨t.1.toArray⟩) (.int .i64 0) (.int .i64 0) (.int .i64 0)) (b := w.heap.size) (Nat.le_refl _) (.slice A2 t.2.b.length c2) (.int .i64 t.2.e)
  obtain ⟨W2, hW2⟩ : ∃ V, V = ((((((((((w2.setCell ⟨p4, 0, none⟩ (.int .i64 3)).setCell ⟨p4, 1, none⟩ (.int .u64 0)).setCell ⟨p4, 2, none⟩ (.int .i64 0)).setCell ⟨p4, 3, none⟩ (.bool false)).setCell ⟨p4, 4, none⟩ (.string ⟨t.1.toArray⟩)).setCell ⟨p4, 5, none⟩ (.int .i64 0)).setCell ⟨p4, 6, none⟩ (.int .i64 0)).setCell ⟨p4, 7, none⟩ (.int .i64 0)).setCell ⟨w.heap.size, 0, none⟩ (.slice A2 t.2.b.length c2)).setCell ⟨w.heap.size, 1, none⟩ (.int .i64 t.2.e)) := ⟨_, rfl⟩
  rw [← hW2] at v1 v2 v3 v4 v5 vb ⊢
  clear hW2 a0 a1 af b0 b1 b2 b3 b4 b5 b6 b7 bf d0 d1 d2 df
  obtain ⟨b0, b1, b2, b3, b4, b5, b6, b7, bf⟩ := cells8 v4
  obtain ⟨d0, d1, d2, df⟩ := cells3 v5
  go_upto_region 14 with (fail)
  have v1 := Blk.off (i := 2) v1 (b := p4 + 1) (by omega) (.string ⟨t.1.toArray⟩)
  have v2 := Blk.off (i := 2) v2 (b := p4 + 1) (by omega) (.string ⟨t.1.toArray⟩)
  have v3 := Blk.off (i := 2) v3 (b := p4 + 1) (by omega) (.string ⟨t.1.toArray⟩)
  have v5 := v5.set_ 2 (.string ⟨t.1.toArray⟩)
  have vb := Below.one (i := 2) vb (b := p4 + 1) (by omega) (.string ⟨t.1.toArray⟩)
  obtain ⟨W3, hW3⟩ : ∃ V, V = W2.setCell ⟨p4 + 1, 2, none⟩ (.string ⟨t.1.toArray⟩) := ⟨_, rfl⟩
  rw [← hW3] at v1 v2 v3 v5 vb ⊢
  clear hW3 v4 b0 b1 b2 b3 b4 b5 b6 b7 bf d0 d1 d2 df
  obtain ⟨a0, a1, af⟩ := cells2 v1
  obtain ⟨x0, x1, x2, xf⟩ := cells3 v2
  obtain ⟨y0, y1, yf⟩ := cells2 v3
  obtain ⟨d0, d1, d2, df⟩ := cells3 v5
  by_cases he : t.2.e = 0
  · have n0 : (t.2.e == 0) = true := by simpa using he
    have n1 : (t.2.e != 0) = false := by simpa using he
    have HE := Lib.hid he
    clear he
    go_wp2_with (fail)
    go_region
    all_goals
      (try go_wp2)
      refine bodyPost_ret (v := .tuple #[.agg #[.int .i64 2, .slice none 0 0, .string ⟨t.1.toArray⟩], .agg #[.slice A2 t.2.b.length c2, .int .i64 t.2.e]]) (by simp [results, Try.results19, go_sem, x0, x1, x2, y0, y1]) rfl ?_
      rw [HG.out, if_pos HE.out]
      refine ⟨none, 0, A2, c2, rfl, Sl.nil, hs2', hc2, ?_⟩
      (repeat' (first | (with_reducible exact vb) | (with_reducible refine Below.drew ?_) | (with_reducible refine Below.one ?_ (by omega) _)))
  · have n0 : (t.2.e == 0) = false := by simpa using he
    have n1 : (t.2.e != 0) = true := by simpa using he
    have HE := Lib.hid he
    clear he
    go_wp2_with (fail)
    go_region
    all_goals
      (try go_wp2)
      refine bodyPost_ret (v := .tuple #[.agg #[.int .i64 0, .slice none 0 0, .string ⟨#[]⟩], .agg #[.slice A2 t.2.b.length c2, .int .i64 t.2.e]]) (by simp [results, Try.results19, go_sem, x0, x1, x2, y0, y1]) rfl ?_
      rw [HG.out, if_neg HE.out]
      refine ⟨none, 0, A2, c2, rfl, Sl.nil, hs2', hc2, ?_⟩
      (repeat' (first | (with_reducible exact vb) | (with_reducible refine Below.drew ?_) | (with_reducible refine Below.one ?_ (by omega) _)))

theorem rget_any (s : St) (A : Option Addr) (c B : Nat) (w : World) (hs : Sl w B A (bv s.b)) (hB : B ≤ w.heap.size) (hl : s.b.length ≤ 281474976710656) (hc : s.b.length ≤ c) :
    Calls Try.prog 19 #[.agg #[.slice A s.b.length c, .int .i64 s.e]] w (RGot B s w) := by
  by_cases h1 : tagS s = 1
  · exact rget_vec s A c B w hs hB hl hc h1
  by_cases h2 : tagS s = 2
  · exact rget_str s A c B w hs hB hl hc h2
  exact rget_no s A c B w hs hB hl hc h1 h2
end Go.Proofs.Ytlgjbdgolchadaa.obj
