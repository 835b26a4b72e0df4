/-
  The contract of the document's own Get.
-/
import Derived.Test.YtlgjbdgolchadaaRTake5
import Derived.Test.YtlgjbdgolchadaaRParts
import Derived.Test.YtlgjbdgolchadaaClone
import Derived.Test.YtlgjbdgolchadaaNumbers
import Derived.Deep.LoopGhost
namespace Go.Proofs.Ytlgjbdgolchadaa.obj
open Go.RowKit law bytes nums ord code
set_option linter.unusedVariables false

def PT (k : Int) (n : Nat) (i : Int) (t : ByteArray) : Array Value := #[.int .i64 k, .int .u64 n, .int .i64 i, .bool false, .string t, .int .i64 0, .int .i64 0, .int .i64 0]
/-- a part was read by the document's own reader: what stands in it, and the reader -/
def RT (B : Nat) (s : St) (k : Int) (n : Nat) (i : Int) (t : ByteArray) (w : World) (e : Ending) (w' : World) : Prop :=
  ∃ A c, e = .returned (.tuple #[.agg #[.int .i64 k, .int .u64 n, .int .i64 i, .bool false, .string t, .int .i64 0, .int .i64 0, .int .i64 0], .agg #[.slice A s.b.length c, .int .i64 s.e]]) ∧ s.b.length ≤ c ∧ Sl w B A (bv s.b) ∧ Below w.heap.size w w'
section
variable {s : St} {A : Option Addr} {c B : Nat} {w : World}
theorem take_1 (hs : Sl w B A (bv s.b)) (hB : B ≤ w.heap.size) (hl : s.b.length ≤ 281474976710656) (hc : s.b.length ≤ c) :
    Calls Try.prog 43 #[.agg #[.slice A s.b.length c, .int .i64 s.e], .agg #[.int .i64 1, .int .u64 0, .int .i64 0, .bool false, .string ⟨#[]⟩, .int .i64 1, .int .i64 2, .int .i64 0]] w (RT B (st1 s) 1 0 (tagS s) ⟨#[]⟩ w) := by
  have h := rtake_any A s c B ⟨1, 0, 0, false, ⟨#[]⟩, 1, 2, 0⟩ w hs hB hl hc (by dsimp only; omega)
  rw [show takeP s ⟨1, 0, 0, false, ⟨#[]⟩, 1, 2, 0⟩ = ({ zeroP 1 with i := tagS s }, st1 s) from by simp [takeP, tagS, st1]] at h
  exact h
theorem take_2 (hs : Sl w B A (bv s.b)) (hB : B ≤ w.heap.size) (hl : s.b.length ≤ 281474976710656) (hc : s.b.length ≤ c) :
    Calls Try.prog 43 #[.agg #[.slice A s.b.length c, .int .i64 s.e], .agg #[.int .i64 0, .int .u64 65536, .int .i64 0, .bool false, .string ⟨#[]⟩, .int .i64 0, .int .i64 0, .int .i64 0]] w (RT B (numS s (mayN 65536)).2 0 (numS s (mayN 65536)).1 0 ⟨#[]⟩ w) := by
  have h := rtake_any A s c B ⟨0, 65536, 0, false, ⟨#[]⟩, 0, 0, 0⟩ w hs hB hl hc (by dsimp only; omega)
  rw [show takeP s ⟨0, 65536, 0, false, ⟨#[]⟩, 0, 0, 0⟩ = ({ zeroP 0 with n := (numS s (mayN 65536)).1 }, (numS s (mayN 65536)).2) from by simp [takeP]] at h
  rw [show ((65536 : Nat) : Int) = 65536 from by omega] at h
  exact h
theorem take_3 (hs : Sl w B A (bv s.b)) (hB : B ≤ w.heap.size) (hl : s.b.length ≤ 281474976710656) (hc : s.b.length ≤ c) :
    Calls Try.prog 43 #[.agg #[.slice A s.b.length c, .int .i64 s.e], .agg #[.int .i64 1, .int .u64 0, .int .i64 0, .bool false, .string ⟨#[]⟩, .int .i64 (-2147483648), .int .i64 2147483647, .int .i64 0]] w (RT B (numS s m32).2 1 0 (decI (numS s m32).1) ⟨#[]⟩ w) := by
  have h := rtake_any A s c B ⟨1, 0, 0, false, ⟨#[]⟩, -2147483648, 2147483647, 0⟩ w hs hB hl hc (by dsimp only; omega)
  rw [show takeP s ⟨1, 0, 0, false, ⟨#[]⟩, -2147483648, 2147483647, 0⟩ = ({ zeroP 1 with i := decI (numS s m32).1 }, (numS s m32).2) from by simp [takeP, m32]] at h
  exact h
theorem take_4 (hs : Sl w B A (bv s.b)) (hB : B ≤ w.heap.size) (hl : s.b.length ≤ 281474976710656) (hc : s.b.length ≤ c) :
    Calls Try.prog 43 #[.agg #[.slice A s.b.length c, .int .i64 s.e], .agg #[.int .i64 3, .int .u64 0, .int .i64 0, .bool false, .string ⟨#[]⟩, .int .i64 0, .int .i64 0, .int .i64 65536]] w (RT B (textS s 65536).2 3 0 0 ⟨(textS s 65536).1.toArray⟩ w) := by
  have h := rtake_any A s c B ⟨3, 0, 0, false, ⟨#[]⟩, 0, 0, 65536⟩ w hs hB hl hc (by dsimp only; omega)
  rw [show takeP s ⟨3, 0, 0, false, ⟨#[]⟩, 0, 0, 65536⟩ = ({ zeroP 3 with t := ⟨(textS s 65536).1.toArray⟩ }, (textS s 65536).2) from by simp [takeP]] at h
  exact h
end
/-- the variables of the document's own Get: the reader, and what is given back -/
def Vars (w V : World) (B : Nat) (s : St) (A : Option Addr) (c : Nat) : Prop :=
  Blk V w.heap.size 40 #[.slice A s.b.length c, .int .i64 s.e] ∧ Blk V (w.heap.size + 1) 24 #[.int .i64 0, .slice none 0 0, .string ⟨#[]⟩] ∧ Blk V (w.heap.size + 1 + 1) 40 #[.slice none 0 0, .int .i64 0] ∧
    s.b.length ≤ c ∧ Sl w B A (bv s.b) ∧ Below w.heap.size w V
theorem mix_box (w : World) (t u : Nat) (a b c : Array Value) : Below w.heap.size w (((w.alloc (.cells a t)).alloc (.cells b u)).alloc (.cells c t)) ∧
    Blk (((w.alloc (.cells a t)).alloc (.cells b u)).alloc (.cells c t)) w.heap.size t a ∧ Blk (((w.alloc (.cells a t)).alloc (.cells b u)).alloc (.cells c t)) (w.heap.size + 1) u b ∧ Blk (((w.alloc (.cells a t)).alloc (.cells b u)).alloc (.cells c t)) (w.heap.size + 1 + 1) t c := by
  refine ⟨(((Below.refl _ w).alloc (Nat.le_refl _) _).alloc (by simp) _).alloc (by simp; omega) _, ((Blk.new w t a).alloc _).alloc _, ?_, ?_⟩
  · have h := (Blk.new (w.alloc (.cells a t)) u b).alloc (.cells c t)
    rwa [show (w.alloc (.cells a t)).heap.size = w.heap.size + 1 from by simp] at h
  · have h := Blk.new ((w.alloc (.cells a t)).alloc (.cells b u)) t c
    rwa [show ((w.alloc (.cells a t)).alloc (.cells b u)).heap.size = w.heap.size + 1 + 1 from by simp] at h
theorem Blk.two {w : World} {b t : Nat} {x0 x1 : Value} (h : Blk w b t #[x0, x1]) (u0 u1 : Value) : Blk ((w.setCell ⟨b, 0, none⟩ u0).setCell ⟨b, 1, none⟩ u1) b t #[u0, u1] := by
  simpa using (h.set_ 0 u0).set_ 1 u1
theorem Blk.off {w : World} {g b i t : Nat} {cs : Array Value} (h : Blk w g t cs) (hne : g ≠ b) (u : Value) : Blk (w.setCell ⟨b, i, none⟩ u) g t cs := h.far (p := ⟨b, i, none⟩) hne u
theorem Blk.eight {w : World} {b t : Nat} {x0 x1 x2 x3 x4 x5 x6 x7 : Value} (h : Blk w b t #[x0, x1, x2, x3, x4, x5, x6, x7]) (u0 u1 u2 u3 u4 u5 u6 u7 : Value) :
    Blk ((((((((w.setCell ⟨b, 0, none⟩ u0).setCell ⟨b, 1, none⟩ u1).setCell ⟨b, 2, none⟩ u2).setCell ⟨b, 3, none⟩ u3).setCell ⟨b, 4, none⟩ u4).setCell ⟨b, 5, none⟩ u5).setCell ⟨b, 6, none⟩ u6).setCell ⟨b, 7, none⟩ u7) b t #[u0, u1, u2, u3, u4, u5, u6, u7] := by
  simpa using (((((((h.set_ 0 u0).set_ 1 u1).set_ 2 u2).set_ 3 u3).set_ 4 u4).set_ 5 u5).set_ 6 u6).set_ 7 u7
theorem Blk.off8 {w : World} {g b t : Nat} {cs : Array Value} (h : Blk w g t cs) (hne : g ≠ b) (u0 u1 u2 u3 u4 u5 u6 u7 : Value) :
    Blk ((((((((w.setCell ⟨b, 0, none⟩ u0).setCell ⟨b, 1, none⟩ u1).setCell ⟨b, 2, none⟩ u2).setCell ⟨b, 3, none⟩ u3).setCell ⟨b, 4, none⟩ u4).setCell ⟨b, 5, none⟩ u5).setCell ⟨b, 6, none⟩ u6).setCell ⟨b, 7, none⟩ u7) g t cs :=
  Blk.off (Blk.off (Blk.off (Blk.off (Blk.off (Blk.off (Blk.off (Blk.off h hne u0) hne u1) hne u2) hne u3) hne u4) hne u5) hne u6) hne u7

theorem own_one {V : World} {base b i n : Nat} {t : TypeId} {v : Value} {xs : List Value} (h : V.ownsRow base t 1 v n xs) (hb : b < base) (u : Value) : (V.setCell ⟨b, i, none⟩ u).ownsRow base t 1 v n xs := ownsRow_setCell_below h hb _
theorem own_drew {V : World} {base n : Nat} {t : TypeId} {v : Value} {xs : List Value} (h : V.ownsRow base t 1 v n xs) : V.drew.ownsRow base t 1 v n xs := h
theorem own_two {V : World} {base b n : Nat} {t : TypeId} {v : Value} {xs : List Value} (h : V.ownsRow base t 1 v n xs) (hb : b < base) (u0 u1 : Value) : ((V.setCell ⟨b, 0, none⟩ u0).setCell ⟨b, 1, none⟩ u1).ownsRow base t 1 v n xs :=
  ownsRow_setCell_below (ownsRow_setCell_below h hb _) hb _
/-- the variables ahead of number k of n -/
def LV (w V : World) (p n k : Nat) (s : St) (B : Nat) (A : Option Addr) (c : Nat) (Av : Option Addr) (cv : Nat) (l : List Int) : Prop :=
  Blk V w.heap.size 40 #[.slice A s.b.length c, .int .i64 s.e] ∧ Blk V (w.heap.size + 1) 24 #[.int .i64 0, .slice none 0 0, .string ⟨#[]⟩] ∧ Blk V (w.heap.size + 1 + 1) 40 #[.slice none 0 0, .int .i64 0] ∧
    Blk V p 75 #[.int .i64 0, .int .u64 n, .int .i64 0, .bool false, .string ⟨#[]⟩, .int .i64 0, .int .i64 0, .int .i64 0] ∧ Blk V (p + 1) 24 #[.int .i64 1, .slice Av k cv, .string ⟨#[]⟩] ∧
    V.ownsRow (p + 2) 21 1 (.slice Av k cv) k (iv l) ∧ s.b.length ≤ c ∧ Sl w B A (bv s.b) ∧ Below w.heap.size w V
def RGot (B : Nat) (s : St) (w : World) (e : Ending) (w' : World) : Prop :=
  ∃ A c A' c', e = .returned (.tuple #[.agg #[.int .i64 (getO s).1.tag, .slice A (getO s).1.vec.length c, .string (getO s).1.str], .agg #[.slice A' (getO s).2.b.length c', .int .i64 (getO s).2.e]]) ∧
    Sl w' w'.heap.size A (iv (getO s).1.vec) ∧ Sl w B A' (bv (getO s).2.b) ∧ (getO s).2.b.length ≤ c' ∧ Below w.heap.size w w'
set_option maxHeartbeats 3000000 in
set_option maxRecDepth 100000 in
theorem rget_vec (s : St) (A : Option Addr) (c B : Nat) (w : World) (hs : Sl w B A (bv s.b)) (hB : B ≤ w.heap.size) (hl : s.b.length ≤ 281474976710656) (hc : s.b.length ≤ c) (hT : tagS s = 1) :
    Calls Try.prog 19 #[.agg #[.slice A s.b.length c, .int .i64 s.e]] w (RGot B s w) := by
  have hG : getO s = (if (stN (st2 s) (cnt s)).e = 0 then ⟨1, vals (st2 s) (cnt s), ⟨#[]⟩⟩ else zeroO, stN (st2 s) (cnt s)) := by unfold getO; rw [if_pos hT]
  have HG := Lib.hid hG
  have hl1 : (st1 s).b.length ≤ 281474976710656 := Nat.le_trans (numS_len _ _) hl
  have HLN : Hid (∀ k, (stN (st2 s) k).b.length ≤ 281474976710656) := Lib.hid fun k => Nat.le_trans (stN_len _ _) (Nat.le_trans (numS_len _ _) hl1)
  have HSTEP : Hid (∀ k, (numS (stN (st2 s) k) m32).2 = stN (st2 s) (k + 1) ∧ decI (numS (stN (st2 s) k) m32).1 = valN (st2 s) k) := Lib.hid fun k => ⟨rfl, rfl⟩
  have HST : Hid (∀ k, k ≤ cnt s → (stN (st2 s) k).e ≠ 0 → stN (st2 s) (cnt s) = stN (st2 s) k) := Lib.hid fun k hk h => stN_stable h _ hk
  have hcn : cnt s ≤ 65536 := num_most _ _
  unfold RGot
  obtain ⟨hb0, h1, h2, h3⟩ := mix_box w 40 24 #[.slice A s.b.length c, .int .i64 s.e] #[.int .i64 0, .slice none 0 0, .string ⟨#[]⟩] #[.slice none 0 0, .int .i64 0]
  have hT1 := take_1 (hs.below (hb0.mono hB)) (Nat.le_trans hB hb0.size) hl hc
  rw [hT] at hT1
  have HT1 := Lib.hid hT1
  clear hT1 hT hG
  go_enter Try.func19, Try.ntmps19
  go_wp2_with (fail)
  refine HT1.out.mono ?_
  rintro e w1 ⟨A1, c1, rfl, hc1, hs1, hb1⟩
  have hz1 := hb1.size
  have hz0 : w.heap.size + 3 ≤ (((w.alloc (.cells #[.slice A s.b.length c, .int .i64 s.e] 40)).alloc (.cells #[.int .i64 0, .slice none 0 0, .string ⟨#[]⟩] 24)).alloc (.cells #[.slice none 0 0, .int .i64 0] 40)).heap.size := by simp
  have h34' : w.heap.size + 3 ≤ w1.heap.size := by omega
  have h34' : w.heap.size + 3 ≤ w1.heap.size := by omega
  have h34' : w.heap.size + 3 ≤ w1.heap.size := by omega
  have h34' : w.heap.size + 3 ≤ w1.heap.size := by omega
  have h34' : w.heap.size + 3 ≤ w1.heap.size := by omega
  have h34' : w.heap.size + 3 ≤ w1.heap.size := by omega
  have h34' : w.heap.size + 3 ≤ w1.heap.size := by omega
  have k1 := h1.below hb1 h1.lt
  have k2 := h2.below hb1 h2.lt
  have k3 := h3.below hb1 h3.lt
  have hbw := hb0.trans (hb1.mono hb0.size)
  have hn0 : w.heap.size ≠ w1.heap.size := by omega
  have hs1' := back_sl hB hb0 hs1
  obtain ⟨a0, a1, af⟩ := cells2 k1
  have m1 := k1.alloc (.cells #[.int .i64 1, .int .u64 0, .int .i64 1, .bool false, .string ⟨#[]⟩, .int .i64 0, .int .i64 0, .int .i64 0] 75)
  obtain ⟨b0, b1, bf⟩ := cells2 m1
  clear hs1 hb1 h1 h2 h3 hb0 HT1 hs
  go_upto_region 3 with (fail)
  have v1 := (Blk.two m1 (.slice A1 (st1 s).b.length c1) (.int .i64 (st1 s).e)).alloc (.cells #[.int .i64 1, .slice none 0 0, .string ⟨#[]⟩] 24)
  have v2 := (Blk.off (i := 1) (Blk.off (i := 0) (k2.alloc (.cells #[.int .i64 1, .int .u64 0, .int .i64 1, .bool false, .string ⟨#[]⟩, .int .i64 0, .int .i64 0, .int .i64 0] 75)) (b := w.heap.size) (by omega) (.slice A1 (st1 s).b.length c1)) (b := w.heap.size) (by omega) (.int .i64 (st1 s).e)).alloc (.cells #[.int .i64 1, .slice none 0 0, .string ⟨#[]⟩] 24)
  have v3 := (Blk.off (i := 1) (Blk.off (i := 0) (k3.alloc (.cells #[.int .i64 1, .int .u64 0, .int .i64 1, .bool false, .string ⟨#[]⟩, .int .i64 0, .int .i64 0, .int .i64 0] 75)) (b := w.heap.size) (by omega) (.slice A1 (st1 s).b.length c1)) (b := w.heap.size) (by omega) (.int .i64 (st1 s).e)).alloc (.cells #[.int .i64 1, .slice none 0 0, .string ⟨#[]⟩] 24)
  have v4 := (Blk.off (i := 1) (Blk.off (i := 0) (Blk.new w1 75 #[.int .i64 1, .int .u64 0, .int .i64 1, .bool false, .string ⟨#[]⟩, .int .i64 0, .int .i64 0, .int .i64 0]) (b := w.heap.size) (by omega) (.slice A1 (st1 s).b.length c1)) (b := w.heap.size) (by omega) (.int .i64 (st1 s).e)).alloc (.cells #[.int .i64 1, .slice none 0 0, .string ⟨#[]⟩] 24)
  have v5 := Blk.new (((w1.alloc (.cells #[.int .i64 1, .int .u64 0, .int .i64 1, .bool false, .string ⟨#[]⟩, .int .i64 0, .int .i64 0, .int .i64 0] 75)).setCell ⟨w.heap.size, 0, none⟩ (.slice A1 (st1 s).b.length c1)).setCell ⟨w.heap.size, 1, none⟩ (.int .i64 (st1 s).e)) 24 #[.int .i64 1, .slice none 0 0, .string ⟨#[]⟩]
  have hsz : (((w1.alloc (.cells #[.int .i64 1, .int .u64 0, .int .i64 1, .bool false, .string ⟨#[]⟩, .int .i64 0, .int .i64 0, .int .i64 0] 75)).setCell ⟨w.heap.size, 0, none⟩ (.slice A1 (st1 s).b.length c1)).setCell ⟨w.heap.size, 1, none⟩ (.int .i64 (st1 s).e)).heap.size = w1.heap.size + 1 := by simp [World.setCell]
  rw [hsz] at v5
  have vb : Below w.heap.size w ((((w1.alloc (.cells #[.int .i64 1, .int .u64 0, .int .i64 1, .bool false, .string ⟨#[]⟩, .int .i64 0, .int .i64 0, .int .i64 0] 75)).setCell ⟨w.heap.size, 0, none⟩ (.slice A1 (st1 s).b.length c1)).setCell ⟨w.heap.size, 1, none⟩ (.int .i64 (st1 s).e)).alloc (.cells #[.int .i64 1, .slice none 0 0, .string ⟨#[]⟩] 24)) := (Below.two (hbw.alloc hbw.size _) (Nat.le_refl _) _ _).alloc (by have := hbw.size; rw [hsz]; omega) _
  obtain ⟨V1, hV1⟩ : ∃ V, V = ((((w1.alloc (.cells #[.int .i64 1, .int .u64 0, .int .i64 1, .bool false, .string ⟨#[]⟩, .int .i64 0, .int .i64 0, .int .i64 0] 75)).setCell ⟨w.heap.size, 0, none⟩ (.slice A1 (st1 s).b.length c1)).setCell ⟨w.heap.size, 1, none⟩ (.int .i64 (st1 s).e)).alloc (.cells #[.int .i64 1, .slice none 0 0, .string ⟨#[]⟩] 24)) := ⟨_, rfl⟩
  rw [← hV1] at v1 v2 v3 v4 v5 vb ⊢
  clear k1 k2 k3 hbw a0 a1 af m1 b0 b1 bf hV1 hsz hn0 hz0
  have hz2 := v5.lt
  obtain ⟨p4, hp4⟩ : ∃ p, p = w1.heap.size := ⟨_, rfl⟩
  rw [← hp4] at v4 v5 hz1 hz2 ⊢
  have hT2 := take_2 (w := V1) (hs1'.below (vb.mono hB)) (Nat.le_trans hB vb.size) hl1 hc1
  rw [show (numS (st1 s) (mayN 65536)).2 = st2 s from rfl, show (numS (st1 s) (mayN 65536)).1 = cnt s from rfl] at hT2
  have HT2 := Lib.hid hT2
  have h34 : w.heap.size + 3 ≤ p4 := by rw [hp4]; exact h34'
  clear hz1 hp4 hT2
  obtain ⟨a0, a1, af⟩ := cells2 v1
  obtain ⟨b0, b1, b2, b3, b4, b5, b6, b7, bf⟩ := cells8 v4
  obtain ⟨d0, d1, d2, df⟩ := cells3 v5
  go_wp2_with (fail)
  refine HT2.out.mono ?_
  rintro e w2 ⟨A2, c2, rfl, hc2, hs2, hb2⟩
  have hs2' := back_sl hB vb hs2
  have v1 := v1.below hb2 v1.lt
  have v2 := v2.below hb2 v2.lt
  have v3 := v3.below hb2 v3.lt
  have v4 := v4.below hb2 v4.lt
  have v5 := v5.below hb2 v5.lt
  have vb := vb.trans (hb2.mono vb.size)
  clear HT2 hs2 hb2 hz2 hs1' hc1 a0 a1 af b0 b1 b2 b3 b4 b5 b6 b7 bf d0 d1 d2 df
  obtain ⟨a0, a1, af⟩ := cells2 v1
  obtain ⟨b0, b1, b2, b3, b4, b5, b6, b7, bf⟩ := cells8 v4
  obtain ⟨d0, d1, d2, df⟩ := cells3 v5
  go_wp2_with (fail)
  have v1 := Blk.two (Blk.off8 v1 (b := p4) (by omega) (.int .i64 0) (.int .u64 (cnt s)) (.int .i64 0) (.bool false) (.string ⟨#[]⟩) (.int .i64 0) (.int .i64 0) (.int .i64 0)) (.slice A2 (st2 s).b.length c2) (.int .i64 (st2 s).e)
  have v2 := Blk.off (i := 1) (Blk.off (i := 0) (Blk.off8 v2 (b := p4) (by omega) (.int .i64 0) (.int .u64 (cnt s)) (.int .i64 0) (.bool false) (.string ⟨#[]⟩) (.int .i64 0) (.int .i64 0) (.int .i64 0)) (b := w.heap.size) (by omega) (.slice A2 (st2 s).b.length c2)) (b := w.heap.size) (by omega) (.int .i64 (st2 s).e)
  have v3 := Blk.off (i := 1) (Blk.off (i := 0) (Blk.off8 v3 (b := p4) (by omega) (.int .i64 0) (.int .u64 (cnt s)) (.int .i64 0) (.bool false) (.string ⟨#[]⟩) (.int .i64 0) (.int .i64 0) (.int .i64 0)) (b := w.heap.size) (by omega) (.slice A2 (st2 s).b.length c2)) (b := w.heap.size) (by omega) (.int .i64 (st2 s).e)
  have v4 := Blk.off (i := 1) (Blk.off (i := 0) (Blk.eight v4 (.int .i64 0) (.int .u64 (cnt s)) (.int .i64 0) (.bool false) (.string ⟨#[]⟩) (.int .i64 0) (.int .i64 0) (.int .i64 0)) (b := w.heap.size) (by omega) (.slice A2 (st2 s).b.length c2)) (b := w.heap.size) (by omega) (.int .i64 (st2 s).e)
  have v5 := Blk.off (i := 1) (Blk.off (i := 0) (Blk.off8 v5 (b := p4) (by omega) (.int .i64 0) (.int .u64 (cnt s)) (.int .i64 0) (.bool false) (.string ⟨#[]⟩) (.int .i64 0) (.int .i64 0) (.int .i64 0)) (b := w.heap.size) (by omega) (.slice A2 (st2 s).b.length c2)) (b := w.heap.size) (by omega) (.int .i64 (st2 s).e)
  have vb := Below.two (Below.eight vb (b := p4) (by omega) (.int .i64 0) (.int .u64 (cnt s)) (.int .i64 0) (.bool false) (.string ⟨#[]⟩) (.int .i64 0) (.int .i64 0) (.int .i64 0)) (b := w.heap.size) (Nat.le_refl _) (.slice A2 (st2 s).b.length c2) (.int .i64 (st2 s).e)
  obtain ⟨W2, hW2⟩ : ∃ V, V = ((((((((((w2.setCell ⟨p4, 0, none⟩ (.int .i64 0)).setCell ⟨p4, 1, none⟩ (.int .u64 (cnt s))).setCell ⟨p4, 2, none⟩ (.int .i64 0)).setCell ⟨p4, 3, none⟩ (.bool false)).setCell ⟨p4, 4, none⟩ (.string ⟨#[]⟩)).setCell ⟨p4, 5, none⟩ (.int .i64 0)).setCell ⟨p4, 6, none⟩ (.int .i64 0)).setCell ⟨p4, 7, none⟩ (.int .i64 0)).setCell ⟨w.heap.size, 0, none⟩ (.slice A2 (st2 s).b.length c2)).setCell ⟨w.heap.size, 1, none⟩ (.int .i64 (st2 s).e)) := ⟨_, rfl⟩
  rw [← hW2] at v1 v2 v3 v4 v5 vb ⊢
  have hlv : LV w W2 p4 (cnt s) 0 (stN (st2 s) 0) B A2 c2 none 0 (vals (st2 s) 0) := ⟨v1, v2, v3, v4, v5, World.ownsRow_nil _ _ _ _, hc2, hs2', vb⟩
  clear hW2 v1 v2 v3 v4 v5 vb a0 a1 af b0 b1 b2 b3 b4 b5 b6 b7 bf d0 d1 d2 df hc2 hs2'
  go_loopg [6] (cnt s) (fun gk i wr => ∃ (k c' cv : Nat) (A' Av : Option Addr), k ≤ cnt s ∧ gk = cnt s - k ∧ i = .int .u64 k ∧ LV w wr p4 (cnt s) k (stN (st2 s) k) B A' c' Av cv (vals (st2 s) k))
  case atStart => exact ⟨0, c2, 0, A2, none, Nat.zero_le _, rfl, rfl, hlv⟩
  case round =>
    clear hlv
    obtain ⟨k, c', cv, A', Av, hk, rfl, rfl, v1, v2, v3, v4, v5, hown, hcl, hsl, vb⟩ := hrel
    have hlen := HLN.out k
    obtain ⟨a0, a1, af⟩ := cells2 v1
    obtain ⟨b0, b1, b2, b3, b4, b5, b6, b7, bf⟩ := cells8 v4
    obtain ⟨d0, d1, d2, df⟩ := cells3 v5
    obtain ⟨x0, x1, x2, xf⟩ := cells3 v2
    obtain ⟨y0, y1, yf⟩ := cells2 v3
    by_cases he : (stN (st2 s) k).e = 0
    · have n0 : ((stN (st2 s) k).e == 0) = true := by simpa using he
      have n1 : ((stN (st2 s) k).e != 0) = false := by simpa using he
      by_cases hlt : k < cnt s
      · have l0 : decide ((k : Int) < (cnt s : Int)) = true := decide_eq_true (by omega)
        have hT3 := take_3 (w := wr) (hsl.below (vb.mono hB)) (Nat.le_trans hB vb.size) hlen hcl
        rw [(HSTEP.out k).1, (HSTEP.out k).2] at hT3
        have hv := valN_bd (st2 s) k
        have HV := Lib.hid (vals_succ (st2 s) k)
        rw [he] at hT3
        have HT3 := Lib.hid hT3
        clear hT3
        generalize valN (st2 s) k = v at HT3 hv HV
        have hwv : IntKind.i32.wrap v = v := by rw [IntKind.wrap_i32]; omega
        have hv1l := v1.lt
        go_wp2_with (fail)
        refine HT3.out.mono ?_
        rintro e w3 ⟨A3, c3, rfl, hc3, hs3, hb3⟩
        have hs3' := back_sl hB vb hs3
        have hp4 := v5.lt
        have v1 := v1.below hb3 v1.lt
        have v2 := v2.below hb3 v2.lt
        have v3 := v3.below hb3 v3.lt
        have v4 := v4.below hb3 v4.lt
        have v5 := v5.below hb3 v5.lt
        have hown := own_below hown hb3 (Nat.le_refl _)
        have vb := vb.trans (hb3.mono vb.size)
        have hz3 := hb3.size
        clear HT3 hs3 hb3 hsl hcl a0 a1 af b0 b1 b2 b3 b4 b5 b6 b7 bf d0 d1 d2 df x0 x1 x2 xf y0 y1 yf he n0 n1 l0
        go_upto_region 9 with (fail)
        have t1 := (v1.alloc (.cells #[.int .i64 1, .int .u64 0, .int .i64 v, .bool false, .string ⟨#[]⟩, .int .i64 0, .int .i64 0, .int .i64 0] 75)).alloc (.cells #[.slice A3 (stN (st2 s) (k + 1)).b.length c3, .int .i64 (stN (st2 s) (k + 1)).e] 40)
        have t2 := (v2.alloc (.cells #[.int .i64 1, .int .u64 0, .int .i64 v, .bool false, .string ⟨#[]⟩, .int .i64 0, .int .i64 0, .int .i64 0] 75)).alloc (.cells #[.slice A3 (stN (st2 s) (k + 1)).b.length c3, .int .i64 (stN (st2 s) (k + 1)).e] 40)
        have t3 := (v3.alloc (.cells #[.int .i64 1, .int .u64 0, .int .i64 v, .bool false, .string ⟨#[]⟩, .int .i64 0, .int .i64 0, .int .i64 0] 75)).alloc (.cells #[.slice A3 (stN (st2 s) (k + 1)).b.length c3, .int .i64 (stN (st2 s) (k + 1)).e] 40)
        have t4 := (v4.alloc (.cells #[.int .i64 1, .int .u64 0, .int .i64 v, .bool false, .string ⟨#[]⟩, .int .i64 0, .int .i64 0, .int .i64 0] 75)).alloc (.cells #[.slice A3 (stN (st2 s) (k + 1)).b.length c3, .int .i64 (stN (st2 s) (k + 1)).e] 40)
        have t5 := (v5.alloc (.cells #[.int .i64 1, .int .u64 0, .int .i64 v, .bool false, .string ⟨#[]⟩, .int .i64 0, .int .i64 0, .int .i64 0] 75)).alloc (.cells #[.slice A3 (stN (st2 s) (k + 1)).b.length c3, .int .i64 (stN (st2 s) (k + 1)).e] 40)
        have t7 := (Blk.new w3 75 #[.int .i64 1, .int .u64 0, .int .i64 v, .bool false, .string ⟨#[]⟩, .int .i64 0, .int .i64 0, .int .i64 0]).alloc (.cells #[.slice A3 (stN (st2 s) (k + 1)).b.length c3, .int .i64 (stN (st2 s) (k + 1)).e] 40)
        have t8 := Blk.new (w3.alloc (.cells #[.int .i64 1, .int .u64 0, .int .i64 v, .bool false, .string ⟨#[]⟩, .int .i64 0, .int .i64 0, .int .i64 0] 75)) 40 #[.slice A3 (stN (st2 s) (k + 1)).b.length c3, .int .i64 (stN (st2 s) (k + 1)).e]
        rw [show (w3.alloc (.cells #[.int .i64 1, .int .u64 0, .int .i64 v, .bool false, .string ⟨#[]⟩, .int .i64 0, .int .i64 0, .int .i64 0] 75)).heap.size = w3.heap.size + 1 from by simp] at t8
        have tow := (hown.alloc (.cells #[.int .i64 1, .int .u64 0, .int .i64 v, .bool false, .string ⟨#[]⟩, .int .i64 0, .int .i64 0, .int .i64 0] 75)).alloc (.cells #[.slice A3 (stN (st2 s) (k + 1)).b.length c3, .int .i64 (stN (st2 s) (k + 1)).e] 40)
        have tb := (vb.alloc vb.size (.cells #[.int .i64 1, .int .u64 0, .int .i64 v, .bool false, .string ⟨#[]⟩, .int .i64 0, .int .i64 0, .int .i64 0] 75)).alloc (by have := vb.size; simp; omega) (.cells #[.slice A3 (stN (st2 s) (k + 1)).b.length c3, .int .i64 (stN (st2 s) (k + 1)).e] 40)
        obtain ⟨V3, hV3⟩ : ∃ V, V = ((w3.alloc (.cells #[.int .i64 1, .int .u64 0, .int .i64 v, .bool false, .string ⟨#[]⟩, .int .i64 0, .int .i64 0, .int .i64 0] 75)).alloc (.cells #[.slice A3 (stN (st2 s) (k + 1)).b.length c3, .int .i64 (stN (st2 s) (k + 1)).e] 40)) := ⟨_, rfl⟩
        rw [← hV3] at t1 t2 t3 t4 t5 t7 t8 tow tb ⊢
        clear hV3 v1 v2 v3 v4 v5 vb hown
        obtain ⟨p7, hp7⟩ : ∃ q, q = w3.heap.size := ⟨_, rfl⟩
        rw [← hp7] at t7 t8 hz3 ⊢
        have hz7 : p4 + 1 < p7 := by omega
        clear hp7 hz3 hp4
        obtain ⟨a0, a1, af⟩ := cells2 t1
        obtain ⟨y0, y1, yf⟩ := cells2 t8
        go_upto_region 10 with (fail)
        have v1 := Blk.two t1 (.slice A3 (stN (st2 s) (k + 1)).b.length c3) (.int .i64 (stN (st2 s) (k + 1)).e)
        have v2 := Blk.off (i := 1) (Blk.off (i := 0) t2 (b := w.heap.size) (by omega) (.slice A3 (stN (st2 s) (k + 1)).b.length c3)) (b := w.heap.size) (by omega) (.int .i64 (stN (st2 s) (k + 1)).e)
        have v3 := Blk.off (i := 1) (Blk.off (i := 0) t3 (b := w.heap.size) (by omega) (.slice A3 (stN (st2 s) (k + 1)).b.length c3)) (b := w.heap.size) (by omega) (.int .i64 (stN (st2 s) (k + 1)).e)
        have v4 := Blk.off (i := 1) (Blk.off (i := 0) t4 (b := w.heap.size) (by omega) (.slice A3 (stN (st2 s) (k + 1)).b.length c3)) (b := w.heap.size) (by omega) (.int .i64 (stN (st2 s) (k + 1)).e)
        have v5 := Blk.off (i := 1) (Blk.off (i := 0) t5 (b := w.heap.size) (by omega) (.slice A3 (stN (st2 s) (k + 1)).b.length c3)) (b := w.heap.size) (by omega) (.int .i64 (stN (st2 s) (k + 1)).e)
        have v7 := Blk.off (i := 1) (Blk.off (i := 0) t7 (b := w.heap.size) (by omega) (.slice A3 (stN (st2 s) (k + 1)).b.length c3)) (b := w.heap.size) (by omega) (.int .i64 (stN (st2 s) (k + 1)).e)
        have vo := own_one (i := 1) (own_one (i := 0) tow (b := w.heap.size) (by omega) (.slice A3 (stN (st2 s) (k + 1)).b.length c3)) (b := w.heap.size) (by omega) (.int .i64 (stN (st2 s) (k + 1)).e)
        have vb := Below.two tb (b := w.heap.size) (Nat.le_refl _) (.slice A3 (stN (st2 s) (k + 1)).b.length c3) (.int .i64 (stN (st2 s) (k + 1)).e)
        obtain ⟨W4, hW4⟩ : ∃ V, V = ((V3.setCell ⟨w.heap.size, 0, none⟩ (.slice A3 (stN (st2 s) (k + 1)).b.length c3)).setCell ⟨w.heap.size, 1, none⟩ (.int .i64 (stN (st2 s) (k + 1)).e)) := ⟨_, rfl⟩
        rw [← hW4] at v1 v2 v3 v4 v5 v7 vo vb ⊢
        clear hW4 t1 t2 t3 t4 t5 t7 t8 tow tb a0 a1 af y0 y1 yf
        obtain ⟨d0, d1, d2, df⟩ := cells3 v5
        obtain ⟨q0, q1, q2, q3, q4, q5, q6, q7, qf⟩ := cells8 v7
        have h7l := v7.lt
        have h4k : k + 1 ≤ 65536 := by omega
        have hnn : p4 + 1 ≠ W4.heap.size := by omega
        have hn7 : p7 ≠ W4.heap.size := by omega
        go_wp2_with (at_builtin
                     refine wpList_append_sl _ rfl (.tmp 46) (.tmp 50) _ rfl (p4 + 2) 21 _ 4 Try.underlying22 int32E (.slice Av k cv) k (iv (vals (st2 s) k)) rfl (vo.alloc _) _ _ 1 1 [.int .i32 v] rfl (Sl.one W4 _ _) rfl (by simp [Value.oneCell']) (by omega) (by unfold maxLen; omega) (by simp; omega) ?_
                     intro x5 w5 hown5 hg5 hat5
                     obtain ⟨A5, c5, rfl, hc5⟩ := own_slice hown5
                     rw [← iv_one_cons, ← iv_append, ← HV.out] at hown5
                     have z1 := (v1.alloc (.cells #[.int .i32 v] 21)).grown hg5 (fun e => by have := (vo.lt _ e.symm).1; omega)
                     have z2 := (v2.alloc (.cells #[.int .i32 v] 21)).grown hg5 (fun e => by have := (vo.lt _ e.symm).1; omega)
                     have z3 := (v3.alloc (.cells #[.int .i32 v] 21)).grown hg5 (fun e => by have := (vo.lt _ e.symm).1; omega)
                     have z4 := (v4.alloc (.cells #[.int .i32 v] 21)).grown hg5 (fun e => by have := (vo.lt _ e.symm).1; omega)
                     have z5 := (v5.alloc (.cells #[.int .i32 v] 21)).grown hg5 (fun e => by have := (vo.lt _ e.symm).1; omega)
                     have zb := (vb.alloc vb.size (.cells #[.int .i32 v] 21)).grown hg5 (by have := vb.size; simp; omega) (fun j hj => by have := (vo.lt j hj).1; omega)
                     obtain ⟨r0, r1, r2, rf⟩ := cells3 z5)
        go_roundg (cnt s - (k + 1))
        case measure => omega
        case rel =>
          refine ⟨k + 1, c3, c5, A3, A5, by omega, rfl, by go_num, Blk.off z1 (by omega) _, Blk.off z2 (by omega) _, Blk.off z3 (by omega) _, Blk.off z4 (by omega) _, z5.set_ 1 _, own_one hown5 (by omega) _, hc3, hs3', Below.one zb (by omega) _⟩
      · obtain rfl : k = cnt s := by omega
        have HE := Lib.hid he
        clear he
        go_wp2_with (fail)
        go_region
        all_goals
          (try go_wp2)
          refine bodyPost_ret (v := .tuple #[.agg #[.int .i64 1, .slice Av (cnt s) cv, .string ⟨#[]⟩], .agg #[.slice A' (stN (st2 s) (cnt s)).b.length c', .int .i64 (stN (st2 s) (cnt s)).e]]) (by simp [results, Try.results19, go_sem, x0, x1, x2, y0, y1]) rfl ?_
          rw [HG.out, if_pos HE.out]
          simp only [vals_len]
          refine ⟨Av, cv, A', c', rfl, ?_, hsl, hcl, ?_⟩
          · (refine Sl.of_own (base := p4 + 2) (e := 21) (n := cnt s) (c := cv) ?_; (repeat' (first | (with_reducible exact hown) | (with_reducible refine own_drew ?_) | (with_reducible refine own_one ?_ (by omega) _))))
          · (repeat' (first | (with_reducible exact vb) | (with_reducible refine Below.drew ?_) | (with_reducible refine Below.one ?_ (by omega) _)))
    · have n0 : ((stN (st2 s) k).e == 0) = false := by simpa using he
      have n1 : ((stN (st2 s) k).e != 0) = true := by simpa using he
      have HSTK := Lib.hid (HST.out k hk he)
      have HE := Lib.hid he
      clear he
      by_cases hlt : k < cnt s
      · have l0 : decide ((k : Int) < (cnt s : Int)) = true := decide_eq_true (by omega)
        go_wp2_with (fail)
        go_region
        all_goals
          (try go_wp2)
          refine bodyPost_ret (v := .tuple #[.agg #[.int .i64 0, .slice none 0 0, .string ⟨#[]⟩], .agg #[.slice A' (stN (st2 s) k).b.length c', .int .i64 (stN (st2 s) k).e]]) (by simp [results, Try.results19, go_sem, x0, x1, x2, y0, y1]) rfl ?_
          rw [HG.out, HSTK.out, if_neg HE.out]
          refine ⟨none, 0, A', c', rfl, Sl.nil, hsl, hcl, ?_⟩
          (repeat' (first | (with_reducible exact vb) | (with_reducible refine Below.drew ?_) | (with_reducible refine Below.one ?_ (by omega) _)))
      · have l0 : decide ((k : Int) < (cnt s : Int)) = false := decide_eq_false (by omega)
        go_wp2_with (fail)
        go_region
        all_goals
          (try go_wp2)
          refine bodyPost_ret (v := .tuple #[.agg #[.int .i64 0, .slice none 0 0, .string ⟨#[]⟩], .agg #[.slice A' (stN (st2 s) k).b.length c', .int .i64 (stN (st2 s) k).e]]) (by simp [results, Try.results19, go_sem, x0, x1, x2, y0, y1]) rfl ?_
          rw [HG.out, HSTK.out, if_neg HE.out]
          refine ⟨none, 0, A', c', rfl, Sl.nil, hsl, hcl, ?_⟩
          (repeat' (first | (with_reducible exact vb) | (with_reducible refine Below.drew ?_) | (with_reducible refine Below.one ?_ (by omega) _)))
end Go.Proofs.Ytlgjbdgolchadaa.obj
