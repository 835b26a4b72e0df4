/-
  A part is read by the document's own reader.
-/
import Derived.Test.YtlgjbdgolchadaaTake5
import Derived.Test.YtlgjbdgolchadaaTakeP
namespace Go.Proofs.Ytlgjbdgolchadaa.code
open Go.RowKit law bytes nums
set_option linter.unusedVariables false

theorem five (w : World) (t t' : Nat) (a b c d e : Array Value) :
    Below w.heap.size w (((((w.alloc (.cells a t)).alloc (.cells b t')).alloc (.cells c t')).alloc (.cells d t)).alloc (.cells e t')) ∧
    Blk (((((w.alloc (.cells a t)).alloc (.cells b t')).alloc (.cells c t')).alloc (.cells d t)).alloc (.cells e t')) (w.heap.size + 1) t' b ∧
    Blk (((((w.alloc (.cells a t)).alloc (.cells b t')).alloc (.cells c t')).alloc (.cells d t)).alloc (.cells e t')) (w.heap.size + 1 + 1) t' c ∧
    Blk (((((w.alloc (.cells a t)).alloc (.cells b t')).alloc (.cells c t')).alloc (.cells d t)).alloc (.cells e t')) (w.heap.size + 1 + 1 + 1) t d ∧
    Blk (((((w.alloc (.cells a t)).alloc (.cells b t')).alloc (.cells c t')).alloc (.cells d t)).alloc (.cells e t')) (w.heap.size + 1 + 1 + 1 + 1) t' e := by
  refine ⟨((((((Below.refl _ w).alloc (Nat.le_refl _) _).alloc (by simp) _).alloc (by simp; omega) _).alloc (by simp; omega) _).alloc (by simp; omega) _), ?_, ?_, ?_, ?_⟩
  · have h := (((Blk.new (w.alloc (.cells a t)) t' b).alloc (.cells c t')).alloc (.cells d t)).alloc (.cells e t')
    rwa [show (w.alloc (.cells a t)).heap.size = w.heap.size + 1 from by simp] at h
  · have h := ((Blk.new ((w.alloc (.cells a t)).alloc (.cells b t')) t' c).alloc (.cells d t)).alloc (.cells e t')
    rwa [show ((w.alloc (.cells a t)).alloc (.cells b t')).heap.size = w.heap.size + 1 + 1 from by simp] at h
  · have h := (Blk.new (((w.alloc (.cells a t)).alloc (.cells b t')).alloc (.cells c t')) t d).alloc (.cells e t')
    rwa [show (((w.alloc (.cells a t)).alloc (.cells b t')).alloc (.cells c t')).heap.size = w.heap.size + 1 + 1 + 1 from by simp] at h
  · have h := Blk.new ((((w.alloc (.cells a t)).alloc (.cells b t')).alloc (.cells c t')).alloc (.cells d t)) t' e
    rwa [show ((((w.alloc (.cells a t)).alloc (.cells b t')).alloc (.cells c t')).alloc (.cells d t)).heap.size = w.heap.size + 1 + 1 + 1 + 1 from by simp] at h

/-- a part was read by the document's own reader: nothing that there was has turned -/
def RTook (B : Nat) (s : St) (q : Part) (w : World) (e : Ending) (w' : World) : Prop :=
  ∃ A c, e = .returned (.tuple #[.agg #[.int .i64 q.kind, .int .u64 q.n, .int .i64 q.i, .bool q.f, .string q.t, .int .i64 q.low, .int .i64 q.high, .int .i64 q.most], .agg #[.slice A s.b.length c, .int .i64 s.e]]) ∧
    s.b.length ≤ c ∧ Sl w B A (bv s.b) ∧ Below w.heap.size w w'
theorem back_sl {w W : World} {B : Nat} {A : Option Addr} {xs : List Value} (hB : B ≤ w.heap.size) (hb : Below w.heap.size w W) (h : Sl W B A xs) : Sl w B A xs :=
  h.keep fun p hp => (hb.cell (Nat.lt_of_lt_of_le hp hB)).symm
set_option maxHeartbeats 1000000 in
theorem rtake_0 (A : Option Addr) (s : St) (c B : Nat) (p : Part) (w : World) (hs : Sl w B A (bv s.b)) (hB : B ≤ w.heap.size) (hl : s.b.length ≤ 281474976710656) (hc : s.b.length ≤ c) (he : s.e = 0) {N k : Nat} (hfb : first s.b = (N, k, 0)) (k0 : p.kind = 0) :
    Calls Try.prog 43 #[.agg #[.slice A s.b.length c, .int .i64 s.e], .agg #[.int .i64 p.kind, .int .u64 p.n, .int .i64 p.i, .bool p.f, .string p.t, .int .i64 p.low, .int .i64 p.high, .int .i64 p.most]] w
      (RTook B (takeP s p).2 (takeP s p).1 w) := by
  have d1 : (s.e == 0) = true := by simpa using he
  have d2 : (s.e != 0) = false := by simpa using he
  have hU := (first_ok (b := s.b) (by rw [hfb])).1
  have hfl := (first_ok (b := s.b) (by rw [hfb])).2.2.1
  rw [hfb] at hU hfl
  obtain ⟨R, hR⟩ : ∃ R, R = s.b.drop k := ⟨_, rfl⟩
  have hro : restOf s.b = R := by rw [hR]; unfold restOf; rw [hfb]; rfl
  have HRO := Lib.hid hro
  have HFB := Lib.hid hfb
  have hNU : (N : Int) ≤ 18446744073709551615 := by omega
  have hdl : R.length ≤ 281474976710656 := by rw [hR, List.length_drop]; omega
  clear hU
  have hT := takeP_0 (p := p) he hfb k0
  have n0 : (p.kind == 0) = true := by simpa using k0
  rw [← hR] at hT
  clear hR hro hfb k0 he
  by_cases hm : N ≤ p.n
  · rw [if_pos hm] at hT
    have HT := Lib.hid hT
    have dm : decide (p.n < N) = false := decide_eq_false (by omega)
    clear hT hm
    go_enter Try.func43, Try.ntmps43
    go_wp2_with (fail)
    obtain ⟨hb0, hb1, hb2, hb3, hb4⟩ := five w 40 75 _ _ _ _ _
    refine (rnumber_any A s.b c B _ hl hc (hs.below (hb0.mono hB))).mono ?_
    rintro e w1 ⟨A1, c1, rfl, hc1, hs1, j, rfl⟩
    rw [HRO.out] at hc1 hs1
    rw [HFB.out, HRO.out]
    obtain ⟨x0, x1, x2, x3, x4, x5, x6, x7, xf⟩ := cells8 (hb1.drewN j)
    obtain ⟨y0, y1, y2, y3, y4, y5, y6, y7, yf⟩ := cells8 (hb2.drewN j)
    obtain ⟨z0, z1, z2, z3, z4, z5, z6, z7, zf⟩ := cells8 (hb4.drewN j)
    obtain ⟨r0, r1, rf⟩ := cells2 (hb3.drewN j)
    go_wp2_with (fail)
    rw [HT.out]
    refine bodyPost_ret (v := .tuple #[.agg #[.int .i64 p.kind, .int .u64 N, .int .i64 0, .bool false, .string ⟨#[]⟩, .int .i64 0, .int .i64 0, .int .i64 0], .agg #[.slice A1 R.length c1, .int .i64 0]]) (by simp [results, go_sem, y0, y1, y2, y3, y4, y5, y6, y7, r0, r1]) rfl ?_
    refine ⟨A1, c1, rfl, hc1, back_sl hB hb0 hs1, ?_⟩
    exact Below.two (Below.eight (Below.one (below_drewN' hb0 j) (by omega) _) (by omega) _ _ _ _ _ _ _ _) (by omega) _ _
  · rw [if_neg hm] at hT
    have HT := Lib.hid hT
    have dm : decide (p.n < N) = true := decide_eq_true (by omega)
    clear hT hm
    go_enter Try.func43, Try.ntmps43
    go_wp2_with (fail)
    obtain ⟨hb0, hb1, hb2, hb3, hb4⟩ := five w 40 75 _ _ _ _ _
    refine (rnumber_any A s.b c B _ hl hc (hs.below (hb0.mono hB))).mono ?_
    rintro e w1 ⟨A1, c1, rfl, hc1, hs1, j, rfl⟩
    rw [HRO.out] at hc1 hs1
    rw [HFB.out, HRO.out]
    obtain ⟨x0, x1, x2, x3, x4, x5, x6, x7, xf⟩ := cells8 (hb1.drewN j)
    obtain ⟨y0, y1, y2, y3, y4, y5, y6, y7, yf⟩ := cells8 (hb2.drewN j)
    obtain ⟨z0, z1, z2, z3, z4, z5, z6, z7, zf⟩ := cells8 (hb4.drewN j)
    obtain ⟨r0, r1, rf⟩ := cells2 (hb3.drewN j)
    go_wp2_with (fail)
    rw [HT.out]
    refine bodyPost_ret (v := .tuple #[.agg #[.int .i64 p.kind, .int .u64 0, .int .i64 0, .bool false, .string ⟨#[]⟩, .int .i64 0, .int .i64 0, .int .i64 0], .agg #[.slice none 0 0, .int .i64 14]]) (by simp [results, go_sem, y0, y1, y2, y3, y4, y5, y6, y7, r0, r1]) rfl ?_
    refine ⟨none, 0, rfl, Nat.le_refl _, Sl.nil, ?_⟩
    exact Below.two (Below.eight (below_drewN' hb0 j) (by omega) _ _ _ _ _ _ _ _) (by omega) _ _
set_option maxHeartbeats 1000000 in
theorem rtake_1odd (A : Option Addr) (s : St) (c B : Nat) (p : Part) (w : World) (hs : Sl w B A (bv s.b)) (hB : B ≤ w.heap.size) (hl : s.b.length ≤ 281474976710656) (hc : s.b.length ≤ c) (he : s.e = 0) {N k : Nat} (hfb : first s.b = (N, k, 0)) (k1 : p.kind = 1) (hodd : N % 2 = 1) :
    Calls Try.prog 43 #[.agg #[.slice A s.b.length c, .int .i64 s.e], .agg #[.int .i64 p.kind, .int .u64 p.n, .int .i64 p.i, .bool p.f, .string p.t, .int .i64 p.low, .int .i64 p.high, .int .i64 p.most]] w
      (RTook B (takeP s p).2 (takeP s p).1 w) := by
  have d1 : (s.e == 0) = true := by simpa using he
  have d2 : (s.e != 0) = false := by simpa using he
  have hU := (first_ok (b := s.b) (by rw [hfb])).1
  have hfl := (first_ok (b := s.b) (by rw [hfb])).2.2.1
  rw [hfb] at hU hfl
  obtain ⟨R, hR⟩ : ∃ R, R = s.b.drop k := ⟨_, rfl⟩
  have hro : restOf s.b = R := by rw [hR]; unfold restOf; rw [hfb]; rfl
  have HRO := Lib.hid hro
  have HFB := Lib.hid hfb
  have hNU : (N : Int) ≤ 18446744073709551615 := by omega
  have hdl : R.length ≤ 281474976710656 := by rw [hR, List.length_drop]; omega
  clear hU
  have hT := takeP_1 (p := p) he hfb k1
  have n0 : (p.kind == 0) = false := by simp; omega
  have n1 : (p.kind == 1) = true := by simpa using k1
  have o1 : ((N : Int) % 2 == 1) = true := by simp; omega
  have hx : decI N = -((N : Int) / 2) - 1 := by unfold decI; rw [if_pos hodd]; omega
  rw [hx, ← hR] at hT
  clear hR hro hfb k1 he hx hodd
  by_cases hlow : p.low ≤ -((N : Int) / 2) - 1
  · have e1 : decide (-((N : Int) / 2) - 1 < p.low) = false := decide_eq_false (by omega)
    by_cases hhigh : -((N : Int) / 2) - 1 ≤ p.high
    · have e2 : decide (p.high < -((N : Int) / 2) - 1) = false := decide_eq_false (by omega)
      rw [if_pos ⟨hlow, hhigh⟩] at hT
      have HT := Lib.hid hT
      clear hT hlow hhigh
      go_enter Try.func43, Try.ntmps43
      go_wp2_with (fail)
      obtain ⟨hb0, hb1, hb2, hb3, hb4⟩ := five w 40 75 _ _ _ _ _
      refine (rnumber_any A s.b c B _ hl hc (hs.below (hb0.mono hB))).mono ?_
      rintro e w1 ⟨A1, c1, rfl, hc1, hs1, j, rfl⟩
      rw [HRO.out] at hc1 hs1
      rw [HFB.out, HRO.out]
      obtain ⟨x0, x1, x2, x3, x4, x5, x6, x7, xf⟩ := cells8 (hb1.drewN j)
      obtain ⟨y0, y1, y2, y3, y4, y5, y6, y7, yf⟩ := cells8 (hb2.drewN j)
      obtain ⟨z0, z1, z2, z3, z4, z5, z6, z7, zf⟩ := cells8 (hb4.drewN j)
      obtain ⟨r0, r1, rf⟩ := cells2 (hb3.drewN j)
      go_wp2_with (fail)
      rw [HT.out]
      refine bodyPost_ret (v := .tuple #[.agg #[.int .i64 p.kind, .int .u64 0, .int .i64 (-((N : Int) / 2) - 1), .bool false, .string ⟨#[]⟩, .int .i64 0, .int .i64 0, .int .i64 0], .agg #[.slice A1 R.length c1, .int .i64 0]]) (by simp [results, go_sem, y0, y1, y2, y3, y4, y5, y6, y7, r0, r1]) rfl ?_
      refine ⟨A1, c1, rfl, hc1, back_sl hB hb0 hs1, ?_⟩
      exact Below.two (Below.eight (Below.one (below_drewN' hb0 j) (by omega) _) (by omega) _ _ _ _ _ _ _ _) (by omega) _ _
    · have e2 : decide (p.high < -((N : Int) / 2) - 1) = true := decide_eq_true (by omega)
      rw [if_neg (by omega)] at hT
      have HT := Lib.hid hT
      clear hT hlow hhigh
      go_enter Try.func43, Try.ntmps43
      go_wp2_with (fail)
      obtain ⟨hb0, hb1, hb2, hb3, hb4⟩ := five w 40 75 _ _ _ _ _
      refine (rnumber_any A s.b c B _ hl hc (hs.below (hb0.mono hB))).mono ?_
      rintro e w1 ⟨A1, c1, rfl, hc1, hs1, j, rfl⟩
      rw [HRO.out] at hc1 hs1
      rw [HFB.out, HRO.out]
      obtain ⟨x0, x1, x2, x3, x4, x5, x6, x7, xf⟩ := cells8 (hb1.drewN j)
      obtain ⟨y0, y1, y2, y3, y4, y5, y6, y7, yf⟩ := cells8 (hb2.drewN j)
      obtain ⟨z0, z1, z2, z3, z4, z5, z6, z7, zf⟩ := cells8 (hb4.drewN j)
      obtain ⟨r0, r1, rf⟩ := cells2 (hb3.drewN j)
      go_wp2_with (fail)
      rw [HT.out]
      refine bodyPost_ret (v := .tuple #[.agg #[.int .i64 p.kind, .int .u64 0, .int .i64 0, .bool false, .string ⟨#[]⟩, .int .i64 0, .int .i64 0, .int .i64 0], .agg #[.slice none 0 0, .int .i64 14]]) (by simp [results, go_sem, y0, y1, y2, y3, y4, y5, y6, y7, r0, r1]) rfl ?_
      refine ⟨none, 0, rfl, Nat.le_refl _, Sl.nil, ?_⟩
      exact Below.two (Below.eight (below_drewN' hb0 j) (by omega) _ _ _ _ _ _ _ _) (by omega) _ _
  · have e1 : decide (-((N : Int) / 2) - 1 < p.low) = true := decide_eq_true (by omega)
    rw [if_neg (by omega)] at hT
    have HT := Lib.hid hT
    clear hT hlow
    go_enter Try.func43, Try.ntmps43
    go_wp2_with (fail)
    obtain ⟨hb0, hb1, hb2, hb3, hb4⟩ := five w 40 75 _ _ _ _ _
    refine (rnumber_any A s.b c B _ hl hc (hs.below (hb0.mono hB))).mono ?_
    rintro e w1 ⟨A1, c1, rfl, hc1, hs1, j, rfl⟩
    rw [HRO.out] at hc1 hs1
    rw [HFB.out, HRO.out]
    obtain ⟨x0, x1, x2, x3, x4, x5, x6, x7, xf⟩ := cells8 (hb1.drewN j)
    obtain ⟨y0, y1, y2, y3, y4, y5, y6, y7, yf⟩ := cells8 (hb2.drewN j)
    obtain ⟨z0, z1, z2, z3, z4, z5, z6, z7, zf⟩ := cells8 (hb4.drewN j)
    obtain ⟨r0, r1, rf⟩ := cells2 (hb3.drewN j)
    go_wp2_with (fail)
    rw [HT.out]
    refine bodyPost_ret (v := .tuple #[.agg #[.int .i64 p.kind, .int .u64 0, .int .i64 0, .bool false, .string ⟨#[]⟩, .int .i64 0, .int .i64 0, .int .i64 0], .agg #[.slice none 0 0, .int .i64 14]]) (by simp [results, go_sem, y0, y1, y2, y3, y4, y5, y6, y7, r0, r1]) rfl ?_
    refine ⟨none, 0, rfl, Nat.le_refl _, Sl.nil, ?_⟩
    exact Below.two (Below.eight (below_drewN' hb0 j) (by omega) _ _ _ _ _ _ _ _) (by omega) _ _
set_option maxHeartbeats 1000000 in
theorem rtake_1even (A : Option Addr) (s : St) (c B : Nat) (p : Part) (w : World) (hs : Sl w B A (bv s.b)) (hB : B ≤ w.heap.size) (hl : s.b.length ≤ 281474976710656) (hc : s.b.length ≤ c) (he : s.e = 0) {N k : Nat} (hfb : first s.b = (N, k, 0)) (k1 : p.kind = 1) (hodd : ¬ N % 2 = 1) :
    Calls Try.prog 43 #[.agg #[.slice A s.b.length c, .int .i64 s.e], .agg #[.int .i64 p.kind, .int .u64 p.n, .int .i64 p.i, .bool p.f, .string p.t, .int .i64 p.low, .int .i64 p.high, .int .i64 p.most]] w
      (RTook B (takeP s p).2 (takeP s p).1 w) := by
  have d1 : (s.e == 0) = true := by simpa using he
  have d2 : (s.e != 0) = false := by simpa using he
  have hU := (first_ok (b := s.b) (by rw [hfb])).1
  have hfl := (first_ok (b := s.b) (by rw [hfb])).2.2.1
  rw [hfb] at hU hfl
  obtain ⟨R, hR⟩ : ∃ R, R = s.b.drop k := ⟨_, rfl⟩
  have hro : restOf s.b = R := by rw [hR]; unfold restOf; rw [hfb]; rfl
  have HRO := Lib.hid hro
  have HFB := Lib.hid hfb
  have hNU : (N : Int) ≤ 18446744073709551615 := by omega
  have hdl : R.length ≤ 281474976710656 := by rw [hR, List.length_drop]; omega
  clear hU
  have hT := takeP_1 (p := p) he hfb k1
  have n0 : (p.kind == 0) = false := by simp; omega
  have n1 : (p.kind == 1) = true := by simpa using k1
  have o1 : ((N : Int) % 2 == 1) = false := by simp; omega
  have hx : decI N = (N : Int) / 2 := by unfold decI; rw [if_neg hodd]; omega
  rw [hx, ← hR] at hT
  clear hR hro hfb k1 he hx hodd
  by_cases hlow : p.low ≤ (N : Int) / 2
  · have e1 : decide ((N : Int) / 2 < p.low) = false := decide_eq_false (by omega)
    by_cases hhigh : (N : Int) / 2 ≤ p.high
    · have e2 : decide (p.high < (N : Int) / 2) = false := decide_eq_false (by omega)
      rw [if_pos ⟨hlow, hhigh⟩] at hT
      have HT := Lib.hid hT
      clear hT hlow hhigh
      go_enter Try.func43, Try.ntmps43
      go_wp2_with (fail)
      obtain ⟨hb0, hb1, hb2, hb3, hb4⟩ := five w 40 75 _ _ _ _ _
      refine (rnumber_any A s.b c B _ hl hc (hs.below (hb0.mono hB))).mono ?_
      rintro e w1 ⟨A1, c1, rfl, hc1, hs1, j, rfl⟩
      rw [HRO.out] at hc1 hs1
      rw [HFB.out, HRO.out]
      obtain ⟨x0, x1, x2, x3, x4, x5, x6, x7, xf⟩ := cells8 (hb1.drewN j)
      obtain ⟨y0, y1, y2, y3, y4, y5, y6, y7, yf⟩ := cells8 (hb2.drewN j)
      obtain ⟨z0, z1, z2, z3, z4, z5, z6, z7, zf⟩ := cells8 (hb4.drewN j)
      obtain ⟨r0, r1, rf⟩ := cells2 (hb3.drewN j)
      go_wp2_with (fail)
      rw [HT.out]
      refine bodyPost_ret (v := .tuple #[.agg #[.int .i64 p.kind, .int .u64 0, .int .i64 ((N : Int) / 2), .bool false, .string ⟨#[]⟩, .int .i64 0, .int .i64 0, .int .i64 0], .agg #[.slice A1 R.length c1, .int .i64 0]]) (by simp [results, go_sem, y0, y1, y2, y3, y4, y5, y6, y7, r0, r1]) rfl ?_
      refine ⟨A1, c1, rfl, hc1, back_sl hB hb0 hs1, ?_⟩
      exact Below.two (Below.eight (Below.one (below_drewN' hb0 j) (by omega) _) (by omega) _ _ _ _ _ _ _ _) (by omega) _ _
    · have e2 : decide (p.high < (N : Int) / 2) = true := decide_eq_true (by omega)
      rw [if_neg (by omega)] at hT
      have HT := Lib.hid hT
      clear hT hlow hhigh
      go_enter Try.func43, Try.ntmps43
      go_wp2_with (fail)
      obtain ⟨hb0, hb1, hb2, hb3, hb4⟩ := five w 40 75 _ _ _ _ _
      refine (rnumber_any A s.b c B _ hl hc (hs.below (hb0.mono hB))).mono ?_
      rintro e w1 ⟨A1, c1, rfl, hc1, hs1, j, rfl⟩
      rw [HRO.out] at hc1 hs1
      rw [HFB.out, HRO.out]
      obtain ⟨x0, x1, x2, x3, x4, x5, x6, x7, xf⟩ := cells8 (hb1.drewN j)
      obtain ⟨y0, y1, y2, y3, y4, y5, y6, y7, yf⟩ := cells8 (hb2.drewN j)
      obtain ⟨z0, z1, z2, z3, z4, z5, z6, z7, zf⟩ := cells8 (hb4.drewN j)
      obtain ⟨r0, r1, rf⟩ := cells2 (hb3.drewN j)
      go_wp2_with (fail)
      rw [HT.out]
      refine bodyPost_ret (v := .tuple #[.agg #[.int .i64 p.kind, .int .u64 0, .int .i64 0, .bool false, .string ⟨#[]⟩, .int .i64 0, .int .i64 0, .int .i64 0], .agg #[.slice none 0 0, .int .i64 14]]) (by simp [results, go_sem, y0, y1, y2, y3, y4, y5, y6, y7, r0, r1]) rfl ?_
      refine ⟨none, 0, rfl, Nat.le_refl _, Sl.nil, ?_⟩
      exact Below.two (Below.eight (below_drewN' hb0 j) (by omega) _ _ _ _ _ _ _ _) (by omega) _ _
  · have e1 : decide ((N : Int) / 2 < p.low) = true := decide_eq_true (by omega)
    rw [if_neg (by omega)] at hT
    have HT := Lib.hid hT
    clear hT hlow
    go_enter Try.func43, Try.ntmps43
    go_wp2_with (fail)
    obtain ⟨hb0, hb1, hb2, hb3, hb4⟩ := five w 40 75 _ _ _ _ _
    refine (rnumber_any A s.b c B _ hl hc (hs.below (hb0.mono hB))).mono ?_
    rintro e w1 ⟨A1, c1, rfl, hc1, hs1, j, rfl⟩
    rw [HRO.out] at hc1 hs1
    rw [HFB.out, HRO.out]
    obtain ⟨x0, x1, x2, x3, x4, x5, x6, x7, xf⟩ := cells8 (hb1.drewN j)
    obtain ⟨y0, y1, y2, y3, y4, y5, y6, y7, yf⟩ := cells8 (hb2.drewN j)
    obtain ⟨z0, z1, z2, z3, z4, z5, z6, z7, zf⟩ := cells8 (hb4.drewN j)
    obtain ⟨r0, r1, rf⟩ := cells2 (hb3.drewN j)
    go_wp2_with (fail)
    rw [HT.out]
    refine bodyPost_ret (v := .tuple #[.agg #[.int .i64 p.kind, .int .u64 0, .int .i64 0, .bool false, .string ⟨#[]⟩, .int .i64 0, .int .i64 0, .int .i64 0], .agg #[.slice none 0 0, .int .i64 14]]) (by simp [results, go_sem, y0, y1, y2, y3, y4, y5, y6, y7, r0, r1]) rfl ?_
    refine ⟨none, 0, rfl, Nat.le_refl _, Sl.nil, ?_⟩
    exact Below.two (Below.eight (below_drewN' hb0 j) (by omega) _ _ _ _ _ _ _ _) (by omega) _ _
set_option maxHeartbeats 1000000 in
theorem rtake_2 (A : Option Addr) (s : St) (c B : Nat) (p : Part) (w : World) (hs : Sl w B A (bv s.b)) (hB : B ≤ w.heap.size) (hl : s.b.length ≤ 281474976710656) (hc : s.b.length ≤ c) (he : s.e = 0) {N k : Nat} (hfb : first s.b = (N, k, 0)) (k2 : p.kind = 2) :
    Calls Try.prog 43 #[.agg #[.slice A s.b.length c, .int .i64 s.e], .agg #[.int .i64 p.kind, .int .u64 p.n, .int .i64 p.i, .bool p.f, .string p.t, .int .i64 p.low, .int .i64 p.high, .int .i64 p.most]] w
      (RTook B (takeP s p).2 (takeP s p).1 w) := by
  have d1 : (s.e == 0) = true := by simpa using he
  have d2 : (s.e != 0) = false := by simpa using he
  have hU := (first_ok (b := s.b) (by rw [hfb])).1
  have hfl := (first_ok (b := s.b) (by rw [hfb])).2.2.1
  rw [hfb] at hU hfl
  obtain ⟨R, hR⟩ : ∃ R, R = s.b.drop k := ⟨_, rfl⟩
  have hro : restOf s.b = R := by rw [hR]; unfold restOf; rw [hfb]; rfl
  have HRO := Lib.hid hro
  have HFB := Lib.hid hfb
  have hNU : (N : Int) ≤ 18446744073709551615 := by omega
  have hdl : R.length ≤ 281474976710656 := by rw [hR, List.length_drop]; omega
  clear hU
  have hT := takeP_2 (p := p) he hfb k2
  have n0 : (p.kind == 0) = false := by simp; omega
  have n1 : (p.kind == 1) = false := by simp; omega
  have n2 : (p.kind == 2) = true := by simpa using k2
  rw [← hR] at hT
  clear hR hro hfb k2 he
  by_cases hm : N ≤ 1
  · rw [if_pos hm] at hT
    have HT := Lib.hid hT
    have dm : decide ((1 : Int) < (N : Int)) = false := decide_eq_false (by omega)
    have dm' : decide (1 < N) = false := decide_eq_false (by omega)
    obtain ⟨f, hf⟩ : ∃ f, f = decide (N = 1) := ⟨_, rfl⟩
    rw [← hf] at HT
    have o1 : ((N : Int) == 1) = f := by rw [hf, Bool.eq_iff_iff]; simp; omega
    clear hT hm hf
    go_enter Try.func43, Try.ntmps43
    go_wp2_with (fail)
    obtain ⟨hb0, hb1, hb2, hb3, hb4⟩ := five w 40 75 _ _ _ _ _
    refine (rnumber_any A s.b c B _ hl hc (hs.below (hb0.mono hB))).mono ?_
    rintro e w1 ⟨A1, c1, rfl, hc1, hs1, j, rfl⟩
    rw [HRO.out] at hc1 hs1
    rw [HFB.out, HRO.out]
    obtain ⟨x0, x1, x2, x3, x4, x5, x6, x7, xf⟩ := cells8 (hb1.drewN j)
    obtain ⟨y0, y1, y2, y3, y4, y5, y6, y7, yf⟩ := cells8 (hb2.drewN j)
    obtain ⟨z0, z1, z2, z3, z4, z5, z6, z7, zf⟩ := cells8 (hb4.drewN j)
    obtain ⟨r0, r1, rf⟩ := cells2 (hb3.drewN j)
    go_wp2_with (fail)
    rw [HT.out]
    refine bodyPost_ret (v := .tuple #[.agg #[.int .i64 p.kind, .int .u64 0, .int .i64 0, .bool f, .string ⟨#[]⟩, .int .i64 0, .int .i64 0, .int .i64 0], .agg #[.slice A1 R.length c1, .int .i64 0]]) (by simp [results, go_sem, y0, y1, y2, y3, y4, y5, y6, y7, r0, r1]) rfl ?_
    refine ⟨A1, c1, rfl, hc1, back_sl hB hb0 hs1, ?_⟩
    exact Below.two (Below.eight (Below.one (below_drewN' hb0 j) (by omega) _) (by omega) _ _ _ _ _ _ _ _) (by omega) _ _
  · rw [if_neg hm] at hT
    have HT := Lib.hid hT
    have dm : decide ((1 : Int) < (N : Int)) = true := decide_eq_true (by omega)
    have dm' : decide (1 < N) = true := decide_eq_true (by omega)
    clear hT hm
    go_enter Try.func43, Try.ntmps43
    go_wp2_with (fail)
    obtain ⟨hb0, hb1, hb2, hb3, hb4⟩ := five w 40 75 _ _ _ _ _
    refine (rnumber_any A s.b c B _ hl hc (hs.below (hb0.mono hB))).mono ?_
    rintro e w1 ⟨A1, c1, rfl, hc1, hs1, j, rfl⟩
    rw [HRO.out] at hc1 hs1
    rw [HFB.out, HRO.out]
    obtain ⟨x0, x1, x2, x3, x4, x5, x6, x7, xf⟩ := cells8 (hb1.drewN j)
    obtain ⟨y0, y1, y2, y3, y4, y5, y6, y7, yf⟩ := cells8 (hb2.drewN j)
    obtain ⟨z0, z1, z2, z3, z4, z5, z6, z7, zf⟩ := cells8 (hb4.drewN j)
    obtain ⟨r0, r1, rf⟩ := cells2 (hb3.drewN j)
    go_wp2_with (fail)
    rw [HT.out]
    refine bodyPost_ret (v := .tuple #[.agg #[.int .i64 p.kind, .int .u64 0, .int .i64 0, .bool false, .string ⟨#[]⟩, .int .i64 0, .int .i64 0, .int .i64 0], .agg #[.slice none 0 0, .int .i64 14]]) (by simp [results, go_sem, y0, y1, y2, y3, y4, y5, y6, y7, r0, r1]) rfl ?_
    refine ⟨none, 0, rfl, Nat.le_refl _, Sl.nil, ?_⟩
    exact Below.two (Below.eight (below_drewN' hb0 j) (by omega) _ _ _ _ _ _ _ _) (by omega) _ _
set_option maxHeartbeats 1000000 in
theorem rtake_3 (A : Option Addr) (s : St) (c B : Nat) (p : Part) (w : World) (hs : Sl w B A (bv s.b)) (hB : B ≤ w.heap.size) (hl : s.b.length ≤ 281474976710656) (hc : s.b.length ≤ c) (he : s.e = 0) {N k : Nat} (hfb : first s.b = (N, k, 0)) (k0 : p.kind ≠ 0) (k1 : p.kind ≠ 1) (k2 : p.kind ≠ 2) (hmb : -9223372036854775808 ≤ p.most ∧ p.most ≤ 9223372036854775807) :
    Calls Try.prog 43 #[.agg #[.slice A s.b.length c, .int .i64 s.e], .agg #[.int .i64 p.kind, .int .u64 p.n, .int .i64 p.i, .bool p.f, .string p.t, .int .i64 p.low, .int .i64 p.high, .int .i64 p.most]] w
      (RTook B (takeP s p).2 (takeP s p).1 w) := by
  have d1 : (s.e == 0) = true := by simpa using he
  have d2 : (s.e != 0) = false := by simpa using he
  have hU := (first_ok (b := s.b) (by rw [hfb])).1
  have hfl := (first_ok (b := s.b) (by rw [hfb])).2.2.1
  rw [hfb] at hU hfl
  obtain ⟨R, hR⟩ : ∃ R, R = s.b.drop k := ⟨_, rfl⟩
  have hro : restOf s.b = R := by rw [hR]; unfold restOf; rw [hfb]; rfl
  have HRO := Lib.hid hro
  have HFB := Lib.hid hfb
  have hNU : (N : Int) ≤ 18446744073709551615 := by omega
  have hdl : R.length ≤ 281474976710656 := by rw [hR, List.length_drop]; omega
  clear hU
  have hT := takeP_3 (p := p) he hfb k0 k1 k2
  have n0 : (p.kind == 0) = false := by simpa using k0
  have n1 : (p.kind == 1) = false := by simpa using k1
  have n2 : (p.kind == 2) = false := by simpa using k2
  rw [← hR] at hT
  clear hR hro hfb k0 k1 k2 he
  obtain ⟨hmb1, hmb2⟩ := hmb
  by_cases hm0 : 0 ≤ p.most
  · have e1 : decide (p.most < 0) = false := decide_eq_false (by omega)
    by_cases hm : (N : Int) ≤ p.most
    · have e2 : decide (p.most < (N : Int)) = false := decide_eq_false (by omega)
      rw [if_pos ⟨hm0, hm⟩] at hT
      by_cases hlt : R.length < N
      · have e3 : decide (R.length < N) = true := decide_eq_true hlt
        rw [if_pos hlt] at hT
        have HT := Lib.hid hT
        clear hT hlt hm
        go_enter Try.func43, Try.ntmps43
        go_wp2_with (fail)
        obtain ⟨hb0, hb1, hb2, hb3, hb4⟩ := five w 40 75 _ _ _ _ _
        refine (rnumber_any A s.b c B _ hl hc (hs.below (hb0.mono hB))).mono ?_
        rintro e w1 ⟨A1, c1, rfl, hc1, hs1, j, rfl⟩
        rw [HRO.out] at hc1 hs1
        rw [HFB.out, HRO.out]
        obtain ⟨x0, x1, x2, x3, x4, x5, x6, x7, xf⟩ := cells8 (hb1.drewN j)
        obtain ⟨y0, y1, y2, y3, y4, y5, y6, y7, yf⟩ := cells8 (hb2.drewN j)
        obtain ⟨z0, z1, z2, z3, z4, z5, z6, z7, zf⟩ := cells8 (hb4.drewN j)
        obtain ⟨r0, r1, rf⟩ := cells2 (hb3.drewN j)
        go_wp2_with (fail)
        rw [HT.out]
        refine bodyPost_ret (v := .tuple #[.agg #[.int .i64 p.kind, .int .u64 0, .int .i64 0, .bool false, .string ⟨#[]⟩, .int .i64 0, .int .i64 0, .int .i64 0], .agg #[.slice none 0 0, .int .i64 13]]) (by simp [results, go_sem, y0, y1, y2, y3, y4, y5, y6, y7, r0, r1]) rfl ?_
        refine ⟨none, 0, rfl, Nat.le_refl _, Sl.nil, ?_⟩
        exact Below.two (Below.eight (below_drewN' hb0 j) (by omega) _ _ _ _ _ _ _ _) (by omega) _ _
      · have e3 : decide (R.length < N) = false := decide_eq_false hlt
        rw [if_neg hlt] at hT
        have HT := Lib.hid hT
        have hRl : (R.take N).length = N := by rw [List.length_take]; omega
        have HRL := Lib.hid hRl
        have hDl : (R.drop N).length = R.length - N := List.length_drop
        have HDL := Lib.hid hDl
        clear hT hm hRl hDl
        go_enter Try.func43, Try.ntmps43
        go_wp2_with (fail)
        obtain ⟨hb0, hb1, hb2, hb3, hb4⟩ := five w 40 75 _ _ _ _ _
        refine (rnumber_any A s.b c B _ hl hc (hs.below (hb0.mono hB))).mono ?_
        rintro e w1 ⟨A1, c1, rfl, hc1, hs1, j, rfl⟩
        rw [HRO.out] at hc1 hs1
        rw [HFB.out, HRO.out]
        obtain ⟨x0, x1, x2, x3, x4, x5, x6, x7, xf⟩ := cells8 (hb1.drewN j)
        obtain ⟨y0, y1, y2, y3, y4, y5, y6, y7, yf⟩ := cells8 (hb2.drewN j)
        obtain ⟨z0, z1, z2, z3, z4, z5, z6, z7, zf⟩ := cells8 (hb4.drewN j)
        obtain ⟨r0, r1, rf⟩ := cells2 (hb3.drewN j)
        have hcv := fun c' => conv_sl (w := (((((w.alloc (.cells #[.slice A s.b.length c, .int .i64 s.e] 40)).alloc _).alloc _).alloc _).alloc _).drewN j) (A := A1) (l := R.take N) (by rw [bv_take]; exact hs1.take N) N c' HRL.out.symm
        go_wp2_with (fail)
        · rw [HT.out]
          refine bodyPost_ret (v := .tuple #[.agg #[.int .i64 p.kind, .int .u64 0, .int .i64 0, .bool false, .string ⟨(R.take N).toArray⟩, .int .i64 0, .int .i64 0, .int .i64 0], .agg #[.slice A1 (R.length - N) 0, .int .i64 0]]) (by simp [results, go_sem, y0, y1, y2, y3, y4, y5, y6, y7, r0, r1]) rfl ?_
          have hcr : c1 = N := by assumption
          have hz : R.drop N = [] := List.drop_eq_nil_of_le (by omega)
          rw [hz]
          refine ⟨A1, 0, ?_, Nat.le_refl _, Sl.nil, ?_⟩
          · rw [show R.length - N = 0 from by omega]; rfl
          exact Below.two (Below.eight (Below.one (below_drewN' hb0 j) (by omega) _) (by omega) _ _ _ _ _ _ _ _) (by omega) _ _
        · rw [HT.out]
          refine bodyPost_ret (v := .tuple #[.agg #[.int .i64 p.kind, .int .u64 0, .int .i64 0, .bool false, .string ⟨(R.take N).toArray⟩, .int .i64 0, .int .i64 0, .int .i64 0], .agg #[.slice (Option.map (fun x => x.add N) A1) (R.length - N) (c1 - N), .int .i64 0]]) (by simp [results, go_sem, y0, y1, y2, y3, y4, y5, y6, y7, r0, r1]) rfl ?_
          refine ⟨Option.map (fun x => x.add N) A1, c1 - N, by rw [← HDL.out]; rfl, by rw [HDL.out]; omega, by rw [bv_drop]; exact (back_sl hB hb0 hs1).drop N, ?_⟩
          exact Below.two (Below.eight (Below.one (below_drewN' hb0 j) (by omega) _) (by omega) _ _ _ _ _ _ _ _) (by omega) _ _
    · have e2 : decide (p.most < (N : Int)) = true := decide_eq_true (by omega)
      rw [if_neg (by omega)] at hT
      have HT := Lib.hid hT
      clear hT hm
      go_enter Try.func43, Try.ntmps43
      go_wp2_with (fail)
      obtain ⟨hb0, hb1, hb2, hb3, hb4⟩ := five w 40 75 _ _ _ _ _
      refine (rnumber_any A s.b c B _ hl hc (hs.below (hb0.mono hB))).mono ?_
      rintro e w1 ⟨A1, c1, rfl, hc1, hs1, j, rfl⟩
      rw [HRO.out] at hc1 hs1
      rw [HFB.out, HRO.out]
      obtain ⟨x0, x1, x2, x3, x4, x5, x6, x7, xf⟩ := cells8 (hb1.drewN j)
      obtain ⟨y0, y1, y2, y3, y4, y5, y6, y7, yf⟩ := cells8 (hb2.drewN j)
      obtain ⟨z0, z1, z2, z3, z4, z5, z6, z7, zf⟩ := cells8 (hb4.drewN j)
      obtain ⟨r0, r1, rf⟩ := cells2 (hb3.drewN j)
      go_wp2_with (fail)
      rw [HT.out]
      refine bodyPost_ret (v := .tuple #[.agg #[.int .i64 p.kind, .int .u64 0, .int .i64 0, .bool false, .string ⟨#[]⟩, .int .i64 0, .int .i64 0, .int .i64 0], .agg #[.slice none 0 0, .int .i64 14]]) (by simp [results, go_sem, y0, y1, y2, y3, y4, y5, y6, y7, r0, r1]) rfl ?_
      refine ⟨none, 0, rfl, Nat.le_refl _, Sl.nil, ?_⟩
      exact Below.two (Below.eight (below_drewN' hb0 j) (by omega) _ _ _ _ _ _ _ _) (by omega) _ _
  · have e1 : decide (p.most < 0) = true := decide_eq_true (by omega)
    rw [if_neg (by omega)] at hT
    have HT := Lib.hid hT
    clear hT
    go_enter Try.func43, Try.ntmps43
    go_wp2_with (fail)
    obtain ⟨hb0, hb1, hb2, hb3, hb4⟩ := five w 40 75 _ _ _ _ _
    refine (rnumber_any A s.b c B _ hl hc (hs.below (hb0.mono hB))).mono ?_
    rintro e w1 ⟨A1, c1, rfl, hc1, hs1, j, rfl⟩
    rw [HRO.out] at hc1 hs1
    rw [HFB.out, HRO.out]
    obtain ⟨x0, x1, x2, x3, x4, x5, x6, x7, xf⟩ := cells8 (hb1.drewN j)
    obtain ⟨y0, y1, y2, y3, y4, y5, y6, y7, yf⟩ := cells8 (hb2.drewN j)
    obtain ⟨z0, z1, z2, z3, z4, z5, z6, z7, zf⟩ := cells8 (hb4.drewN j)
    obtain ⟨r0, r1, rf⟩ := cells2 (hb3.drewN j)
    go_wp2_with (fail)
    rw [HT.out]
    refine bodyPost_ret (v := .tuple #[.agg #[.int .i64 p.kind, .int .u64 0, .int .i64 0, .bool false, .string ⟨#[]⟩, .int .i64 0, .int .i64 0, .int .i64 0], .agg #[.slice none 0 0, .int .i64 14]]) (by simp [results, go_sem, y0, y1, y2, y3, y4, y5, y6, y7, r0, r1]) rfl ?_
    refine ⟨none, 0, rfl, Nat.le_refl _, Sl.nil, ?_⟩
    exact Below.two (Below.eight (below_drewN' hb0 j) (by omega) _ _ _ _ _ _ _ _) (by omega) _ _
set_option maxHeartbeats 1000000 in
theorem rtake_bad (A : Option Addr) (s : St) (c B : Nat) (p : Part) (w : World) (hs : Sl w B A (bv s.b)) (hB : B ≤ w.heap.size) (hl : s.b.length ≤ 281474976710656) (hc : s.b.length ≤ c) (he : s.e = 0) {N k : Nat} {E : Int} (hfb : first s.b = (N, k, E)) (hE : E ≠ 0) :
    Calls Try.prog 43 #[.agg #[.slice A s.b.length c, .int .i64 s.e], .agg #[.int .i64 p.kind, .int .u64 p.n, .int .i64 p.i, .bool p.f, .string p.t, .int .i64 p.low, .int .i64 p.high, .int .i64 p.most]] w
      (RTook B (takeP s p).2 (takeP s p).1 w) := by
  have d1 : (s.e == 0) = true := by simpa using he
  have d2 : (s.e != 0) = false := by simpa using he
  have d3 : (E == 0) = false := by simpa using hE
  have d4 : (E != 0) = true := by simpa using hE
  have HT := Lib.hid (takeP_bad he (by rw [hfb]) hE p)
  have hro : restOf s.b = [] := by unfold restOf; rw [hfb]; exact if_neg hE
  have HRO := Lib.hid hro
  have HFB := Lib.hid hfb
  clear he hE hro hfb
  go_enter Try.func43, Try.ntmps43
  go_wp2_with (fail)
  obtain ⟨hb0, hb1, hb2, hb3, hb4⟩ := five w 40 75 _ _ _ _ _
  refine (rnumber_any A s.b c B _ hl hc (hs.below (hb0.mono hB))).mono ?_
  rintro e w1 ⟨A1, c1, rfl, hc1, hs1, j, rfl⟩
  rw [HRO.out] at hc1 hs1
  rw [HFB.out, HRO.out]
  obtain ⟨x0, x1, x2, x3, x4, x5, x6, x7, xf⟩ := cells8 (hb1.drewN j)
  obtain ⟨y0, y1, y2, y3, y4, y5, y6, y7, yf⟩ := cells8 (hb2.drewN j)
  obtain ⟨z0, z1, z2, z3, z4, z5, z6, z7, zf⟩ := cells8 (hb4.drewN j)
  obtain ⟨r0, r1, rf⟩ := cells2 (hb3.drewN j)
  go_wp2_with (fail)
  rw [HT.out]
  refine bodyPost_ret (v := .tuple #[.agg #[.int .i64 p.kind, .int .u64 0, .int .i64 0, .bool false, .string ⟨#[]⟩, .int .i64 0, .int .i64 0, .int .i64 0], .agg #[.slice none 0 0, .int .i64 E]]) (by simp [results, go_sem, y0, y1, y2, y3, y4, y5, y6, y7, r0, r1]) rfl ?_
  refine ⟨none, 0, rfl, Nat.le_refl _, Sl.nil, ?_⟩
  exact Below.two (Below.eight (below_drewN' hb0 j) (by omega) _ _ _ _ _ _ _ _) (by omega) _ _
set_option maxHeartbeats 1000000 in
theorem rtake_broken (A : Option Addr) (s : St) (c B : Nat) (p : Part) (w : World) (hs : Sl w B A (bv s.b)) (hB : B ≤ w.heap.size) (hl : s.b.length ≤ 281474976710656) (hc : s.b.length ≤ c) (he : s.e ≠ 0) :
    Calls Try.prog 43 #[.agg #[.slice A s.b.length c, .int .i64 s.e], .agg #[.int .i64 p.kind, .int .u64 p.n, .int .i64 p.i, .bool p.f, .string p.t, .int .i64 p.low, .int .i64 p.high, .int .i64 p.most]] w
      (RTook B (takeP s p).2 (takeP s p).1 w) := by
  have d1 : (s.e == 0) = false := by simpa using he
  have d2 : (s.e != 0) = true := by simpa using he
  have HT := Lib.hid (takeP_broken he p)
  clear he
  go_enter Try.func43, Try.ntmps43
  go_wp2_with (fail)
  go_region
  all_goals
    try go_wp2
    rw [HT.out]
    refine bodyPost_ret (v := .tuple #[.agg #[.int .i64 p.kind, .int .u64 0, .int .i64 0, .bool false, .string ⟨#[]⟩, .int .i64 0, .int .i64 0, .int .i64 0], .agg #[.slice A s.b.length c, .int .i64 s.e]]) (by simp [results, go_sem]) rfl ?_
    obtain ⟨hb0, -⟩ := five w 40 75 _ _ _ _ _
    exact ⟨A, c, rfl, hc, hs, hb0.drew⟩
theorem rtake_any (A : Option Addr) (s : St) (c B : Nat) (p : Part) (w : World) (hs : Sl w B A (bv s.b)) (hB : B ≤ w.heap.size) (hl : s.b.length ≤ 281474976710656) (hc : s.b.length ≤ c) (hmb : -9223372036854775808 ≤ p.most ∧ p.most ≤ 9223372036854775807) :
    Calls Try.prog 43 #[.agg #[.slice A s.b.length c, .int .i64 s.e], .agg #[.int .i64 p.kind, .int .u64 p.n, .int .i64 p.i, .bool p.f, .string p.t, .int .i64 p.low, .int .i64 p.high, .int .i64 p.most]] w
      (RTook B (takeP s p).2 (takeP s p).1 w) := by
  by_cases he : s.e = 0
  · rcases hfb : first s.b with ⟨N, k, E⟩
    by_cases hE : E = 0
    · subst hE
      by_cases k0 : p.kind = 0
      · exact rtake_0 A s c B p w hs hB hl hc he hfb k0
      by_cases k1 : p.kind = 1
      · by_cases hodd : N % 2 = 1
        · exact rtake_1odd A s c B p w hs hB hl hc he hfb k1 hodd
        · exact rtake_1even A s c B p w hs hB hl hc he hfb k1 hodd
      by_cases k2 : p.kind = 2
      · exact rtake_2 A s c B p w hs hB hl hc he hfb k2
      exact rtake_3 A s c B p w hs hB hl hc he hfb k0 k1 k2 hmb
    · exact rtake_bad A s c B p w hs hB hl hc he hfb hE
  · exact rtake_broken A s c B p w hs hB hl hc he
end Go.Proofs.Ytlgjbdgolchadaa.code
