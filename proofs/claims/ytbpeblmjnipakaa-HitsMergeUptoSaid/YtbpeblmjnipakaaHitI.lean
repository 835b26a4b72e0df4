/-
  The contract of hits.interleave.
-/
import Derived.Test.YtbpeblmjnipakaaHitS
namespace Go.Proofs.Ytbpeblmjnipakaa.hit
open Go.RowKit law bytes only flat Go.Sort Go.Shelf
set_option linter.unusedVariables false

/-- how far two rows are gone through -/
structure Mg (w wr : World) (B : Nat) (a b ra rb out : List Hit) (Aa Ab Ao : Option Addr) (m ca cb co : Nat) : Prop where
  all : mrg a b = out ++ mrg ra rb
  len : out.length + ra.length + rb.length = a.length + b.length
  m_ : m = out.length
  capa : ra.length ≤ ca
  capb : rb.length ≤ cb
  ra_ : Sl wr B Aa (hv ra)
  rb_ : Sl wr B Ab (hv rb)
  own : wr.ownsRow w.heap.size 31 2 (.slice Ao m co) m (hv out)
  below : Below w.heap.size w wr
theorem Mg.on {w wr w2 : World} {B : Nat} {a b ra rb out : List Hit} {Aa Ab Ao : Option Addr} {m ca cb co : Nat} (h : Mg w wr B a b ra rb out Aa Ab Ao m ca cb co) (hB : B ≤ w.heap.size) (hb : Below wr.heap.size wr w2) : Mg w w2 B a b ra rb out Aa Ab Ao m ca cb co :=
  ⟨h.all, h.len, h.m_, h.capa, h.capb, h.ra_.below (hb.mono (Nat.le_trans hB h.below.size)), h.rb_.below (hb.mono (Nat.le_trans hB h.below.size)), own_below h.own hb (Nat.le_refl _), h.below.trans (hb.mono h.below.size)⟩
theorem hv_cons (x : Hit) (t : List Hit) : hv (x :: t) = [.int .u64 x.1, .int .i64 x.2] ++ hv t := by simp [hv, hc]
theorem Sl.tail {w : World} {B : Nat} {b o : Nat} {x : Hit} {t : List Hit} (h : Sl w B (some ⟨b, o, none⟩) (hv (x :: t))) : Sl w B (some ⟨b, o + 2, none⟩) (hv t) := by
  have h2 := h.drop 2
  rw [hv_cons] at h2
  have e : ([Value.int .u64 x.1, .int .i64 x.2] ++ hv t).drop 2 = hv t := rfl
  rw [e] at h2
  have e2 : (some (⟨b, o, none⟩ : Addr)).map (·.add 2) = some ⟨b, o + 2, none⟩ := by simp [Addr.add]
  rwa [e2] at h2
theorem Mg.takeB {w wr w4 : World} {B : Nat} {a b ra rb out : List Hit} {x y : Hit} {Aa Ab Ab2 Ao A4 : Option Addr} {m ca cb cb2 co c4 : Nat} (h : Mg w wr B a b (x :: ra) (y :: rb) out Aa Ab Ao m ca cb co) (hl : lt y x = true)
    (ho : w4.ownsRow w.heap.size 31 2 (.slice A4 (m + 1) c4) (m + 1) (hv out ++ [.int .u64 y.1, .int .i64 y.2])) (hb : Below w.heap.size w w4) (hB : B ≤ w.heap.size) (hc : rb.length ≤ cb2) (hs : Sl wr B Ab2 (hv rb)) :
    Mg w w4 B a b (x :: ra) rb (out ++ [y]) Aa Ab2 A4 (m + 1) ca cb2 c4 := by
  obtain ⟨h1, h2, h3, h4, h5, h6, h7, h8, h9⟩ := h
  simp only [List.length_cons] at h2 h4 h5
  have hk : ∀ p : Addr, p.block < B → w4.cell? p = wr.cell? p := fun p hp => (hb.cell (Nat.lt_of_lt_of_le hp hB)).trans (h9.cell (Nat.lt_of_lt_of_le hp hB)).symm
  refine ⟨?_, ?_, ?_, h4, hc, h6.keep hk, hs.keep hk, by rw [show out ++ [y] = out ++ [(y.1, y.2)] from rfl, hv_snoc]; exact ho, hb⟩
  · rw [h1, mrg, if_pos hl]; simp
  · simp only [List.length_append, List.length_cons, List.length_nil]; omega
  · simp only [List.length_append, List.length_cons, List.length_nil]; omega
theorem Mg.takeA {w wr w4 : World} {B : Nat} {a b ra rb out : List Hit} {x y : Hit} {Aa Aa2 Ab Ao A4 : Option Addr} {m ca ca2 cb co c4 : Nat} (h : Mg w wr B a b (x :: ra) (y :: rb) out Aa Ab Ao m ca cb co) (hl : lt y x = false)
    (ho : w4.ownsRow w.heap.size 31 2 (.slice A4 (m + 1) c4) (m + 1) (hv out ++ [.int .u64 x.1, .int .i64 x.2])) (hb : Below w.heap.size w w4) (hB : B ≤ w.heap.size) (hc : ra.length ≤ ca2) (hs : Sl wr B Aa2 (hv ra)) :
    Mg w w4 B a b ra (y :: rb) (out ++ [x]) Aa2 Ab A4 (m + 1) ca2 cb c4 := by
  obtain ⟨h1, h2, h3, h4, h5, h6, h7, h8, h9⟩ := h
  simp only [List.length_cons] at h2 h4 h5
  have hk : ∀ p : Addr, p.block < B → w4.cell? p = wr.cell? p := fun p hp => (hb.cell (Nat.lt_of_lt_of_le hp hB)).trans (h9.cell (Nat.lt_of_lt_of_le hp hB)).symm
  refine ⟨?_, ?_, ?_, hc, h5, hs.keep hk, h7.keep hk, by rw [show out ++ [x] = out ++ [(x.1, x.2)] from rfl, hv_snoc]; exact ho, hb⟩
  · rw [h1, mrg, if_neg (by rw [hl]; simp)]; simp
  · simp only [List.length_append, List.length_cons, List.length_nil]; omega
  · simp only [List.length_append, List.length_cons, List.length_nil]; omega
theorem Sl.first {w : World} {B : Nat} {A : Option Addr} {x : Hit} {t : List Hit} (h : Sl w B A (hv (x :: t))) : ∃ b o, A = some ⟨b, o, none⟩ ∧ b < B ∧ w.cell? ⟨b, o, none⟩ = some (.int .u64 x.1) ∧ w.cell? ⟨b, o + 1, none⟩ = some (.int .i64 x.2) := by
  obtain ⟨b, o, rfl, hb, hc⟩ := Sl.hit h (by simp)
  have := hc 0 (by simp)
  refine ⟨b, o, rfl, hb, ?_⟩
  simpa using this
theorem make_hits (n : Nat) (hn : n * 16 ≤ 140737488355328) (u : World) : ∃ Z : Array Value, Z.size = n * 2 ∧ (Instr.makeSlice 22 (.int .i64 0) (.int .i64 (n : Int))).run Try.prog u =
    .ok (.slice (some ⟨u.heap.size, 0, none⟩) 0 n) (u.alloc (.cells Z 31)) := by
  obtain ⟨i, z, hi, hz, hsz, hby, hzs⟩ := hitE
  have h := run_make (P := Try.prog) u 22 31 i z Try.underlying22 hi hz .i64 .i64 0 (n : Int) (by omega) (by omega) (by rw [hby]; omega) (by omega)
  simp only [Int.toNat_zero, Int.toNat_natCast] at h
  exact ⟨_, by rw [size_madeCells, hsz], h⟩
set_option maxRecDepth 100000 in
set_option maxHeartbeats 6400000 in
theorem interleave_any (A A' : Option Addr) (a b : List Hit) (c c' B : Nat) (w : World) (hm : (a.length + b.length) * 16 ≤ 140737488355328) (hca : a.length ≤ c) (hcb : b.length ≤ c') (hB : B ≤ w.heap.size) (ha : Sl w B A (hv a)) (hb : Sl w B A' (hv b)) :
    Calls Try.prog 15 #[.slice A a.length c, .slice A' b.length c'] w (Rows (mrg a b) w) := by
  obtain ⟨Z, hZ, hmk⟩ := make_hits (a.length + b.length) (by omega) w
  have hM0 : Mg w (w.alloc (.cells Z 31)) B a b a b [] A A' (some ⟨w.heap.size, 0, none⟩) 0 c c' (a.length + b.length) :=
    ⟨rfl, by simp, rfl, hca, hcb, ha.alloc hB _, hb.alloc hB _, World.ownsRow_made w Z _ (Nat.le_refl _) (by unfold maxLen; omega) hZ, (Below.refl _ w).alloc (Nat.le_refl _) _⟩
  obtain ⟨p, hp⟩ : ∃ p, a.length = p := ⟨_, rfl⟩
  obtain ⟨q, hq⟩ : ∃ q, b.length = q := ⟨_, rfl⟩
  have HL : Hid (∀ x y z : Nat, x + y + z = a.length + b.length → (x + y + z) * 16 ≤ 140737488355328) := Lib.hid fun x y z h => by rw [h]; exact hm
  have HM0 := Lib.hid hM0
  have HPQ : Hid (a.length = p ∧ b.length = q) := Lib.hid ⟨hp, hq⟩
  rw [hp, hq, Int.natCast_add] at hmk
  rw [hp, hq] at HM0 hm ⊢
  clear hM0 hp hq hca hcb ha hb hZ
  go_enter Try.func15, Try.ntmps15
  go_wp2_with (fail)
  go_loopg [0, 1, 5] (p + q) (fun gk s0 s1 s5 wr => ∃ (ra rb out : List Hit) (Aa Ab Ao : Option Addr) (pa pb m ca cb co : Nat), gk = pa + pb ∧ ra.length = pa ∧ rb.length = pb ∧ s0 = .slice Aa pa ca ∧ s1 = .slice Ab pb cb ∧ s5 = .slice Ao m co ∧ Mg w wr B a b ra rb out Aa Ab Ao m ca cb co)
  case atStart => exact ⟨a, b, [], A, A', some ⟨w.heap.size, 0, none⟩, p, q, 0, c, c', p + q, rfl, HPQ.out.1, HPQ.out.2, rfl, rfl, rfl, HM0.out⟩
  case round =>
    clear HM0 HPQ hmk
    obtain ⟨ra, rb, out, Aa, Ab, Ao, pa, pb, m, ca, cb, co, rfl, hpa, hpb, rfl, rfl, rfl, hg⟩ := hrel
    have hlen := hg.len
    have hmo := hg.m_
    rw [hpa, hpb, ← hmo] at hlen
    have hbd := HL.out _ _ _ hlen
    clear hlen hmo
    by_cases hend : 0 < pa ∧ 0 < pb
    · obtain ⟨z1, z2⟩ := hend
      obtain ⟨⟨x1, x2⟩, ta, rfl⟩ : ∃ x ta, ra = x :: ta := List.exists_cons_of_length_pos (by omega)
      obtain ⟨⟨y1, y2⟩, tb, rfl⟩ : ∃ y tb, rb = y :: tb := List.exists_cons_of_length_pos (by omega)
      obtain ⟨xa, xo, rfl, hxa, hx0, hx1⟩ := Sl.first hg.ra_
      obtain ⟨ya, yo, rfl, hya, hy0, hy1⟩ := Sl.first hg.rb_
      dsimp only at hx0 hx1 hy0 hy1
      have hgb := hg.below
      have HX : Hid (∀ W, Below w.heap.size w W → W.cell? ⟨xa, xo, none⟩ = some (.int .u64 x1) ∧ W.cell? ⟨xa, xo + 1, none⟩ = some (.int .i64 x2)) := Lib.hid fun W hW =>
        have hk : ∀ o, W.cell? ⟨xa, o, none⟩ = wr.cell? ⟨xa, o, none⟩ := fun o => (hW.cell (p := ⟨xa, o, none⟩) (Nat.lt_of_lt_of_le hxa hB)).trans (hgb.cell (p := ⟨xa, o, none⟩) (Nat.lt_of_lt_of_le hxa hB)).symm
        ⟨(hk _).trans hx0, (hk _).trans hx1⟩
      have HY : Hid (∀ W, Below w.heap.size w W → W.cell? ⟨ya, yo, none⟩ = some (.int .u64 y1) ∧ W.cell? ⟨ya, yo + 1, none⟩ = some (.int .i64 y2)) := Lib.hid fun W hW =>
        have hk : ∀ o, W.cell? ⟨ya, o, none⟩ = wr.cell? ⟨ya, o, none⟩ := fun o => (hW.cell (p := ⟨ya, o, none⟩) (Nat.lt_of_lt_of_le hya hB)).trans (hgb.cell (p := ⟨ya, o, none⟩) (Nat.lt_of_lt_of_le hya hB)).symm
        ⟨(hk _).trans hy0, (hk _).trans hy1⟩
      have HSC : Hid (∀ W, Below w.heap.size w W → W.cell? ⟨ya, yo, none⟩ = some (.int .u64 y1) ∧ W.cell? ⟨ya, yo + 1, none⟩ = some (.int .i64 y2) ∧ W.cell? ⟨xa, xo, none⟩ = some (.int .u64 x1) ∧ W.cell? ⟨xa, xo + 1, none⟩ = some (.int .i64 x2)) := Lib.hid fun W hW =>
        ⟨(HY.out W hW).1, (HY.out W hW).2, (HX.out W hW).1, (HX.out W hW).2⟩
      obtain ⟨r, hr⟩ : ∃ r, cf (y1, y2) (x1, x2) = r := ⟨_, rfl⟩
      have HL : Hid (∀ W, Below w.heap.size w W → Below wr.heap.size wr W → Calls Try.prog 20 #[.agg #[.int .u64 y1, .int .i64 y2], .agg #[.int .u64 x1, .int .i64 x2]] W fun e w' => e = .returned (.int .i64 r) ∧ Below w.heap.size w w' ∧ Below wr.heap.size wr w') := Lib.hid fun W hW hW2 => by
        refine (cmp_any (y1, y2) (x1, x2) W).mono ?_
        intro e w' ⟨he, hb⟩
        exact ⟨by rw [he, hr], hW.trans (hb.mono hW.size), hW2.trans (hb.mono hW2.size)⟩
      have hcl := cf_lt (y1, y2) (x1, x2)
      rw [hr] at hcl
      have HG := Lib.hid hg
      have d1 : decide (0 < pa) = true := decide_eq_true z1
      have d2 : decide (0 < pb) = true := decide_eq_true z2
      have d3 : decide ((0 : Int) < (pa : Int)) = true := decide_eq_true (by omega)
      have d4 : decide ((0 : Int) < (pb : Int)) = true := decide_eq_true (by omega)
      have j1 : (0 : Int) < (pa : Int) := by omega
      have j2 : (0 : Int) < (pb : Int) := by omega
      have HPA : Hid ((((x1, x2) : Hit) :: ta).length = pa ∧ (((y1, y2) : Hit) :: tb).length = pb) := Lib.hid ⟨hpa, hpb⟩
      clear hr hg hx0 hx1 hy0 hy1 hpa hpb
      have HCA : Hid (pa ≤ ca ∧ pb ≤ cb) := Lib.hid (by
        obtain ⟨hpa, hpb⟩ := HPA.out
        have h1 := HG.out.capa
        have h2 := HG.out.capb
        omega)
      obtain ⟨k1, k2⟩ := HCA.out
      have k3 : (1 : Int) ≤ (pa : Int) := by omega
      have k4 : (1 : Int) ≤ (pb : Int) := by omega
      have k5 : (pa : Int) ≤ (ca : Int) := by omega
      have k6 : (pb : Int) ≤ (cb : Int) := by omega
      cases hlx : lt (y1, y2) (x1, x2) with
      | true =>
        rw [hlx] at hcl
        have HLX := Lib.hid hlx
        clear hlx
        go_wp2_with (fail)
        go_region_held3 (fun W => W.cell? ⟨ya, yo, none⟩ = some (.int .u64 y1) ∧ W.cell? ⟨ya, yo + 1, none⟩ = some (.int .i64 y2) ∧ W.cell? ⟨xa, xo, none⟩ = some (.int .u64 x1) ∧ W.cell? ⟨xa, xo + 1, none⟩ = some (.int .i64 x2))
          ((refine HSC.out _ ?_; repeat' (first | (with_reducible assumption) | (with_reducible exact Below.refl _ _) | (with_reducible refine Below.drew ?_))))
          ((go_at_call 20; (refine (HL.out _ (by first | (with_reducible assumption) | (with_reducible exact Below.drew (by with_reducible assumption))) (by first | (with_reducible assumption) | (with_reducible exact Below.refl _ _) | (with_reducible exact Below.drew (Below.refl _ _)))).mono ?_); rintro e w2 ⟨rfl, hb2, hb3⟩))
        have hg2 := HG.out.on hB hb3
        have hown2 := hg2.own
        have hsz2 := hb2.size
        have HG2 := Lib.hid hg2
        have HSZ : Hid (w.heap.size ≤ w2.heap.size) := Lib.hid hsz2
        have HSZ2 : Hid (w.heap.size ≤ w2.drew.heap.size) := Lib.hid hsz2
        clear hg2 hb3 HG HL
        by_cases hc1 : cb = 1
        · subst hc1
          obtain rfl : pb = 1 := by omega
          go_wp2_with (fail)
          go_region_held3 (fun W => W.cell? ⟨ya, yo, none⟩ = some (.int .u64 y1) ∧ W.cell? ⟨ya, yo + 1, none⟩ = some (.int .i64 y2))
            ((refine HY.out _ ?_; repeat' (first | (with_reducible assumption) | (with_reducible refine Below.drew ?_) | (with_reducible refine below_drewN' ?_ _) | (with_reducible refine Below.alloc ?_ HSZ.out _) | (with_reducible refine Below.alloc ?_ HSZ2.out _))))
            ((refine step_append_slk _ (by rfl) _ _ _ (by rfl) w.heap.size 31 2 16 Try.underlying22 hitE (by omega) (.slice Ao m co) m (hv out) (by rfl) (World.ownsRow.alloc (w := w2.drew) hown2 _) _ _ 1 1 [.int .u64 y1, .int .i64 y2] (by rfl) (Sl.lit w2.drew _ _) rfl (hc_oneOf _ _) (by omega) (by unfold maxLen; omega) (by simp; omega) ?_; intro v4 w4 hown4 hg4 hat4; have hB4 := below_appendK1 (below_drewN' hb2 1) hsz2 _ (wr := w2.drewN 1) hown2 (Nat.le_refl _) hg4))
          obtain ⟨A4, c4, rfl, hc4⟩ := own_slice hown4
          have HM : Hid (Mg w w4 B a b (((x1, x2) : Hit) :: ta) tb (out ++ [(y1, y2)]) (some ⟨xa, xo, none⟩) (some ⟨ya, yo, none⟩) A4 (m + 1) ca 0 c4) := Lib.hid
            (HG2.out.takeB HLX.out hown4 hB4 hB (by obtain ⟨hpa, hpb⟩ := HPA.out; simp only [List.length_cons] at hpa hpb; omega) (by
            obtain ⟨hpa, hpb⟩ := HPA.out
            simp only [List.length_cons] at hpa hpb
            obtain rfl : tb = [] := List.eq_nil_of_length_eq_zero (by omega)
            exact Sl.nil))
          have HP2 : Hid (tb.length = 0) := Lib.hid (by obtain ⟨hpa, hpb⟩ := HPA.out; simp only [List.length_cons] at hpa hpb; omega)
          clear hown4 hB4 hg4 hat4 hown2 HG2
          go_wp2_with (fail)
          go_roundg (pa + 0)
          case measure => omega
          case rel => exact ⟨(((x1, x2) : Hit) :: ta), tb, out ++ [(y1, y2)], some ⟨xa, xo, none⟩, (some ⟨ya, yo, none⟩), A4, pa, 0, m + 1, ca, 0, c4, rfl, HPA.out.1, HP2.out, rfl, rfl, rfl, HM.out⟩
        · go_wp2_with (fail)
          go_region_held3 (fun W => W.cell? ⟨ya, yo, none⟩ = some (.int .u64 y1) ∧ W.cell? ⟨ya, yo + 1, none⟩ = some (.int .i64 y2))
            ((refine HY.out _ ?_; repeat' (first | (with_reducible assumption) | (with_reducible refine Below.drew ?_) | (with_reducible refine below_drewN' ?_ _) | (with_reducible refine Below.alloc ?_ HSZ.out _) | (with_reducible refine Below.alloc ?_ HSZ2.out _))))
            ((refine step_append_slk _ (by rfl) _ _ _ (by rfl) w.heap.size 31 2 16 Try.underlying22 hitE (by omega) (.slice Ao m co) m (hv out) (by rfl) (World.ownsRow.alloc (w := w2.drew) hown2 _) _ _ 1 1 [.int .u64 y1, .int .i64 y2] (by rfl) (Sl.lit w2.drew _ _) rfl (hc_oneOf _ _) (by omega) (by unfold maxLen; omega) (by simp; omega) ?_; intro v4 w4 hown4 hg4 hat4; have hB4 := below_appendK1 (below_drewN' hb2 1) hsz2 _ (wr := w2.drewN 1) hown2 (Nat.le_refl _) hg4))
          obtain ⟨A4, c4, rfl, hc4⟩ := own_slice hown4
          have HM : Hid (Mg w w4 B a b (((x1, x2) : Hit) :: ta) tb (out ++ [(y1, y2)]) (some ⟨xa, xo, none⟩) (some ⟨ya, yo + 2, none⟩) A4 (m + 1) ca (cb - 1) c4) := Lib.hid
            (HG2.out.takeB HLX.out hown4 hB4 hB (by obtain ⟨hpa, hpb⟩ := HPA.out; simp only [List.length_cons] at hpa hpb; omega) (Sl.tail HG2.out.rb_))
          have HP2 : Hid (tb.length = (pb - 1)) := Lib.hid (by obtain ⟨hpa, hpb⟩ := HPA.out; simp only [List.length_cons] at hpa hpb; omega)
          clear hown4 hB4 hg4 hat4 hown2 HG2
          go_wp2_with (fail)
          go_roundg (pa + (pb - 1))
          case measure => omega
          case rel => exact ⟨(((x1, x2) : Hit) :: ta), tb, out ++ [(y1, y2)], some ⟨xa, xo, none⟩, (some ⟨ya, yo + 2, none⟩), A4, pa, (pb - 1), m + 1, ca, (cb - 1), c4, rfl, HPA.out.1, HP2.out, rfl, rfl, rfl, HM.out⟩
      | false =>
        rw [hlx] at hcl
        have HLX := Lib.hid hlx
        clear hlx
        go_wp2_with (fail)
        go_region_held3 (fun W => W.cell? ⟨ya, yo, none⟩ = some (.int .u64 y1) ∧ W.cell? ⟨ya, yo + 1, none⟩ = some (.int .i64 y2) ∧ W.cell? ⟨xa, xo, none⟩ = some (.int .u64 x1) ∧ W.cell? ⟨xa, xo + 1, none⟩ = some (.int .i64 x2))
          ((refine HSC.out _ ?_; repeat' (first | (with_reducible assumption) | (with_reducible exact Below.refl _ _) | (with_reducible refine Below.drew ?_))))
          ((go_at_call 20; (refine (HL.out _ (by first | (with_reducible assumption) | (with_reducible exact Below.drew (by with_reducible assumption))) (by first | (with_reducible assumption) | (with_reducible exact Below.refl _ _) | (with_reducible exact Below.drew (Below.refl _ _)))).mono ?_); rintro e w2 ⟨rfl, hb2, hb3⟩))
        have hg2 := HG.out.on hB hb3
        have hown2 := hg2.own
        have hsz2 := hb2.size
        have HG2 := Lib.hid hg2
        have HSZ : Hid (w.heap.size ≤ w2.heap.size) := Lib.hid hsz2
        have HSZ2 : Hid (w.heap.size ≤ w2.drew.heap.size) := Lib.hid hsz2
        clear hg2 hb3 HG HL
        by_cases hc1 : ca = 1
        · subst hc1
          obtain rfl : pa = 1 := by omega
          go_wp2_with (fail)
          go_region_held3 (fun W => W.cell? ⟨xa, xo, none⟩ = some (.int .u64 x1) ∧ W.cell? ⟨xa, xo + 1, none⟩ = some (.int .i64 x2))
            ((refine HX.out _ ?_; repeat' (first | (with_reducible assumption) | (with_reducible refine Below.drew ?_) | (with_reducible refine below_drewN' ?_ _) | (with_reducible refine Below.alloc ?_ HSZ.out _) | (with_reducible refine Below.alloc ?_ HSZ2.out _))))
            ((refine step_append_slk _ (by rfl) _ _ _ (by rfl) w.heap.size 31 2 16 Try.underlying22 hitE (by omega) (.slice Ao m co) m (hv out) (by rfl) (World.ownsRow.alloc (w := w2.drew) hown2 _) _ _ 1 1 [.int .u64 x1, .int .i64 x2] (by rfl) (Sl.lit w2.drew _ _) rfl (hc_oneOf _ _) (by omega) (by unfold maxLen; omega) (by simp; omega) ?_; intro v4 w4 hown4 hg4 hat4; have hB4 := below_appendK1 (below_drewN' hb2 1) hsz2 _ (wr := w2.drewN 1) hown2 (Nat.le_refl _) hg4))
          obtain ⟨A4, c4, rfl, hc4⟩ := own_slice hown4
          have HM : Hid (Mg w w4 B a b ta (((y1, y2) : Hit) :: tb) (out ++ [(x1, x2)]) (some ⟨xa, xo, none⟩) (some ⟨ya, yo, none⟩) A4 (m + 1) 0 cb c4) := Lib.hid
            (HG2.out.takeA HLX.out hown4 hB4 hB (by obtain ⟨hpa, hpb⟩ := HPA.out; simp only [List.length_cons] at hpa hpb; omega) (by
            obtain ⟨hpa, hpb⟩ := HPA.out
            simp only [List.length_cons] at hpa hpb
            obtain rfl : ta = [] := List.eq_nil_of_length_eq_zero (by omega)
            exact Sl.nil))
          have HP2 : Hid (ta.length = 0) := Lib.hid (by obtain ⟨hpa, hpb⟩ := HPA.out; simp only [List.length_cons] at hpa hpb; omega)
          clear hown4 hB4 hg4 hat4 hown2 HG2
          go_wp2_with (fail)
          go_roundg (0 + pb)
          case measure => omega
          case rel => exact ⟨ta, (((y1, y2) : Hit) :: tb), out ++ [(x1, x2)], (some ⟨xa, xo, none⟩), some ⟨ya, yo, none⟩, A4, 0, pb, m + 1, 0, cb, c4, rfl, HP2.out, HPA.out.2, rfl, rfl, rfl, HM.out⟩
        · go_wp2_with (fail)
          go_region_held3 (fun W => W.cell? ⟨xa, xo, none⟩ = some (.int .u64 x1) ∧ W.cell? ⟨xa, xo + 1, none⟩ = some (.int .i64 x2))
            ((refine HX.out _ ?_; repeat' (first | (with_reducible assumption) | (with_reducible refine Below.drew ?_) | (with_reducible refine below_drewN' ?_ _) | (with_reducible refine Below.alloc ?_ HSZ.out _) | (with_reducible refine Below.alloc ?_ HSZ2.out _))))
            ((refine step_append_slk _ (by rfl) _ _ _ (by rfl) w.heap.size 31 2 16 Try.underlying22 hitE (by omega) (.slice Ao m co) m (hv out) (by rfl) (World.ownsRow.alloc (w := w2.drew) hown2 _) _ _ 1 1 [.int .u64 x1, .int .i64 x2] (by rfl) (Sl.lit w2.drew _ _) rfl (hc_oneOf _ _) (by omega) (by unfold maxLen; omega) (by simp; omega) ?_; intro v4 w4 hown4 hg4 hat4; have hB4 := below_appendK1 (below_drewN' hb2 1) hsz2 _ (wr := w2.drewN 1) hown2 (Nat.le_refl _) hg4))
          obtain ⟨A4, c4, rfl, hc4⟩ := own_slice hown4
          have HM : Hid (Mg w w4 B a b ta (((y1, y2) : Hit) :: tb) (out ++ [(x1, x2)]) (some ⟨xa, xo + 2, none⟩) (some ⟨ya, yo, none⟩) A4 (m + 1) (ca - 1) cb c4) := Lib.hid
            (HG2.out.takeA HLX.out hown4 hB4 hB (by obtain ⟨hpa, hpb⟩ := HPA.out; simp only [List.length_cons] at hpa hpb; omega) (Sl.tail HG2.out.ra_))
          have HP2 : Hid (ta.length = (pa - 1)) := Lib.hid (by obtain ⟨hpa, hpb⟩ := HPA.out; simp only [List.length_cons] at hpa hpb; omega)
          clear hown4 hB4 hg4 hat4 hown2 HG2
          go_wp2_with (fail)
          go_roundg ((pa - 1) + pb)
          case measure => omega
          case rel => exact ⟨ta, (((y1, y2) : Hit) :: tb), out ++ [(x1, x2)], (some ⟨xa, xo + 2, none⟩), some ⟨ya, yo, none⟩, A4, (pa - 1), pb, m + 1, (ca - 1), cb, c4, rfl, HP2.out, HPA.out.2, rfl, rfl, rfl, HM.out⟩
    · have hall : out ++ ra ++ rb = mrg a b := by
        rw [hg.all]
        rcases Nat.eq_zero_or_pos pa with h0 | h0
        · obtain rfl := List.eq_nil_of_length_eq_zero (hpa.trans h0)
          simp [mrg]
        · obtain rfl := List.eq_nil_of_length_eq_zero (show rb.length = 0 by omega)
          simp [mrg_nil]
      have HALL := Lib.hid hall
      have HLA : Hid ((hv ra).length = pa * 2) := Lib.hid (by rw [hv_length, hpa])
      have HLB : Hid ((hv rb).length = pb * 2) := Lib.hid (by rw [hv_length, hpb])
      have hown := hg.own
      have hbw := hg.below
      have hsa := hg.ra_
      have hsz := hbw.size
      have HSB : Hid (∀ W, Below w.heap.size w W → Sl W B Ab (hv rb)) := Lib.hid fun W hW => hg.rb_.keep fun p hp => (hW.cell (Nat.lt_of_lt_of_le hp hB)).trans (hg.below.cell (Nat.lt_of_lt_of_le hp hB)).symm
      have hor : (decide (0 < pa) = false ∧ decide ((0 : Int) < (pa : Int)) = false) ∨ ((decide (0 < pa) = true ∧ decide ((0 : Int) < (pa : Int)) = true) ∧ decide (0 < pb) = false ∧ decide ((0 : Int) < (pb : Int)) = false) := by
        rcases Nat.eq_zero_or_pos pa with h0 | h0
        · exact .inl ⟨decide_eq_false (by omega), decide_eq_false (by omega)⟩
        · exact .inr ⟨⟨decide_eq_true h0, decide_eq_true (by omega)⟩, decide_eq_false (by omega), decide_eq_false (by omega)⟩
      clear hall hg hpa hpb hend
      rcases hor with ⟨d1, d2⟩ | ⟨⟨d1, d2⟩, d3, d4⟩
      · go_wp2_with (first
          | (at_builtin
             refine wpList_append_slk _ rfl (.tmp 44) (.tmp 45) _ rfl w.heap.size 31 2 16 Try.underlying22 hitE (by omega) (.slice Ao m co) m (hv out) rfl hown _ Aa pa ca (hv ra) rfl hsa HLA.out (hv_one _) (by omega) (by unfold maxLen; omega) hsz ?_
             intro v3 w3 hown3 hg3 hat3
             obtain ⟨A3, c3, rfl, hc3⟩ := own_slice hown3
             have hb3 := below_appendK hbw hsz hown (Nat.le_refl _) hg3
             have hsz3 := hb3.size
             have hsb3 := HSB.out w3 hb3)
          | (at_builtin
             refine wpList_append_slk _ rfl (.tmp 46) (.tmp 47) _ rfl w.heap.size 31 2 16 Try.underlying22 hitE (by omega) (.slice A3 (m + pa) c3) (m + pa) (hv out ++ hv ra) rfl hown3 _ Ab pb cb (hv rb) rfl hsb3 HLB.out (hv_one _) (by omega) (by unfold maxLen; omega) hsz3 ?_
             intro v4 w4 hown4 hg4 hat4
             obtain ⟨A4, c4, rfl, hc4⟩ := own_slice hown4
             have hb4 := below_appendK hb3 hsz3 hown3 (Nat.le_refl _) hg4))
        go_ret
        exact (Own.mk (l := mrg a b) (m := out ++ ra ++ rb) (by rw [hv_append, hv_append]; exact hown4) HALL.out hb4).rows
      · go_wp2_with (first
          | (at_builtin
             refine wpList_append_slk _ rfl (.tmp 44) (.tmp 45) _ rfl w.heap.size 31 2 16 Try.underlying22 hitE (by omega) (.slice Ao m co) m (hv out) rfl hown _ Aa pa ca (hv ra) rfl hsa HLA.out (hv_one _) (by omega) (by unfold maxLen; omega) hsz ?_
             intro v3 w3 hown3 hg3 hat3
             obtain ⟨A3, c3, rfl, hc3⟩ := own_slice hown3
             have hb3 := below_appendK hbw hsz hown (Nat.le_refl _) hg3
             have hsz3 := hb3.size
             have hsb3 := HSB.out w3 hb3)
          | (at_builtin
             refine wpList_append_slk _ rfl (.tmp 46) (.tmp 47) _ rfl w.heap.size 31 2 16 Try.underlying22 hitE (by omega) (.slice A3 (m + pa) c3) (m + pa) (hv out ++ hv ra) rfl hown3 _ Ab pb cb (hv rb) rfl hsb3 HLB.out (hv_one _) (by omega) (by unfold maxLen; omega) hsz3 ?_
             intro v4 w4 hown4 hg4 hat4
             obtain ⟨A4, c4, rfl, hc4⟩ := own_slice hown4
             have hb4 := below_appendK hb3 hsz3 hown3 (Nat.le_refl _) hg4))
        go_ret
        exact (Own.mk (l := mrg a b) (m := out ++ ra ++ rb) (by rw [hv_append, hv_append]; exact hown4) HALL.out hb4).rows
end Go.Proofs.Ytbpeblmjnipakaa.hit
