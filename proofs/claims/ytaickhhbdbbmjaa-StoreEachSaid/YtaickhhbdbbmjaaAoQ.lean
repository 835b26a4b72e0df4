/-
  The contract of Put.
-/
import Derived.Test.YtaickhhbdbbmjaaAoP
namespace Go.Proofs.Ytaickhhbdbbmjaa.aro
open Go.RowKit law bytes only flat ord obj
set_option linter.unusedVariables false

/-- the world behind the free slot's going -/
def Pop (W : World) (ab gF q c : Nat) : World := W.setCell ⟨ab, 2, none⟩ (.slice (some ⟨gF, 0, none⟩) q c)
/-- what Put's end asks of the world, and what it leaves -/
theorem Ax.tail {W : World} {base ab : Nat} {A : Option Addr} {F : Value} {D : List (Option Kept)} {e s : Nat} {G : List Nat} (h : Ax W base ab A F D e (G ++ [s])) (hs : s < D.length) (x : Kept) (q : Nat) (hq : q = G.length) (gb : Nat) (hgb : Blk W gb 29 #[.int .i64 x.x.tag, .slice x.A x.x.vec.length x.c, .string x.x.str]) (hgm : ¬ Mine ab A F gb) :
    ∃ gA gF n1 c u, A = some ⟨gA, 0, none⟩ ∧ F = .slice (some ⟨gF, 0, none⟩) n1 c ∧ n1 = q + 1 ∧ n1 ≤ c ∧
      W.cell? ⟨ab, 2, none⟩ = some (.slice (some ⟨gF, 0, none⟩) n1 c) ∧ W.frozen? ⟨ab, 2, none⟩ = false ∧ W.cell? ⟨gF, q, none⟩ = some (.int .i64 (s : Int)) ∧
      (Pop W ab gF q c).cell? ⟨ab, 0, none⟩ = some (.slice (some ⟨gA, 0, none⟩) D.length D.length) ∧
      Blk (Pop W ab gF q c) gb 29 #[.int .i64 x.x.tag, .slice x.A x.x.vec.length x.c, .string x.x.str] ∧
      Room (Pop W ab gF q c) gA s (some x) u ∧
      (W4 (Pop W ab gF q c) gA s (some x)).cell? ⟨ab, 0, none⟩ = some (.slice (some ⟨gA, 0, none⟩) D.length D.length) ∧ Blk (W4 (Pop W ab gF q c) gA s (some x)) gb 29 #[.int .i64 x.x.tag, .slice x.A x.x.vec.length x.c, .string x.x.str] ∧
      Turned W base ab A F (D.set s (some x)) G (W4 (Pop W ab gF q c) gA s (some x)) := by
  obtain ⟨gA, rfl⟩ := h.formA (by omega)
  have hfr := h.free
  obtain ⟨gF, c, hF, _⟩ := own_form hfr (by simp)
  have hl : (G ++ [s]).length = q + 1 := by simp [hq]
  rw [hl] at hF
  subst hF
  obtain ⟨hx1, ho1, r0, hqc⟩ := h.popF hq
  obtain ⟨hx2, ho2, hr⟩ := hx1.setAt s hs (some x)
  refine ⟨gA, gF, q + 1, c, _, rfl, rfl, rfl, hqc, h.blk.cell 2, h.blk.frozen 2, r0, hx1.blk.cell 0, Blk.only hgb ho1 hgm, hr, ?_, Blk.only (Blk.only hgb ho1 hgm) ho2 hgm, ?_⟩
  · have := hx2.blk.cell 0
    rw [List.length_set] at this
    exact this
  exact Turned.then_ (F2 := .slice (some ⟨gF, 0, none⟩) q c) ho1 (fun i hi => .inl (by
    rcases hi with hi | hi | hi
    · exact .inl hi
    · exact .inr (.inl hi)
    · exact .inr (.inr hi))) ⟨ho2, _, _, _, hx2, fun i hi => .inl hi⟩

theorem Turned.drew {w w' : World} {base ab : Nat} {A : Option Addr} {F : Value} {d : List (Option Kept)} {f : List Nat} (h : Turned w base ab A F d f w') : Turned w base ab A F d f w'.drew := by
  obtain ⟨ho, A', F', e', hx, hm⟩ := h
  exact ⟨ho.drew, A', F', e', hx.drewN 1, hm⟩
set_option maxRecDepth 100000 in
set_option maxHeartbeats 6400000 in
theorem put_any {w : World} {base ab : Nat} {A : Option Addr} {F : Value} {d : List (Option Kept)} {e : Nat} {f : List Nat} (h : Ax w base ab A F d e f) (hi : Inv d f) (x : Kept) (hB : base ≤ w.heap.size) (hm : d.length ≤ 2513169434916) :
    Calls Try.prog 27 #[.pointer (some ⟨ab, 0, none⟩), kV x] w fun r w' => r = .returned (.int .i64 (slotP d f)) ∧ Turned w base ab A F (putD d f x) f.dropLast w' := by
  have hba : Below w.heap.size w (w.alloc (.cells #[.int .i64 x.x.tag, .slice x.A x.x.vec.length x.c, .string x.x.str] 29)) := (Below.refl _ _).alloc (Nat.le_refl _) _
  have hgb : Blk (w.alloc (.cells #[.int .i64 x.x.tag, .slice x.A x.x.vec.length x.c, .string x.x.str] 29)) w.heap.size 29 #[.int .i64 x.x.tag, .slice x.A x.x.vec.length x.c, .string x.x.str] := Blk.new _ _ _
  have hgm : ¬ Mine ab A F w.heap.size := fun e => absurd (h.lowM e).2 (Nat.lt_irrefl _)
  have h1 := h.below hba (Nat.le_refl _)
  obtain ⟨gb, hgbe⟩ : ∃ gb, gb = w.heap.size := ⟨_, rfl⟩
  have ho := Only.of_below hba (Nat.le_refl _) (Mine ab A F)
  have hB1 : base ≤ (w.alloc (.cells #[.int .i64 x.x.tag, .slice x.A x.x.vec.length x.c, .string x.x.str] 29)).heap.size := by simp; omega
  have hE : ∀ D G W', Turned (w.alloc (.cells #[.int .i64 x.x.tag, .slice x.A x.x.vec.length x.c, .string x.x.str] 29)) base ab A F D G W' → Turned w base ab A F D G W' := fun D G W' ht => Turned.then_ ho (fun i hi => .inl hi) ht
  have HV : kV x = .agg #[.int .i64 x.x.tag, .slice x.A x.x.vec.length x.c, .string x.x.str] := rfl
  rw [HV]
  clear h hba ho HV
  generalize hV : w.alloc (.cells #[.int .i64 x.x.tag, .slice x.A x.x.vec.length x.c, .string x.x.str] 29) = V at h1 hgb hB1 hE
  rw [← hgbe] at hgb hgm
  have HE := Lib.hid hE
  clear hE
  rcases last_cases f with rfl | ⟨G, s, rfl⟩
  · have HW := Lib.hid (widen_any h1 hB1 hi.len hm)
    obtain ⟨A', c', hF, -⟩ := h1.formF
    have c2 : V.cell? ⟨ab, 2, none⟩ = some (.slice A' 0 c') := by
      have := h1.blk.cell 2
      rw [hF] at this
      exact this
    rw [slotP_nil, putD_nil, List.dropLast_nil]
    clear h1 hF hi
    go_enter Try.func27, Try.ntmps27
    go_wp2_with (fail)
    rw [← hgbe]
    have HGB := Lib.hid hgbe
    clear hgbe
    refine HW.out.mono ?_
    rintro r w1 ⟨rfl, ho0, A1, F1, e1, hx, hm1⟩
    obtain ⟨q, hq⟩ : ∃ q, q = ([] : List Nat).length := ⟨_, rfl⟩
    obtain ⟨s, hs⟩ : ∃ s, s = d.length := ⟨_, rfl⟩
    rw [← hs] at hx
    obtain ⟨n, hn⟩ : ∃ n, n = (d ++ [none]).length := ⟨_, rfl⟩
    have hsn : s < n := by rw [hn, hs]; simp
    have hgb1 := Blk.only hgb ho0 hgm
    have hgm1 : ¬ Mine ab A1 F1 gb := fun e => by
      rcases hm1 gb e with h2 | h2
      · exact hgm h2
      · have := hgb.lt
        omega
    obtain ⟨gA, gF, n1, c, u, rfl, rfl, hn1, hnc, b2, f3, r0, b0, hbx, hroom, b4, hbx4, hT⟩ := hx.tail (by rw [← hn]; exact hsn) x q hq gb hgb1 hgm1
    rw [← hn] at b0 b4
    have HT : Hid (Turned w base ab A F (d ++ [some x]) [] (W4 (Pop w1 ab gF q c) gA s (some x))) := Lib.hid (by
      have e2 : (d ++ [none]).set s (some x) = d ++ [some x] := by rw [hs]; simp
      rw [e2] at hT
      exact HE.out _ _ _ (Turned.then_ ho0 hm1 hT))
    have i0 : IntKind.i64.wrap ((n1 : Int) - 1) = (q : Int) := by rw [IntKind.wrap_i64]; simp at hq; omega
    have i1 : (q : Int) < (n1 : Int) := by omega
    have i2 : (q : Int) ≤ (c : Int) := by omega
    have i3 : q ≤ c := by omega
    have i4 : (s : Int) < (n : Int) := by omega
    obtain ⟨⟨f0, f1, f2, f4⟩, ⟨q0, q1, q2, q3⟩, ⟨g1, r1⟩, ⟨g2, r2⟩, ⟨g3, r3⟩⟩ := hroom
    obtain ⟨x0, x1, x2, -⟩ := cells3 hbx
    obtain ⟨y0, y1, y2, -⟩ := cells3 hbx4
    simp only [W4, W3, W2, W1, kx_some, Option.isSome_some, Pop] at f0 f1 f2 f4 q0 q1 q2 q3 g1 g2 g3 r1 r2 r3 HT x0 x1 x2 b0 y0 y1 y2 b4
    have HK := Lib.hid (And.intro b4 (And.intro y0 (And.intro y1 y2)))
    have HK0 := Lib.hid (And.intro b0 (And.intro x0 (And.intro x1 x2)))
    clear b4 y0 y1 y2 hbx4
    have HS := Lib.hid hs
    clear hT hx ho0 hm1 hq hn hn1 hs HW hgb hgm hgb1 hgm1 hbx hV c2
    go_wp2_with (fail)
    clear HK HK0
    set_option maxHeartbeats 400000 in
    go_region
    go_wp2_with (fail)
    go_ret
    exact ⟨ret_int (by rw [HS.out]), HT.out.drew⟩
  · obtain ⟨hsl, -⟩ := hi.lt (s := s) (by simp)
    obtain ⟨q, hq⟩ : ∃ q, q = G.length := ⟨_, rfl⟩
    obtain ⟨n, hn⟩ : ∃ n, n = d.length := ⟨_, rfl⟩
    have hfl := hi.len
    obtain ⟨gA, gF, n1, c, u, rfl, rfl, hn1, hnc, b2, f3, r0, b0, hbx, hroom, b4, hbx4, hT⟩ := h1.tail hsl x q hq gb hgb hgm
    rw [← hn] at b0 b4
    rw [slotP_snoc, putD_snoc, List.dropLast_concat]
    have HT := Lib.hid (HE.out _ _ _ hT)
    have hq2 : q < d.length := by rw [List.length_append] at hfl; simp at hfl; omega
    have i00 : ((n1 : Int) == 0) = false := by rw [beq_eq_false_iff_ne]; omega
    have i0 : IntKind.i64.wrap ((n1 : Int) - 1) = (q : Int) := by rw [IntKind.wrap_i64]; omega
    have i1 : (q : Int) < (n1 : Int) := by omega
    have i2 : (q : Int) ≤ (c : Int) := by omega
    have i3 : q ≤ c := by omega
    have i4 : (s : Int) < (n : Int) := by omega
    obtain ⟨⟨f0, f1, f2, f4⟩, ⟨q0, q1, q2, q3⟩, ⟨g1, r1⟩, ⟨g2, r2⟩, ⟨g3, r3⟩⟩ := hroom
    obtain ⟨x0, x1, x2, -⟩ := cells3 hbx
    obtain ⟨y0, y1, y2, -⟩ := cells3 hbx4
    simp only [W4, W3, W2, W1, kx_some, Option.isSome_some, Pop] at f0 f1 f2 f4 q0 q1 q2 q3 g1 g2 g3 r1 r2 r3 HT x0 x1 x2 b0 y0 y1 y2 b4
    have HK := Lib.hid (And.intro b4 (And.intro y0 (And.intro y1 y2)))
    have HK0 := Lib.hid (And.intro b0 (And.intro x0 (And.intro x1 x2)))
    clear b4 y0 y1 y2 hbx4
    have HG := Lib.hid hgbe
    clear hT h1 hq hn hn1 hfl hq2 hi hsl hgb hgm hgbe hbx
    go_enter Try.func27, Try.ntmps27
    go_wp2_with (fail)
    rw [← HG.out]
    clear HK HK0
    set_option maxHeartbeats 400000 in
    go_region
    go_wp2_with (fail)
    go_ret
    exact ⟨rfl, HT.out.drew⟩
end Go.Proofs.Ytaickhhbdbbmjaa.aro
