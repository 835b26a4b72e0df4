/-
  The contract of Put.
-/
import Derived.Test.YteiggpdondbhoaaArP
namespace Go.Proofs.Yteiggpdondbhoaa.arena
open Go.RowKit law bytes only flat
set_option linter.unusedVariables false

/-- what Put's end asks of the world, and what it leaves -/
theorem Ax.tail {W : World} {base ab : Nat} {A : Option Addr} {F : Value} {D : List (Option Int)} {e s : Nat} {G : List Nat} (h : Ax W base ab A F D e (G ++ [s])) (hs : s < D.length) (x : Int) (q : Nat) (hq : q = G.length) :
    ∃ gA gF n1 c u0 u1, A = some ⟨gA, 0, none⟩ ∧ F = .slice (some ⟨gF, 0, none⟩) n1 c ∧ n1 = q + 1 ∧ n1 ≤ c ∧
      W.cell? ⟨ab, 2, none⟩ = some (.slice (some ⟨gF, 0, none⟩) n1 c) ∧ W.frozen? ⟨ab, 2, none⟩ = false ∧ W.cell? ⟨gF, q, none⟩ = some (.int .i64 (s : Int)) ∧
      (W.setCell ⟨ab, 2, none⟩ (.slice (some ⟨gF, 0, none⟩) q c)).cell? ⟨ab, 0, none⟩ = some (.slice (some ⟨gA, 0, none⟩) D.length D.length) ∧
      (W.setCell ⟨ab, 2, none⟩ (.slice (some ⟨gF, 0, none⟩) q c)).cell? ⟨gA, s * 2, none⟩ = some u0 ∧ (W.setCell ⟨ab, 2, none⟩ (.slice (some ⟨gF, 0, none⟩) q c)).cell? ⟨gA, s * 2 + 1, none⟩ = some u1 ∧
      (W.setCell ⟨ab, 2, none⟩ (.slice (some ⟨gF, 0, none⟩) q c)).frozen? ⟨gA, s * 2, none⟩ = false ∧ (W.setCell ⟨ab, 2, none⟩ (.slice (some ⟨gF, 0, none⟩) q c)).frozen? ⟨gA, s * 2 + 1, none⟩ = false ∧
      ((W.setCell ⟨ab, 2, none⟩ (.slice (some ⟨gF, 0, none⟩) q c)).setCell ⟨gA, s * 2, none⟩ (.int .i64 x)).cell? ⟨gA, s * 2 + 1, none⟩ = some u1 ∧ ((W.setCell ⟨ab, 2, none⟩ (.slice (some ⟨gF, 0, none⟩) q c)).setCell ⟨gA, s * 2, none⟩ (.int .i64 x)).frozen? ⟨gA, s * 2 + 1, none⟩ = false ∧
      Turned W base ab A F (D.set s (some x)) G (((W.setCell ⟨ab, 2, none⟩ (.slice (some ⟨gF, 0, none⟩) q c)).setCell ⟨gA, s * 2, none⟩ (.int .i64 x)).setCell ⟨gA, s * 2 + 1, none⟩ (.bool true)) := by
  obtain ⟨gA, rfl⟩ := h.formA (by omega)
  have hfr := h.free
  obtain ⟨gF, c, hF, _⟩ := own_form hfr (by simp)
  have hl : (G ++ [s]).length = q + 1 := by simp [hq]
  rw [hl] at hF
  subst hF
  obtain ⟨hx1, ho1, r0, hqc⟩ := h.popF hq
  obtain ⟨hx2, ho2, f0, f1, q2, f2⟩ := hx1.setAt s hs (some x)
  obtain ⟨q0, q1⟩ := hx1.slotAt s hs
  refine ⟨gA, gF, q + 1, c, _, _, rfl, rfl, rfl, hqc, h.blk.cell 2, h.blk.frozen 2, r0, hx1.blk.cell 0, q0, q1, f0, f1, q2, f2, ?_⟩
  exact Turned.then_ (F2 := .slice (some ⟨gF, 0, none⟩) q c) ho1 (fun i hi => .inl (by
    rcases hi with hi | hi | hi
    · exact .inl hi
    · exact .inr (.inl hi)
    · exact .inr (.inr hi))) ⟨ho2, _, _, _, hx2, fun i hi => .inl hi⟩

set_option maxRecDepth 100000 in
set_option maxHeartbeats 6400000 in
theorem put_any {w : World} {base ab : Nat} {A : Option Addr} {F : Value} {d : List (Option Int)} {e : Nat} {f : List Nat} (h : Ax w base ab A F d e f) (hi : Inv d f) (x : Int) (hB : base ≤ w.heap.size) (hm : d.length ≤ 5864062014806) :
    Calls Try.prog 7 #[.pointer (some ⟨ab, 0, none⟩), .int .i64 x] w fun r w' => r = .returned (.int .i64 (slotP d f)) ∧ Turned w base ab A F (putD d f x) f.dropLast w' := by
  rcases last_cases f with rfl | ⟨G, s, rfl⟩
  · have HW := Lib.hid (widen_any h hB hi.len hm)
    obtain ⟨A', c', hF, -⟩ := h.formF
    have c2 : w.cell? ⟨ab, 2, none⟩ = some (.slice A' 0 c') := by
      have := h.blk.cell 2
      rw [hF] at this
      exact this
    rw [slotP_nil, putD_nil, List.dropLast_nil]
    clear h hF hi
    go_enter Try.func7, Try.ntmps7
    go_wp2_with (fail)
    refine HW.out.mono ?_
    rintro r w1 ⟨rfl, ho0, A1, F1, e1, hx, hm1⟩
    obtain ⟨q, hq⟩ : ∃ q, q = ([] : List Nat).length := ⟨_, rfl⟩
    obtain ⟨s, hs⟩ : ∃ s, s = d.length := ⟨_, rfl⟩
    rw [← hs] at hx
    obtain ⟨n, hn⟩ : ∃ n, n = (d ++ [none]).length := ⟨_, rfl⟩
    have hsn : s < n := by rw [hn, hs]; simp
    obtain ⟨gA, gF, n1, c, u0, u1, rfl, rfl, hn1, hnc, b2, f3, r0, b0, q0, q1, f0, f1, q2, f2, hT⟩ := hx.tail (by rw [← hn]; exact hsn) x q hq
    rw [← hn] at b0
    have HT : Hid (Turned w base ab A F (d ++ [some x]) [] (((w1.setCell ⟨ab, 2, none⟩ (.slice (some ⟨gF, 0, none⟩) q c)).setCell ⟨gA, s * 2, none⟩ (.int .i64 x)).setCell ⟨gA, s * 2 + 1, none⟩ (.bool true))) := Lib.hid (by
      have e2 : (d ++ [none]).set s (some x) = d ++ [some x] := by rw [hs]; simp
      rw [e2] at hT
      exact Turned.then_ ho0 hm1 hT)
    have i0 : IntKind.i64.wrap ((n1 : Int) - 1) = (q : Int) := by rw [IntKind.wrap_i64]; simp at hq; omega
    have i1 : (q : Int) < (n1 : Int) := by omega
    have i2 : (q : Int) ≤ (c : Int) := by omega
    have i3 : q ≤ c := by omega
    have i4 : (s : Int) < (n : Int) := by omega
    have HS := Lib.hid hs
    clear hT hx ho0 hm1 hq hn hn1 hs HW
    go_wp2_with (fail)
    go_ret
    exact ⟨ret_int (by rw [HS.out]), HT.out⟩
  · obtain ⟨hsl, -⟩ := hi.lt (s := s) (by simp)
    obtain ⟨q, hq⟩ : ∃ q, q = G.length := ⟨_, rfl⟩
    obtain ⟨n, hn⟩ : ∃ n, n = d.length := ⟨_, rfl⟩
    have hfl := hi.len
    obtain ⟨gA, gF, n1, c, u0, u1, rfl, rfl, hn1, hnc, b2, f3, r0, b0, q0, q1, f0, f1, q2, f2, hT⟩ := h.tail hsl x q hq
    rw [← hn] at b0
    rw [slotP_snoc, putD_snoc, List.dropLast_concat]
    have HT := Lib.hid hT
    have hq2 : q < d.length := by rw [List.length_append] at hfl; simp at hfl; omega
    have i00 : ((n1 : Int) == 0) = false := by rw [beq_eq_false_iff_ne]; omega
    have i0 : IntKind.i64.wrap ((n1 : Int) - 1) = (q : Int) := by rw [IntKind.wrap_i64]; omega
    have i1 : (q : Int) < (n1 : Int) := by omega
    have i2 : (q : Int) ≤ (c : Int) := by omega
    have i3 : q ≤ c := by omega
    have i4 : (s : Int) < (n : Int) := by omega
    clear hT h hq hn hn1 hfl hq2 hi hsl
    go_enter Try.func7, Try.ntmps7
    go_wp2_with (fail)
    go_ret
    exact ⟨rfl, HT.out⟩
end Go.Proofs.Yteiggpdondbhoaa.arena
