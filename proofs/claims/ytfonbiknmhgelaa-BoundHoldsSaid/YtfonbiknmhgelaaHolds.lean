/-
  For all five integers of Go's int the law BoundHolds returns true.
-/
import Derived.Test.YtfonbiknmhgelaaBound
import Derived.Lib.SmallJoins
import Derived.Test.YtfonbiknmhgelaaQuiet
namespace Go.Proofs.Ytfonbiknmhgelaa.boundHolds
open Go.RowKit bound
set_option linter.unusedVariables false
open Go.Joins Go.ChangeShapes Go.WideShapes Go.ChangeAt Go.Deep law

section
variable {H : Type} {enc : TypeId × Value → H} {P : Program} {w : World} {base : Nat} {spare : Nat → Bool} {held : Bool}
theorem open_five {r : Reach} {b0 : Nat} {t : TypeId} {f0 f1 f2 f3 f4 : Field} {v : Value} {d : DataW H} {p : List MemPlace} (hs : P.underlying t = some (.struct #[f0, f1, f2, f3, f4])) (hone : oneCellFields P #[f0, f1, f2, f3, f4] = true) (hC : P.cellsOf t = 5)
    (hv : Value.okWide P w r b0 t v) (h : DataW.Trod enc P w base spare held t v d p)
    (e0 : P.underlying f0.type = some (.int .i64)) (e1 : P.underlying f1.type = some (.int .i64)) (e2 : P.underlying f2.type = some (.int .i64)) (e3 : P.underlying f3.type = some (.int .i64)) (e4 : P.underlying f4.type = some (.int .i64)) :
    ∃ (a0 a1 a2 a3 a4 : Int), v = .agg #[.int .i64 a0, .int .i64 a1, .int .i64 a2, .int .i64 a3, .int .i64 a4] := by
  obtain ⟨cs, rfl, hsz⟩ := okWide_struct hs hv
  obtain ⟨l⟩ := cs
  match l, hsz.trans hC with
  | [c0, c1, c2, c3, c4], _ =>
    obtain ⟨fuel, hf⟩ := h
    obtain ⟨xs, n, _, hx, _, hlen, hg⟩ := DataW.trod_struct hs hf
    obtain ⟨o0, k0⟩ := hone_of hone 0 f0 rfl
    obtain ⟨o1, k1⟩ := hone_of hone 1 f1 rfl
    obtain ⟨o2, k2⟩ := hone_of hone 2 f2 rfl
    obtain ⟨o3, k3⟩ := hone_of hone 3 f3 rfl
    obtain ⟨o4, k4⟩ := hone_of hone 4 f4 rfl
    match xs, hlen with
    | [y0, y1, y2, y3, y4], _ =>
      have g0 : DataW.trod enc P w base spare held n f0.type [c0] = some y0 := by simpa [Value.cells, o0, k0] using hg 0 f0 rfl
      have g1 : DataW.trod enc P w base spare held n f1.type [c1] = some y1 := by simpa [Value.cells, o1, k1] using hg 1 f1 rfl
      have g2 : DataW.trod enc P w base spare held n f2.type [c2] = some y2 := by simpa [Value.cells, o2, k2] using hg 2 f2 rfl
      have g3 : DataW.trod enc P w base spare held n f3.type [c3] = some y3 := by simpa [Value.cells, o3, k3] using hg 3 f3 rfl
      have g4 : DataW.trod enc P w base spare held n f4.type [c4] = some y4 := by simpa [Value.cells, o4, k4] using hg 4 f4 rfl
      obtain ⟨n0, h0, _⟩ := DataW.trod_int e0 g0
      obtain ⟨n1, h1, _⟩ := DataW.trod_int e1 g1
      obtain ⟨n2, h2, _⟩ := DataW.trod_int e2 g2
      obtain ⟨n3, h3, _⟩ := DataW.trod_int e3 g3
      obtain ⟨n4, h4, _⟩ := DataW.trod_int e4 g4
      exact ⟨n0, n1, n2, n3, n4, by simp_all⟩
end

theorem inn_id {n : Int} (h : 0 ≤ n) (h2 : n ≤ 1125899906842624) : inn n = n := by unfold inn; omega
theorem facts (pq po qo less more low : Int) (h0 : 0 ≤ pq) (h1 : pq ≤ 1125899906842624) (h2 : 0 ≤ po) (h3 : po ≤ 1125899906842624) (h4 : 0 ≤ qo) (h5 : qo ≤ 1125899906842624) (h6 : 0 ≤ less) (h7 : 0 ≤ more)
    (t1 : pq ≤ po + qo) (t2 : po ≤ pq + qo) (t3 : qo ≤ pq + po) (hl : 0 ≤ low) (hl2 : low ≤ po) :
    apart (inn pq) (inn po) ≤ qo ∧ qo ≤ inn pq + inn po ∧ ring (inn pq) (inn low) (inn (po + more)) ≤ qo ∧ ring (inn pq) (inn 0) (inn (po + more)) ≤ qo ∧ apart (inn pq) (inn po) ≤ inn pq + inn po ∧
    ring (inn pq) (inn low) (inn (po + more)) ≤ ring (inn pq) (inn po) (inn po) ∧ ring (inn pq) (inn 0) (inn (po + more)) ≤ ring (inn pq) (inn 0) (inn po) := by
  have hh : po ≤ inn (po + more) := by unfold inn; omega
  rw [inn_id h0 h1, inn_id h2 h3, inn_id hl (by omega), inn_id (n := 0) (by omega) (by omega)]
  generalize inn (po + more) = hi at *
  unfold apart ring
  omega
set_option maxHeartbeats 1000000 in
theorem walk0 (a0 a1 a2 a3 a4 : Int) (w : World) :
    Calls Try.prog 4 #[.agg #[.int .i64 a0, .int .i64 a1, .int .i64 a2, .int .i64 a3, .int .i64 a4]] w fun e w' => e = .returned (.bool true) ∧ Below w.heap.size w w' := by
  obtain ⟨h00, h01⟩ := inn_bd a0
  obtain ⟨h10, h11⟩ := inn_bd a1
  obtain ⟨h20, h21⟩ := inn_bd a2
  obtain ⟨h30, h31⟩ := inn_bd a3
  obtain ⟨h40, h41⟩ := inn_bd a4
  by_cases t1 : inn a1 + inn a2 < inn a0
  · go_enter Try.func4, Try.ntmps4
    go_wp2
    go_quiet ((go_at_call 6; exact quiet0 (in_any _ _)))
    go_wp2
    go_quiet ((go_at_call 6; exact quietA (in_any _ _)))
    go_wp2_with (go_at_call 14; refine (lives_any _).mono ?_; rintro e w' ⟨rfl, rfl⟩)
    go_ret
    exact ⟨rfl, below_drewN ((Below.refl _ _).alloc (Nat.le_refl _) _) _⟩
  by_cases t2 : inn a0 + inn a2 < inn a1
  · go_enter Try.func4, Try.ntmps4
    go_wp2
    go_quiet ((go_at_call 6; exact quiet0 (in_any _ _)))
    go_wp2
    go_quiet ((go_at_call 6; exact quietA (in_any _ _)))
    go_wp2_with (go_at_call 14; refine (lives_any _).mono ?_; rintro e w' ⟨rfl, rfl⟩)
    go_ret
    exact ⟨rfl, below_drewN ((Below.refl _ _).alloc (Nat.le_refl _) _) _⟩
  by_cases t3 : inn a0 + inn a1 < inn a2
  · go_enter Try.func4, Try.ntmps4
    go_wp2
    go_quiet ((go_at_call 6; exact quiet0 (in_any _ _)))
    go_wp2
    go_quiet ((go_at_call 6; exact quietA (in_any _ _)))
    go_wp2_with (go_at_call 14; refine (lives_any _).mono ?_; rintro e w' ⟨rfl, rfl⟩)
    go_ret
    exact ⟨rfl, below_drewN ((Below.refl _ _).alloc (Nat.le_refl _) _) _⟩
  by_cases hl : inn a1 - inn a3 < 0
  · obtain ⟨f1, f2, f3, f4, f5, f6, f7⟩ := facts (inn a0) (inn a1) (inn a2) (inn a3) (inn a4) 0 h00 h01 h10 h11 h20 h21 h30 h40 (by omega) (by omega) (by omega) (by omega) (by omega)
    go_enter Try.func4, Try.ntmps4
    go_wp2
    go_quiet ((go_at_call 6; exact quiet0 (in_any _ _)))
    go_wp2
    go_quiet ((go_at_call 6; exact quietA (in_any _ _)))
    go_wp2_with (first
      | (go_at_call 7; refine (apart_any _ _ _).mono ?_; rintro e w' ⟨rfl, rfl⟩)
      | (go_at_call 9; refine (sum_any _ _ _).mono ?_; rintro e w' ⟨rfl, rfl⟩)
      | (go_at_call 10; refine (ring_any _ _ _ _).mono ?_; rintro e w' ⟨rfl, rfl⟩)
      | (go_at_call 12; refine (ball_any _ _ _).mono ?_; rintro e w' ⟨rfl, rfl⟩)
      | (go_at_call 14; refine (lives_any _).mono ?_; rintro e w' ⟨rfl, rfl⟩))
    go_ret
    exact ⟨rfl, below_drewN ((Below.refl _ _).alloc (Nat.le_refl _) _) _⟩
  · obtain ⟨f1, f2, f3, f4, f5, f6, f7⟩ := facts (inn a0) (inn a1) (inn a2) (inn a3) (inn a4) (inn a1 - inn a3) h00 h01 h10 h11 h20 h21 h30 h40 (by omega) (by omega) (by omega) (by omega) (by omega)
    go_enter Try.func4, Try.ntmps4
    go_wp2
    go_quiet ((go_at_call 6; exact quiet0 (in_any _ _)))
    go_wp2
    go_quiet ((go_at_call 6; exact quietA (in_any _ _)))
    go_wp2_with (first
      | (go_at_call 7; refine (apart_any _ _ _).mono ?_; rintro e w' ⟨rfl, rfl⟩)
      | (go_at_call 9; refine (sum_any _ _ _).mono ?_; rintro e w' ⟨rfl, rfl⟩)
      | (go_at_call 10; refine (ring_any _ _ _ _).mono ?_; rintro e w' ⟨rfl, rfl⟩)
      | (go_at_call 12; refine (ball_any _ _ _).mono ?_; rintro e w' ⟨rfl, rfl⟩)
      | (go_at_call 14; refine (lives_any _).mono ?_; rintro e w' ⟨rfl, rfl⟩))
    go_ret
    exact ⟨rfl, below_drewN ((Below.refl _ _).alloc (Nat.le_refl _) _) _⟩

theorem lifted (os : Os) (started : os.Started) (H : Type) (enc : TypeId × Value → H) :
    ReturnsInHanded {} Try.checked os 4 .any (Rows.boundHoldsSpec.pre6 enc Try.prog Try.f4 Rows.boundHoldsRow.domain false) (Rows.boundHoldsSpec.post enc Try.prog Try.f4 false true false false) := by
  refine lift (C := Try.checked) (by kernel_rfl) started (by kernel_rfl) Try.func4 rfl (by kernel_rfl) (by kernel_rfl) rfl Try.underlying4
    (fun ds hd => by match ds, hd with | [_], _ => exact ⟨rfl, rfl, rfl⟩)
    (ChangeSpec.witness6 (enc := enc) (C := Try.checked) false ⟨#[], #[.agg #[.int .i64 0, .int .i64 0, .int .i64 0, .int .i64 0, .int .i64 0]], []⟩ 8 (by kernel_rfl) (by kernel_rfl) (by kernel_rfl) (by kernel_rfl)) ?_
  intro W base args ds before hval0 hA0 hfz hsz
  have hval : ∀ (j : Nat) t v, Try.f4.params[j]? = some t → args[j]? = some v → Value.okWide Try.prog W .any base t v := hval0
  have hA : DataW.TrodAll enc Try.prog W 0 (fun _ => true) true Try.f4.params.toList args.toList ds before := hA0
  rw [Try.params4] at hA hval
  obtain ⟨v0, vs0, d0, ds0, p0, q0, hargs, rfl, rfl, h0, r0⟩ := trodAll_cons hA
  obtain ⟨rfl, rfl, rfl⟩ := trodAll_nil r0
  obtain rfl : args = #[v0] := by cases args; simp_all
  obtain ⟨a0, a1, a2, a3, a4, rfl⟩ := open_five Try.underlying31 (by kernel_rfl) (by kernel_rfl) (hval 0 31 v0 rfl rfl) h0 Try.underlying3 Try.underlying3 Try.underlying3 Try.underlying3 Try.underlying3
  exact walk0 a0 a1 a2 a3 a4 W

theorem proved : Rows.BoundHoldsSaid :=
  OpenClaim.holds_of_wide 4 Try.f4 rfl rfl rfl rfl rfl rfl rfl ⟨rfl, rfl, rfl, rfl, rfl⟩ rfl rfl rfl rfl rfl (by kernel_rfl) Try.func4 (by kernel_rfl)
    (of_decide_eq_true (by kernel_rfl)) (by unfold Func.isWrapper; first | (rw [if_pos (by decide +kernel)]; kernel_rfl) | (rw [if_neg (by decide +kernel)]; exact ⟨rfl, rfl⟩))
    (fun os started H enc _ => lifted os started H enc)
#print axioms proved
end Go.Proofs.Ytfonbiknmhgelaa.boundHolds
