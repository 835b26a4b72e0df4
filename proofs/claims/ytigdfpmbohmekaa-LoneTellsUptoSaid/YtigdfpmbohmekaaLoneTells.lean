/-
  For all vectors and bounds of small bulk the law LoneTells returns true, and changes nothing that there was. Condition: the arguments together are of bulk at most 1048576.
-/
import Derived.Test.YtigdfpmbohmekaaRDist
import Derived.JoinedCond
namespace Go.Proofs.Ytigdfpmbohmekaa.loneTells
open Go.RowKit law bytes dist lone
open Go.ChangeShapes Go.WideShapes Go.ChangeAt
set_option linter.unusedVariables false

/-- the calls of the law, each in every world that left what there was -/
def Told (f : FuncId) (args : Array Value) (v : Value) (w : World) : Prop := ∀ W, Below w.heap.size w W → Calls Try.prog f args W fun e w' => e = .returned v ∧ Below w.heap.size w w'
theorem told {f : FuncId} {args : Array Value} {v : Value} {w : World} (h : ∀ W, Below w.heap.size w W → Calls Try.prog f args W (Gives v W)) : Told f args v w := fun W hW =>
  (h W hW).mono fun e w' ⟨he, h2⟩ => ⟨he, hW.trans (h2.mono hW.size)⟩
theorem to {w W : World} {A : Option Addr} {xs : List Value} (s : Sl w w.heap.size A xs) (h : Below w.heap.size w W) : Sl W W.heap.size A xs := (s.below h).more h.size

set_option maxHeartbeats 1600000 in
theorem walk (A1 A2 : Option Addr) (c1 c2 : Nat) (a b : List Int) (ha : Bd a) (hb : Bd b) (hla : a.length ≤ 1048576) (hlb : b.length ≤ 1048576) (most : Int) (w : World) (s1 : Sl w w.heap.size A1 (iv a)) (s2 : Sl w w.heap.size A2 (iv b)) :
    Calls Try.prog 3 #[.slice A1 a.length c1, .slice A2 b.length c2, .int .i64 most] w fun e w' => e = .returned (.bool true) ∧ Below w.heap.size w w' := by
  have h0 : (0 : Nat) ≤ 1048576 := by omega
  have g1 : Told 5 #[.slice A1 a.length c1, .slice A2 b.length c2] (.int .i64 (D a b)) w := told fun W hW => rdist_any A1 A2 c1 c2 a b ha hb hla hlb W (to s1 hW) (to s2 hW)
  have g2 : Told 6 #[.slice A1 a.length c1, .slice A2 b.length c2, .int .i64 most] (.tuple #[.int .i64 (if D a b ≤ most then D a b else 0), .bool (decide (D a b ≤ most))]) w := told fun W hW => upto_any A1 A2 c1 c2 a b ha hb hla hlb most W (to s1 hW) (to s2 hW)
  have g3 : Told 5 #[.slice A1 a.length c1, .slice none 0 0] (.int .i64 (D a [])) w := told fun W hW => rdist_any A1 none c1 0 a [] ha Bd_nil hla h0 W (to s1 hW) Sl.nil
  have g4 : Told 5 #[.slice A2 b.length c2, .slice none 0 0] (.int .i64 (D b [])) w := told fun W hW => rdist_any A2 none c2 0 b [] hb Bd_nil hlb h0 W (to s2 hW) Sl.nil
  have g5 : Told 7 #[.slice A1 a.length c1, .slice A2 b.length c2] (.int .i64 (D a b)) w := told fun W hW => dist_any A1 A2 c1 c2 a b ha hb hla hlb W (to s1 hW) (to s2 hW)
  have g6 : Told 8 #[.slice A1 a.length c1] (.int .i64 (D a [])) w := told fun W hW => norm_any A1 c1 a ha hla W (to s1 hW)
  have g7 : Told 9 #[.slice A1 a.length c1, .slice A2 b.length c2] (.int .i64 (gp (D a []) (D b []))) w := told fun W hW => least_any A1 A2 c1 c2 a b ha hb hla hlb W (to s1 hW) (to s2 hW)
  have g8 : Told 10 #[] (.bool true) w := told fun W hW => lives_any W
  have hd1 := D_small ha Bd_nil hla h0
  have hd2 := D_small hb Bd_nil hlb h0
  have hd3 := D_nonneg a []
  have hd4 := D_nonneg b []
  clear s1 s2 ha hb hla hlb h0
  generalize D a b = d at g1 g2 g5
  generalize D a [] = x at g3 g6 g7 hd1 hd3
  generalize D b [] = y at g4 g7 hd2 hd4
  have hw : wrap64 (x - y) = x - y := w64 _ (by omega)
  have hw' : wrap64 (-(x - y)) = y - x := by rw [w64 _ (by omega)]; omega
  have H1 := Lib.hid g1
  have H3 := Lib.hid g3
  have H4 := Lib.hid g4
  have H5 := Lib.hid g5
  have H6 := Lib.hid g6
  have H8 := Lib.hid g8
  clear g1 g3 g4 g5 g6 g8
  have hB0 := Below.refl w.heap.size w
  have HB0 := Lib.hid hB0
  clear hB0
  by_cases hm : d ≤ most
  · rw [if_pos hm, decide_eq_true hm] at g2
    have H2 := Lib.hid g2
    clear g2
    by_cases hle : y ≤ x
    · rw [gp_pos hle] at g7
      have H7 := Lib.hid g7
      clear g7
      go_enter Try.func3, Try.ntmps3
      go_wp2_with (fail)
      refine (H1.out _ HB0.out).mono ?_
      rintro e w1 ⟨rfl, hb1⟩
      go_wp2_with (fail)
      refine (H2.out _ hb1).mono ?_
      rintro e w2 ⟨rfl, hb2⟩
      go_wp2_with (fail)
      refine (H3.out _ hb2).mono ?_
      rintro e w3 ⟨rfl, hb3⟩
      go_wp2_with (fail)
      refine (H4.out _ hb3).mono ?_
      rintro e w4 ⟨rfl, hb4⟩
      go_wp2_with (fail)
      refine (H5.out _ hb4).mono ?_
      rintro e w5 ⟨rfl, hb5⟩
      go_wp2_with (fail)
      refine (H6.out _ hb5).mono ?_
      rintro e w6 ⟨rfl, hb6⟩
      go_wp2_with (fail)
      refine (H3.out _ hb6).mono ?_
      rintro e w7 ⟨rfl, hb7⟩
      go_wp2_with (fail)
      refine (H7.out _ hb7).mono ?_
      rintro e w8 ⟨rfl, hb8⟩
      go_wp2_with (fail)
      refine (H8.out _ hb8).mono ?_
      rintro e w9 ⟨rfl, hb9⟩
      go_wp2_with (fail)
      go_ret
      exact ⟨rfl, hb9⟩
    · rw [gp_neg (by omega)] at g7
      have H7 := Lib.hid g7
      clear g7
      go_enter Try.func3, Try.ntmps3
      go_wp2_with (fail)
      refine (H1.out _ HB0.out).mono ?_
      rintro e w1 ⟨rfl, hb1⟩
      go_wp2_with (fail)
      refine (H2.out _ hb1).mono ?_
      rintro e w2 ⟨rfl, hb2⟩
      go_wp2_with (fail)
      refine (H3.out _ hb2).mono ?_
      rintro e w3 ⟨rfl, hb3⟩
      go_wp2_with (fail)
      refine (H4.out _ hb3).mono ?_
      rintro e w4 ⟨rfl, hb4⟩
      go_wp2_with (fail)
      refine (H5.out _ hb4).mono ?_
      rintro e w5 ⟨rfl, hb5⟩
      go_wp2_with (fail)
      refine (H6.out _ hb5).mono ?_
      rintro e w6 ⟨rfl, hb6⟩
      go_wp2_with (fail)
      refine (H3.out _ hb6).mono ?_
      rintro e w7 ⟨rfl, hb7⟩
      go_wp2_with (fail)
      refine (H7.out _ hb7).mono ?_
      rintro e w8 ⟨rfl, hb8⟩
      go_wp2_with (fail)
      refine (H8.out _ hb8).mono ?_
      rintro e w9 ⟨rfl, hb9⟩
      go_wp2_with (fail)
      go_ret
      exact ⟨rfl, hb9⟩
  · rw [if_neg hm, decide_eq_false hm] at g2
    have H2 := Lib.hid g2
    clear g2
    by_cases hle : y ≤ x
    · rw [gp_pos hle] at g7
      have H7 := Lib.hid g7
      clear g7
      go_enter Try.func3, Try.ntmps3
      go_wp2_with (fail)
      refine (H1.out _ HB0.out).mono ?_
      rintro e w1 ⟨rfl, hb1⟩
      go_wp2_with (fail)
      refine (H2.out _ hb1).mono ?_
      rintro e w2 ⟨rfl, hb2⟩
      go_wp2_with (fail)
      refine (H3.out _ hb2).mono ?_
      rintro e w3 ⟨rfl, hb3⟩
      go_wp2_with (fail)
      refine (H4.out _ hb3).mono ?_
      rintro e w4 ⟨rfl, hb4⟩
      go_wp2_with (fail)
      refine (H5.out _ hb4).mono ?_
      rintro e w5 ⟨rfl, hb5⟩
      go_wp2_with (fail)
      refine (H6.out _ hb5).mono ?_
      rintro e w6 ⟨rfl, hb6⟩
      go_wp2_with (fail)
      refine (H3.out _ hb6).mono ?_
      rintro e w7 ⟨rfl, hb7⟩
      go_wp2_with (fail)
      refine (H7.out _ hb7).mono ?_
      rintro e w8 ⟨rfl, hb8⟩
      go_wp2_with (fail)
      refine (H8.out _ hb8).mono ?_
      rintro e w9 ⟨rfl, hb9⟩
      go_wp2_with (fail)
      go_ret
      exact ⟨rfl, hb9⟩
    · rw [gp_neg (by omega)] at g7
      have H7 := Lib.hid g7
      clear g7
      go_enter Try.func3, Try.ntmps3
      go_wp2_with (fail)
      refine (H1.out _ HB0.out).mono ?_
      rintro e w1 ⟨rfl, hb1⟩
      go_wp2_with (fail)
      refine (H2.out _ hb1).mono ?_
      rintro e w2 ⟨rfl, hb2⟩
      go_wp2_with (fail)
      refine (H3.out _ hb2).mono ?_
      rintro e w3 ⟨rfl, hb3⟩
      go_wp2_with (fail)
      refine (H4.out _ hb3).mono ?_
      rintro e w4 ⟨rfl, hb4⟩
      go_wp2_with (fail)
      refine (H5.out _ hb4).mono ?_
      rintro e w5 ⟨rfl, hb5⟩
      go_wp2_with (fail)
      refine (H6.out _ hb5).mono ?_
      rintro e w6 ⟨rfl, hb6⟩
      go_wp2_with (fail)
      refine (H3.out _ hb6).mono ?_
      rintro e w7 ⟨rfl, hb7⟩
      go_wp2_with (fail)
      refine (H7.out _ hb7).mono ?_
      rintro e w8 ⟨rfl, hb8⟩
      go_wp2_with (fail)
      refine (H8.out _ hb8).mono ?_
      rintro e w9 ⟨rfl, hb9⟩
      go_wp2_with (fail)
      go_ret
      exact ⟨rfl, hb9⟩
theorem lifted (os : Os) (started : os.Started) (H : Type) (enc : TypeId × Value → H) (F : Stop.Interp) :
    ReturnsInHanded {} Try.checked os 3 .any ((Rows.OpenSpec.upto Rows.loneTellsSpec).pre6 enc Try.prog Try.f3 Rows.loneTellsUptoRow.domain false) (((Rows.OpenSpec.upto Rows.loneTellsSpec).at F).post enc Try.prog Try.f3 false true false false) := by
  refine lift_upto (C := Try.checked) (by kernel_rfl) started (by kernel_rfl) Try.func3 rfl (by kernel_rfl) (by kernel_rfl) rfl Try.underlying4
    (fun ds hd => by match ds, hd with | [_, _, _], _ => exact ⟨rfl, rfl, rfl⟩)
    (OpenSpec.witness (enc := enc) (C := Try.checked) (s := Rows.OpenSpec.upto Rows.loneTellsSpec) (k := Rows.uptoSmall) rfl false ⟨#[], #[.slice none 0 0, .slice none 0 0, .int .i64 0], []⟩ 8 (by kernel_rfl) (by kernel_rfl) (by kernel_rfl)
      (x := ([.nil, .nil, .lit (.int .i64 0)], [], [])) (by kernel_rfl) rfl (by kernel_rfl)) ?_
  intro W base args ds before hval0 hA0 hfz hk
  have hval : ∀ (j : Nat) t v, Try.f3.params[j]? = some t → args[j]? = some v → Value.okWide Try.prog W .any base t v := hval0
  have hA : DataW.TrodAll enc Try.prog W 0 (fun _ => true) true Try.f3.params.toList args.toList ds before := hA0
  rw [Try.params3] at hA hval
  obtain ⟨v0, vs0, d0, ds0, p0, q0, hargs, rfl, rfl, h0, r0⟩ := trodAll_cons hA
  obtain ⟨v1, vs1, d1, ds1, p1, q1, rfl, rfl, rfl, h1, r1⟩ := trodAll_cons r0
  obtain ⟨v2, vs2, d2, ds2, p2, q2, rfl, rfl, rfl, h2, r2⟩ := trodAll_cons r1
  obtain ⟨rfl, rfl, rfl⟩ := trodAll_nil r2
  obtain rfl : args = #[v0, v1, v2] := by cases args; simp_all
  obtain ⟨A0, k0, a, rfl, hc0, s0, ha, e0⟩ := open_nums Try.underlying22 Try.underlying21 (by kernel_rfl) (hval 0 22 v0 rfl rfl) h0
  obtain ⟨A1, k1, b, rfl, hc1, s1, hb, e1⟩ := open_nums Try.underlying22 Try.underlying21 (by kernel_rfl) (hval 1 22 v1 rfl rfl) h1
  obtain ⟨m, rfl⟩ := okWide_int Try.underlying3 (hval 2 3 v2 rfl rfl)
  have hb0 := nums_bulk e0
  have hb1 := nums_bulk e1
  simp only [Rows.uptoBulkAll] at hk
  exact walk A0 A1 k0 k1 a b ha hb (by omega) (by omega) m W s0 s1

theorem proved : Rows.LoneTellsUptoSaid :=
  OpenClaim.holds_of_cond 3 Try.f3 rfl rfl rfl rfl rfl rfl rfl ⟨rfl, rfl, rfl, rfl, rfl⟩ rfl rfl rfl rfl rfl (by kernel_rfl) Try.func3 (by kernel_rfl)
    (of_decide_eq_true (by kernel_rfl)) (by unfold Func.isWrapper; first | (rw [if_pos (by decide +kernel)]; kernel_rfl) | (rw [if_neg (by decide +kernel)]; exact ⟨rfl, rfl⟩))
    (fun os started H enc _ F => lifted os started H enc F)
#print axioms proved
end Go.Proofs.Ytigdfpmbohmekaa.loneTells
