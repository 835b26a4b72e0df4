/-
  For all vectors of small bulk the law LoneMetric returns true, and changes nothing that there was. Condition: the arguments together are of bulk at most 1048576.
-/
import Derived.Test.YtigdfpmbohmekaaRDist
import Derived.JoinedCond
namespace Go.Proofs.Ytigdfpmbohmekaa.loneMetric
open Go.RowKit law bytes dist lone
open Go.ChangeShapes Go.WideShapes Go.ChangeAt
set_option linter.unusedVariables false

/-- the calls of the law, each in every world that left what there was -/
def Told (f : FuncId) (args : Array Value) (v : Value) (w : World) : Prop := ∀ W, Below w.heap.size w W → Calls Try.prog f args W fun e w' => e = .returned v ∧ Below w.heap.size w w'
theorem told {f : FuncId} {args : Array Value} {v : Value} {w : World} (h : ∀ W, Below w.heap.size w W → Calls Try.prog f args W (Gives v W)) : Told f args v w := fun W hW =>
  (h W hW).mono fun e w' ⟨he, h2⟩ => ⟨he, hW.trans (h2.mono hW.size)⟩
theorem to {w W : World} {A : Option Addr} {xs : List Value} (s : Sl w w.heap.size A xs) (h : Below w.heap.size w W) : Sl W W.heap.size A xs := (s.below h).more h.size
/-- are the first k places the same -/
def smk (l m : List Int) : Nat → Bool
  | 0 => true
  | k + 1 => smk l m k && decide (nm l k = nm m k)
theorem smk_succ (l m : List Int) (k : Nat) : smk l m (k + 1) = (smk l m k && decide (nm l k = nm m k)) := rfl
theorem smk_dk (l m : List Int) (k : Nat) : smk l m k = decide (dk l m k = 0) := by
  induction k with
  | zero => rfl
  | succ k ih =>
    have h1 := dk_nonneg l m k
    have h2 := gp_nonneg (nm l k) (nm m k)
    have h3 := gp_zero (nm l k) (nm m k)
    rw [smk_succ, ih, dk_succ]
    by_cases e1 : dk l m k = 0
    · by_cases e2 : nm l k = nm m k
      · rw [decide_eq_true e1, decide_eq_true e2, decide_eq_true (by have := h3.2 e2; omega)]; rfl
      · rw [decide_eq_true e1, decide_eq_false e2, decide_eq_false (fun h => e2 (h3.1 (by omega)))]; rfl
    · rw [decide_eq_false e1, decide_eq_false (by omega : ¬ dk l m k + gp (nm l k) (nm m k) = 0)]; rfl

set_option maxHeartbeats 3200000 in
theorem walk (A1 A2 A3 : Option Addr) (c1 c2 c3 : Nat) (a b c : List Int) (ha : Bd a) (hb : Bd b) (hc : Bd c) (hla : a.length ≤ 1048576) (hlb : b.length ≤ 1048576) (hlc : c.length ≤ 1048576) (w : World)
    (s1 : Sl w w.heap.size A1 (iv a)) (s2 : Sl w w.heap.size A2 (iv b)) (s3 : Sl w w.heap.size A3 (iv c)) :
    Calls Try.prog 4 #[.slice A1 a.length c1, .slice A2 b.length c2, .slice A3 c.length c3] w fun e w' => e = .returned (.bool true) ∧ Below w.heap.size w w' := by
  have g1 : Told 7 #[.slice A1 a.length c1, .slice A2 b.length c2] (.int .i64 (D a b)) w := told fun W hW => dist_any A1 A2 c1 c2 a b ha hb hla hlb W (to s1 hW) (to s2 hW)
  have g2 : Told 7 #[.slice A2 b.length c2, .slice A1 a.length c1] (.int .i64 (D a b)) w := by
    rw [D_symm a b]
    exact told fun W hW => dist_any A2 A1 c2 c1 b a hb ha hlb hla W (to s2 hW) (to s1 hW)
  have g3 : Told 7 #[.slice A1 a.length c1, .slice A3 c.length c3] (.int .i64 (D a c)) w := told fun W hW => dist_any A1 A3 c1 c3 a c ha hc hla hlc W (to s1 hW) (to s3 hW)
  have g4 : Told 7 #[.slice A3 c.length c3, .slice A2 b.length c2] (.int .i64 (D c b)) w := told fun W hW => dist_any A3 A2 c3 c2 c b hc hb hlc hlb W (to s3 hW) (to s2 hW)
  have g5 : Told 9 #[.slice A1 a.length c1, .slice A2 b.length c2] (.int .i64 (gp (D a []) (D b []))) w := told fun W hW => least_any A1 A2 c1 c2 a b ha hb hla hlb W (to s1 hW) (to s2 hW)
  have g6 : Told 10 #[] (.bool true) w := told fun W hW => lives_any W
  have hz := D_nonneg a b
  have ht := D_tri a b c
  have hl := D_least a b
  have hd1 := D_small ha hc hla hlc
  have hd2 := D_small hc hb hlc hlb
  have hd3 := D_nonneg a c
  have hd4 := D_nonneg c b
  have hw : wrap64 (D a c + D c b) = D a c + D c b := w64 _ (by omega)
  have hsm := smk_dk a b (mx a b)
  rw [show dk a b (mx a b) = D a b from rfl] at hsm
  have hm1 : a.length ≤ mx a b := by unfold mx; omega
  have hm2 : b.length ≤ mx a b := by unfold mx; omega
  have hm4 : mx a b ≤ a.length ∨ mx a b ≤ b.length := by unfold mx; omega
  clear hc hlc s3
  generalize mx a b = N at hm1 hm2 hm4 hsm
  generalize gp (D a []) (D b []) = y at g5 hl
  generalize D a b = d at g1 g2 hz ht hl hsm
  generalize D a c = d2 at g3 ht hd1 hd3 hw
  generalize D c b = d3 at g4 ht hd2 hd4 hw
  have H1 := Lib.hid g1
  have H2 := Lib.hid g2
  have H3 := Lib.hid g3
  have H4 := Lib.hid g4
  have H5 := Lib.hid g5
  have H6 := Lib.hid g6
  clear g1 g2 g3 g4 g5 g6
  have HS := Lib.hid hsm
  have S1 := Lib.hid s1
  have S2 := Lib.hid s2
  clear hsm s1 s2
  have hB0 := Below.refl w.heap.size w
  have HB0 := Lib.hid hB0
  clear hB0
  go_enter Try.func4, Try.ntmps4
  go_wp2_with (fail)
  go_loop [7, 8] (fun s i => ∃ k : Nat, k ≤ N ∧ i = .int .i64 k ∧ s = .bool (smk a b k)) (fun _ i => N - (intOf i).toNat)
  case atStart => exact ⟨0, Nat.zero_le _, rfl, rfl⟩
  case round =>
    obtain ⟨k, hk, rfl, rfl⟩ := hrel
    have HN := Lib.hid (smk_succ a b k)
    by_cases hka : k < a.length
    · obtain ⟨ad1, e1, _, q1⟩ := Sl.nm S1.out hka
      subst e1
      by_cases hkb : k < b.length
      · obtain ⟨ad2, e2, _, q2⟩ := Sl.nm S2.out hkb
        subst e2
        obtain ⟨s, hs⟩ : ∃ s, s = smk a b k := ⟨_, rfl⟩
        rw [← hs] at HN ⊢
        clear hs
        cases s
        · go_wp2_with (fail)
          go_round
          case rel => exact ⟨k + 1, by omega, by go_num, by rw [HN.out]; rfl⟩
          case measure => simp [intOf]; omega
        · by_cases hxy : nm a k = nm b k
          · rw [decide_eq_true hxy] at HN
            have d : (nm a k == nm b k) = true := by rw [beq_iff_eq]; exact hxy
            go_wp2_with (fail)
            go_round
            case rel => exact ⟨k + 1, by omega, by go_num, by rw [HN.out]; rfl⟩
            case measure => simp [intOf]; omega
          · rw [decide_eq_false hxy] at HN
            have d : (nm a k == nm b k) = false := by rw [beq_eq_false_iff_ne]; exact hxy
            go_wp2_with (fail)
            go_round
            case rel => exact ⟨k + 1, by omega, by go_num, by rw [HN.out]; rfl⟩
            case measure => simp [intOf]; omega
      · rw [nm_ge (l := b) (by omega)] at HN
        obtain ⟨s, hs⟩ : ∃ s, s = smk a b k := ⟨_, rfl⟩
        rw [← hs] at HN ⊢
        clear hs
        cases s
        · go_wp2_with (fail)
          go_round
          case rel => exact ⟨k + 1, by omega, by go_num, by rw [HN.out]; rfl⟩
          case measure => simp [intOf]; omega
        · by_cases hxy : nm a k = 0
          · rw [decide_eq_true hxy] at HN
            have d : (nm a k == 0) = true := by rw [beq_iff_eq]; exact hxy
            go_wp2_with (fail)
            go_round
            case rel => exact ⟨k + 1, by omega, by go_num, by rw [HN.out]; rfl⟩
            case measure => simp [intOf]; omega
          · rw [decide_eq_false hxy] at HN
            have d : (nm a k == 0) = false := by rw [beq_eq_false_iff_ne]; exact hxy
            go_wp2_with (fail)
            go_round
            case rel => exact ⟨k + 1, by omega, by go_num, by rw [HN.out]; rfl⟩
            case measure => simp [intOf]; omega
    · by_cases hkb : k < b.length
      · obtain ⟨ad2, e2, _, q2⟩ := Sl.nm S2.out hkb
        subst e2
        rw [nm_ge (l := a) (by omega)] at HN
        obtain ⟨s, hs⟩ : ∃ s, s = smk a b k := ⟨_, rfl⟩
        rw [← hs] at HN ⊢
        clear hs
        cases s
        · go_wp2_with (fail)
          go_round
          case rel => exact ⟨k + 1, by omega, by go_num, by rw [HN.out]; rfl⟩
          case measure => simp [intOf]; omega
        · by_cases hxy : 0 = nm b k
          · rw [decide_eq_true hxy] at HN
            have d : (0 == nm b k) = true := by rw [beq_iff_eq]; exact hxy
            go_wp2_with (fail)
            go_round
            case rel => exact ⟨k + 1, by omega, by go_num, by rw [HN.out]; rfl⟩
            case measure => simp [intOf]; omega
          · rw [decide_eq_false hxy] at HN
            have d : (0 == nm b k) = false := by rw [beq_eq_false_iff_ne]; exact hxy
            go_wp2_with (fail)
            go_round
            case rel => exact ⟨k + 1, by omega, by go_num, by rw [HN.out]; rfl⟩
            case measure => simp [intOf]; omega
      · obtain rfl : k = N := by omega
        have hq := HS.out
        by_cases hd0 : d = 0
        · rw [hq, decide_eq_true hd0]
          have d0 : (d == 0) = true := by rw [beq_iff_eq]; exact hd0
          clear hq
          go_wp2_with (fail)
          refine (H1.out _ HB0.out).mono ?_
          rintro e w1 ⟨rfl, hb1⟩
          go_wp2_with (fail)
          refine (H2.out _ hb1).mono ?_
          rintro e w2 ⟨rfl, hb2⟩
          go_wp2_with (fail)
          refine (H3.out _ hb2).mono ?_
          rintro e w3 ⟨rfl, hb3⟩
          go_wp2_with (fail)
          refine (H4.out _ hb3).mono ?_
          rintro e w4 ⟨rfl, hb4⟩
          go_wp2_with (fail)
          refine (H5.out _ hb4).mono ?_
          rintro e w5 ⟨rfl, hb5⟩
          go_wp2_with (fail)
          refine (H6.out _ hb5).mono ?_
          rintro e w6 ⟨rfl, hb6⟩
          go_wp2_with (fail)
          go_ret
          exact ⟨rfl, hb6⟩
        · rw [hq, decide_eq_false hd0]
          have d0 : (d == 0) = false := by rw [beq_eq_false_iff_ne]; exact hd0
          clear hq
          go_wp2_with (fail)
          refine (H1.out _ HB0.out).mono ?_
          rintro e w1 ⟨rfl, hb1⟩
          go_wp2_with (fail)
          refine (H2.out _ hb1).mono ?_
          rintro e w2 ⟨rfl, hb2⟩
          go_wp2_with (fail)
          refine (H3.out _ hb2).mono ?_
          rintro e w3 ⟨rfl, hb3⟩
          go_wp2_with (fail)
          refine (H4.out _ hb3).mono ?_
          rintro e w4 ⟨rfl, hb4⟩
          go_wp2_with (fail)
          refine (H5.out _ hb4).mono ?_
          rintro e w5 ⟨rfl, hb5⟩
          go_wp2_with (fail)
          refine (H6.out _ hb5).mono ?_
          rintro e w6 ⟨rfl, hb6⟩
          go_wp2_with (fail)
          go_ret
          exact ⟨rfl, hb6⟩
theorem lifted (os : Os) (started : os.Started) (H : Type) (enc : TypeId × Value → H) (F : Stop.Interp) :
    ReturnsInHanded {} Try.checked os 4 .any ((Rows.OpenSpec.upto Rows.loneMetricSpec).pre6 enc Try.prog Try.f4 Rows.loneMetricUptoRow.domain false) (((Rows.OpenSpec.upto Rows.loneMetricSpec).at F).post enc Try.prog Try.f4 false true false false) := by
  refine lift_upto (C := Try.checked) (by kernel_rfl) started (by kernel_rfl) Try.func4 rfl (by kernel_rfl) (by kernel_rfl) rfl Try.underlying4
    (fun ds hd => by match ds, hd with | [_, _, _], _ => exact ⟨rfl, rfl, rfl⟩)
    (OpenSpec.witness (enc := enc) (C := Try.checked) (s := Rows.OpenSpec.upto Rows.loneMetricSpec) (k := Rows.uptoSmall) rfl false ⟨#[], #[.slice none 0 0, .slice none 0 0, .slice none 0 0], []⟩ 8 (by kernel_rfl) (by kernel_rfl) (by kernel_rfl)
      (x := ([.nil, .nil, .nil], [], [])) (by kernel_rfl) rfl (by kernel_rfl)) ?_
  intro W base args ds before hval0 hA0 hfz hk
  have hval : ∀ (j : Nat) t v, Try.f4.params[j]? = some t → args[j]? = some v → Value.okWide Try.prog W .any base t v := hval0
  have hA : DataW.TrodAll enc Try.prog W 0 (fun _ => true) true Try.f4.params.toList args.toList ds before := hA0
  rw [Try.params4] at hA hval
  obtain ⟨v0, vs0, d0, ds0, p0, q0, hargs, rfl, rfl, h0, r0⟩ := trodAll_cons hA
  obtain ⟨v1, vs1, d1, ds1, p1, q1, rfl, rfl, rfl, h1, r1⟩ := trodAll_cons r0
  obtain ⟨v2, vs2, d2, ds2, p2, q2, rfl, rfl, rfl, h2, r2⟩ := trodAll_cons r1
  obtain ⟨rfl, rfl, rfl⟩ := trodAll_nil r2
  obtain rfl : args = #[v0, v1, v2] := by cases args; simp_all
  obtain ⟨A0, k0, a, rfl, hc0, s0, ha, e0⟩ := open_nums Try.underlying22 Try.underlying21 (by kernel_rfl) (hval 0 22 v0 rfl rfl) h0
  obtain ⟨A1, k1, b, rfl, hc1, s1, hb, e1⟩ := open_nums Try.underlying22 Try.underlying21 (by kernel_rfl) (hval 1 22 v1 rfl rfl) h1
  obtain ⟨A2, k2, c, rfl, hc2, s2, hc, e2⟩ := open_nums Try.underlying22 Try.underlying21 (by kernel_rfl) (hval 2 22 v2 rfl rfl) h2
  have hb0 := nums_bulk e0
  have hb1 := nums_bulk e1
  have hb2 := nums_bulk e2
  simp only [Rows.uptoBulkAll] at hk
  exact walk A0 A1 A2 k0 k1 k2 a b c ha hb hc (by omega) (by omega) (by omega) W s0 s1 s2

theorem proved : Rows.LoneMetricUptoSaid :=
  OpenClaim.holds_of_cond 4 Try.f4 rfl rfl rfl rfl rfl rfl rfl ⟨rfl, rfl, rfl, rfl, rfl⟩ rfl rfl rfl rfl rfl (by kernel_rfl) Try.func4 (by kernel_rfl)
    (of_decide_eq_true (by kernel_rfl)) (by unfold Func.isWrapper; first | (rw [if_pos (by decide +kernel)]; kernel_rfl) | (rw [if_neg (by decide +kernel)]; exact ⟨rfl, rfl⟩))
    (fun os started H enc _ F => lifted os started H enc F)
#print axioms proved
end Go.Proofs.Ytigdfpmbohmekaa.loneMetric
