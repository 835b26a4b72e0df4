/-
  For all texts and bounds of small bulk the law HamTells returns true, and changes nothing that there was. Condition: the arguments together are of bulk at most 1048576.
-/
import Derived.Test.YtefpaaklppmkhaaHamS
import Derived.JoinedCond
namespace Go.Proofs.Ytefpaaklppmkhaa.hamTells
open Go.RowKit law bytes ham
open Go.ChangeShapes Go.WideShapes Go.ChangeAt
open Go.ChangeMaps (open_string shut_string)
set_option linter.unusedVariables false

/-- the calls of the law, each in every world that left what there was -/
def Told (f : FuncId) (args : Array Value) (v : Value) (w : World) : Prop := ∀ W, Below w.heap.size w W → Calls Try.prog f args W fun e w' => e = .returned v ∧ Below w.heap.size w w'
theorem told {f : FuncId} {args : Array Value} {v : Value} {w : World} (h : ∀ W, Calls Try.prog f args W (Still v W)) : Told f args v w := fun W hW =>
  (h W).mono fun e w' ⟨he, k, hk⟩ => ⟨he, by rw [hk]; exact below_drewN' hW _⟩

theorem on2 {P : Program} {f : FuncId} {args : Array Value} {v : Value} {V W : World} (hb : Below V.heap.size V W) (h : Calls P f args W (Still v W)) : Calls P f args W fun e w' => e = .returned v ∧ Below W.heap.size W w' ∧ Below V.heap.size V w' :=
  h.mono fun e w' ⟨he, k, hk⟩ => ⟨he, by rw [hk]; exact below_drewN' (Below.refl _ _) _, by rw [hk]; exact below_drewN' hb _⟩

set_option maxHeartbeats 3200000 in
set_option maxRecDepth 100000 in
theorem walk (a b : ByteArray) (ha : a.size ≤ 1048576) (hb : b.size ≤ 1048576) (most : Int) (w : World) :
    Calls Try.prog 3 #[.string a, .string b, .int .i64 most] w fun e w' => e = .returned (.bool true) ∧ Below w.heap.size w w' := by
  have g1 : Told 6 #[.string a, .string b] (.int .i64 (D a b)) w := told fun W => rdist_any a b (by omega) (by omega) W
  have g2 : Told 7 #[.string a, .string b, .int .i64 most] (.tuple #[.int .i64 (if (D a b : Int) ≤ most then (D a b : Int) else 0), .bool (decide ((D a b : Int) ≤ most))]) w := told fun W => upto_any a b (by omega) (by omega) most W
  have g3 := fun W => dist_any a b (by omega) (by omega) W
  have g5 : Told 11 #[] (.bool true) w := told fun W => lives_any W
  have g4 := fun W => places_any a b ha hb W
  have hdl := D_le a b
  have hL : lo a b = min a.size b.size := rfl
  have hd : D a b ≤ 1048576 := by unfold mx at hdl; omega
  clear hdl
  generalize D a b = d at g1 g2 g3 hd
  have H1 := Lib.hid g1
  have H3 := Lib.hid g3
  have H4 := Lib.hid g4
  have H5 := Lib.hid g5
  have HB0 := Lib.hid (Below.refl w.heap.size w)
  clear g1 g3 g4 g5
  by_cases hm : (d : Int) ≤ most
  · rw [if_pos hm, decide_eq_true hm] at g2
    have H2 := Lib.hid g2
    clear g2
    go_enter Try.func3, Try.ntmps3
    go_wp2_with (fail)
    refine (H1.out _ HB0.out).mono ?_
    rintro e w1 ⟨rfl, hb1⟩
    go_wp2_with (fail)
    refine (H2.out _ hb1).mono ?_
    rintro e w2 ⟨rfl, hb2⟩
    clear hb1 H1 H2
    go_wp2_with (fail)
    go_loopg [10, 11] (lo a b) (fun gk v i wr => ∃ (k n c : Nat) (A : Option Addr), k ≤ lo a b ∧ gk = lo a b - k ∧ i = .int .i64 k ∧ v = .slice A n c ∧ n = (pl a b k).length ∧ wr.ownsRow w2.heap.size 3 1 (.slice A n c) n (nv (pl a b k)) ∧ Below w2.heap.size w2 wr)
    case atStart => exact ⟨0, 0, 0, none, Nat.zero_le _, rfl, rfl, rfl, rfl, World.ownsRow_nil _ _ _ _, Below.refl _ _⟩
    case round =>
      obtain ⟨k, n, c, A, hk, rfl, rfl, rfl, hn, hown, hB⟩ := hrel
      have hle := pl_length a b k
      have hnk : n ≤ k := by omega
      have HN1 := Lib.hid hn
      have hsz := hB.size
      clear hn hle
      by_cases h1 : k < a.size
      · by_cases h2 : k < b.size
        · by_cases he : (a[k]'h1).toNat = (b[k]'h2).toNat
          · obtain ⟨q1, q2⟩ := eq_get h1 h2 he
            have hs := df_same h1 h2 he
            have HS := Lib.hid hs
            clear hs he
            go_wp2_with (fail)
            go_quiet (fail)
            go_wp2_with (fail)
            go_roundg (lo a b - (k + 1))
            case measure => omega
            case rel => exact ⟨k + 1, n, c, A, by omega, rfl, by go_num, rfl, by rw [pl_succ, if_pos HS.out]; exact HN1.out, by rw [pl_succ, if_pos HS.out]; exact hown, below_drewN' hB _⟩
          · obtain ⟨q1, q2⟩ := ne_get h1 h2 he
            have hs := df_other h1 h2 he
            have HS : Hid (df a b k ≠ 0) := Lib.hid (by omega)
            clear hs he
            go_wp2_with (fail)
            go_quiet (fail)
            go_wp2_with (at_builtin
                         refine wpList_append_sl _ rfl (.tmp 41) (.tmp 43) _ rfl w2.heap.size 3 _ 8 Try.underlying25 intE (.slice A n c) n (nv (pl a b k)) rfl (World.ownsRow.alloc (w := wr.drewN nq) hown _) _ _ 1 1 [.int .i64 (k : Int)] rfl (Sl.one (wr.drewN nq) _ _) rfl (by simp [Value.oneCell']) (by omega) (by unfold maxLen; omega) (by simp; omega) ?_
                         intro v4 w4 hown4 hg4 hat4
                         obtain ⟨A4, c4, rfl, hc4⟩ := own_slice hown4)
            go_roundg (lo a b - (k + 1))
            case measure => omega
            case rel => exact ⟨k + 1, n + 1, c4, A4, by omega, rfl, by go_num, rfl, by rw [pl_succ, if_neg HS.out, List.length_append, ← HN1.out]; rfl, by rw [pl_succ, if_neg HS.out, nv_append, nv_one]; exact hown4, below_append (below_drewN' hB _) hsz _ hown (Nat.le_refl _) hg4⟩
        · obtain rfl : k = lo a b := by omega
          have hBw := hb2.trans (hB.mono hb2.size)
          have sl := Sl.of_own hown
          have HP4 := Lib.hid HN1.out
          go_wp2_with (fail)
          refine (on2 hBw (H3.out _)).mono ?_
          rintro e w3 ⟨rfl, hc3, hb3⟩
          have sl3 := sl.on hc3
          go_wp2_with (fail)
          refine (H4.out w3).mono ?_
          rintro e w4 ⟨A4, c4, rfl, hown4, hb4⟩
          have sl4 := sl3.on hb4
          have hi := ints_same A4 A _ n c4 c _ _ w4 HN1.out.symm (by omega) (Sl.of_own hown4) sl4
          rw [← HN1.out]
          have HI := Lib.hid hi
          have hB4 := hb3.trans (hb4.mono hb3.size)
          clear hi sl sl3 sl4 hown hown4
          go_wp2_with (fail)
          refine HI.out.mono ?_
          rintro e w5 ⟨rfl, kk, rfl⟩
          go_wp2_with (fail)
          refine (H5.out _ (below_drewN' hB4 _)).mono ?_
          rintro e w6 ⟨rfl, hb6⟩
          go_wp2_with (fail)
          go_ret
          exact ⟨rfl, hb6⟩
      · obtain rfl : k = lo a b := by omega
        have hBw := hb2.trans (hB.mono hb2.size)
        have sl := Sl.of_own hown
        have HP4 := Lib.hid HN1.out
        go_wp2_with (fail)
        refine (on2 hBw (H3.out _)).mono ?_
        rintro e w3 ⟨rfl, hc3, hb3⟩
        have sl3 := sl.on hc3
        go_wp2_with (fail)
        refine (H4.out w3).mono ?_
        rintro e w4 ⟨A4, c4, rfl, hown4, hb4⟩
        have sl4 := sl3.on hb4
        have hi := ints_same A4 A _ n c4 c _ _ w4 HN1.out.symm (by omega) (Sl.of_own hown4) sl4
        rw [← HN1.out]
        have HI := Lib.hid hi
        have hB4 := hb3.trans (hb4.mono hb3.size)
        clear hi sl sl3 sl4 hown hown4
        go_wp2_with (fail)
        refine HI.out.mono ?_
        rintro e w5 ⟨rfl, kk, rfl⟩
        go_wp2_with (fail)
        refine (H5.out _ (below_drewN' hB4 _)).mono ?_
        rintro e w6 ⟨rfl, hb6⟩
        go_wp2_with (fail)
        go_ret
        exact ⟨rfl, hb6⟩
  · rw [if_neg hm, decide_eq_false hm] at g2
    have H2 := Lib.hid g2
    clear g2
    go_enter Try.func3, Try.ntmps3
    go_wp2_with (fail)
    refine (H1.out _ HB0.out).mono ?_
    rintro e w1 ⟨rfl, hb1⟩
    go_wp2_with (fail)
    refine (H2.out _ hb1).mono ?_
    rintro e w2 ⟨rfl, hb2⟩
    clear hb1 H1 H2
    go_wp2_with (fail)
    go_loopg [10, 11] (lo a b) (fun gk v i wr => ∃ (k n c : Nat) (A : Option Addr), k ≤ lo a b ∧ gk = lo a b - k ∧ i = .int .i64 k ∧ v = .slice A n c ∧ n = (pl a b k).length ∧ wr.ownsRow w2.heap.size 3 1 (.slice A n c) n (nv (pl a b k)) ∧ Below w2.heap.size w2 wr)
    case atStart => exact ⟨0, 0, 0, none, Nat.zero_le _, rfl, rfl, rfl, rfl, World.ownsRow_nil _ _ _ _, Below.refl _ _⟩
    case round =>
      obtain ⟨k, n, c, A, hk, rfl, rfl, rfl, hn, hown, hB⟩ := hrel
      have hle := pl_length a b k
      have hnk : n ≤ k := by omega
      have HN1 := Lib.hid hn
      have hsz := hB.size
      clear hn hle
      by_cases h1 : k < a.size
      · by_cases h2 : k < b.size
        · by_cases he : (a[k]'h1).toNat = (b[k]'h2).toNat
          · obtain ⟨q1, q2⟩ := eq_get h1 h2 he
            have hs := df_same h1 h2 he
            have HS := Lib.hid hs
            clear hs he
            go_wp2_with (fail)
            go_quiet (fail)
            go_wp2_with (fail)
            go_roundg (lo a b - (k + 1))
            case measure => omega
            case rel => exact ⟨k + 1, n, c, A, by omega, rfl, by go_num, rfl, by rw [pl_succ, if_pos HS.out]; exact HN1.out, by rw [pl_succ, if_pos HS.out]; exact hown, below_drewN' hB _⟩
          · obtain ⟨q1, q2⟩ := ne_get h1 h2 he
            have hs := df_other h1 h2 he
            have HS : Hid (df a b k ≠ 0) := Lib.hid (by omega)
            clear hs he
            go_wp2_with (fail)
            go_quiet (fail)
            go_wp2_with (at_builtin
                         refine wpList_append_sl _ rfl (.tmp 41) (.tmp 43) _ rfl w2.heap.size 3 _ 8 Try.underlying25 intE (.slice A n c) n (nv (pl a b k)) rfl (World.ownsRow.alloc (w := wr.drewN nq) hown _) _ _ 1 1 [.int .i64 (k : Int)] rfl (Sl.one (wr.drewN nq) _ _) rfl (by simp [Value.oneCell']) (by omega) (by unfold maxLen; omega) (by simp; omega) ?_
                         intro v4 w4 hown4 hg4 hat4
                         obtain ⟨A4, c4, rfl, hc4⟩ := own_slice hown4)
            go_roundg (lo a b - (k + 1))
            case measure => omega
            case rel => exact ⟨k + 1, n + 1, c4, A4, by omega, rfl, by go_num, rfl, by rw [pl_succ, if_neg HS.out, List.length_append, ← HN1.out]; rfl, by rw [pl_succ, if_neg HS.out, nv_append, nv_one]; exact hown4, below_append (below_drewN' hB _) hsz _ hown (Nat.le_refl _) hg4⟩
        · obtain rfl : k = lo a b := by omega
          have hBw := hb2.trans (hB.mono hb2.size)
          have sl := Sl.of_own hown
          have HP4 := Lib.hid HN1.out
          go_wp2_with (fail)
          refine (on2 hBw (H3.out _)).mono ?_
          rintro e w3 ⟨rfl, hc3, hb3⟩
          have sl3 := sl.on hc3
          go_wp2_with (fail)
          refine (H4.out w3).mono ?_
          rintro e w4 ⟨A4, c4, rfl, hown4, hb4⟩
          have sl4 := sl3.on hb4
          have hi := ints_same A4 A _ n c4 c _ _ w4 HN1.out.symm (by omega) (Sl.of_own hown4) sl4
          rw [← HN1.out]
          have HI := Lib.hid hi
          have hB4 := hb3.trans (hb4.mono hb3.size)
          clear hi sl sl3 sl4 hown hown4
          go_wp2_with (fail)
          refine HI.out.mono ?_
          rintro e w5 ⟨rfl, kk, rfl⟩
          go_wp2_with (fail)
          refine (H5.out _ (below_drewN' hB4 _)).mono ?_
          rintro e w6 ⟨rfl, hb6⟩
          go_wp2_with (fail)
          go_ret
          exact ⟨rfl, hb6⟩
      · obtain rfl : k = lo a b := by omega
        have hBw := hb2.trans (hB.mono hb2.size)
        have sl := Sl.of_own hown
        have HP4 := Lib.hid HN1.out
        go_wp2_with (fail)
        refine (on2 hBw (H3.out _)).mono ?_
        rintro e w3 ⟨rfl, hc3, hb3⟩
        have sl3 := sl.on hc3
        go_wp2_with (fail)
        refine (H4.out w3).mono ?_
        rintro e w4 ⟨A4, c4, rfl, hown4, hb4⟩
        have sl4 := sl3.on hb4
        have hi := ints_same A4 A _ n c4 c _ _ w4 HN1.out.symm (by omega) (Sl.of_own hown4) sl4
        rw [← HN1.out]
        have HI := Lib.hid hi
        have hB4 := hb3.trans (hb4.mono hb3.size)
        clear hi sl sl3 sl4 hown hown4
        go_wp2_with (fail)
        refine HI.out.mono ?_
        rintro e w5 ⟨rfl, kk, rfl⟩
        go_wp2_with (fail)
        refine (H5.out _ (below_drewN' hB4 _)).mono ?_
        rintro e w6 ⟨rfl, hb6⟩
        go_wp2_with (fail)
        go_ret
        exact ⟨rfl, hb6⟩

theorem lifted (os : Os) (started : os.Started) (H : Type) (enc : TypeId × Value → H) (F : Stop.Interp) :
    ReturnsInHanded {} Try.checked os 3 .any ((Rows.OpenSpec.upto Rows.hamTellsSpec).pre6 enc Try.prog Try.f3 Rows.hamTellsUptoRow.domain false) (((Rows.OpenSpec.upto Rows.hamTellsSpec).at F).post enc Try.prog Try.f3 false true false false) := by
  refine lift_upto (C := Try.checked) (by kernel_rfl) started (by kernel_rfl) Try.func3 rfl (by kernel_rfl) (by kernel_rfl) rfl Try.underlying4
    (fun ds hd => by match ds, hd with | [_, _, _], _ => exact ⟨rfl, rfl, rfl⟩)
    (OpenSpec.witness (enc := enc) (C := Try.checked) (s := Rows.OpenSpec.upto Rows.hamTellsSpec) (k := Rows.uptoSmall) rfl false ⟨#[], #[.string ⟨#[]⟩, .string ⟨#[]⟩, .int .i64 0], []⟩ 8 (by kernel_rfl) (by kernel_rfl) (by kernel_rfl)
      (x := ([.lit (.string []), .lit (.string []), .lit (.int .i64 0)], [], [])) (by kernel_rfl) rfl (by kernel_rfl)) ?_
  intro W base args ds before hval0 hA0 hfz hk
  have hval : ∀ (j : Nat) t v, Try.f3.params[j]? = some t → args[j]? = some v → Value.okWide Try.prog W .any base t v := hval0
  have hA : DataW.TrodAll enc Try.prog W 0 (fun _ => true) true Try.f3.params.toList args.toList ds before := hA0
  rw [Try.params3] at hA hval
  obtain ⟨v0, vs0, d0, ds0, p0, q0, hargs, rfl, rfl, h0, r0⟩ := trodAll_cons hA
  obtain ⟨v1, vs1, d1, ds1, p1, q1, rfl, rfl, rfl, h1, r1⟩ := trodAll_cons r0
  obtain ⟨v2, vs2, d2, ds2, p2, q2, rfl, rfl, rfl, h2, r2⟩ := trodAll_cons r1
  obtain ⟨rfl, rfl, rfl⟩ := trodAll_nil r2
  obtain rfl : args = #[v0, v1, v2] := by cases args; simp_all
  obtain ⟨a, rfl, rfl, rfl, _⟩ := open_string Try.underlying9 (hval 0 9 v0 rfl rfl) h0
  obtain ⟨b, rfl, rfl, rfl, _⟩ := open_string Try.underlying9 (hval 1 9 v1 rfl rfl) h1
  obtain ⟨m, rfl⟩ := okWide_int Try.underlying3 (hval 2 3 v2 rfl rfl)
  have e0 : a.data.toList.length = a.size := Array.length_toList
  have e1 : b.data.toList.length = b.size := Array.length_toList
  simp only [Rows.uptoBulkAll, Rows.uptoBulk] at hk
  exact walk a b (by omega) (by omega) m W

theorem proved : Rows.HamTellsUptoSaid :=
  OpenClaim.holds_of_cond 3 Try.f3 rfl rfl rfl rfl rfl rfl rfl ⟨rfl, rfl, rfl, rfl, rfl⟩ rfl rfl rfl rfl rfl (by kernel_rfl) Try.func3 (by kernel_rfl)
    (of_decide_eq_true (by kernel_rfl)) (by unfold Func.isWrapper; first | (rw [if_pos (by decide +kernel)]; kernel_rfl) | (rw [if_neg (by decide +kernel)]; exact ⟨rfl, rfl⟩))
    (fun os started H enc _ F => lifted os started H enc F)
#print axioms proved
end Go.Proofs.Ytefpaaklppmkhaa.hamTells
