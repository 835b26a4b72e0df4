/-
  The contracts of lone.Dist, lone.Norm, lone.Least; what lives.
-/
import Derived.Test.YtigdfpmbohmekaaUptoL
namespace Go.Proofs.Ytigdfpmbohmekaa.lone
open Go.RowKit law bytes dist
set_option linter.unusedVariables false

set_option maxHeartbeats 800000 in
theorem dist_any (A1 A2 : Option Addr) (c1 c2 : Nat) (a b : List Int) (ha : Bd a) (hb : Bd b) (hla : a.length ≤ 1048576) (hlb : b.length ≤ 1048576) (w : World) (s1 : Sl w w.heap.size A1 (iv a)) (s2 : Sl w w.heap.size A2 (iv b)) :
    Calls Try.prog 7 #[.slice A1 a.length c1, .slice A2 b.length c2] w (Gives (.int .i64 (D a b)) w) := by
  have h := upto_any A1 A2 c1 c2 a b ha hb hla hlb 9223372036854775807 w s1 s2
  have hD := D_small ha hb hla hlb
  have hle : D a b ≤ 9223372036854775807 := by omega
  rw [if_pos hle, decide_eq_true hle] at h
  have H := Lib.hid h
  clear h hle hD
  go_enter Try.func7, Try.ntmps7
  go_wp2_with (fail)
  refine H.out.mono ?_
  rintro e w1 ⟨rfl, hb1⟩
  go_wp2
  go_ret
  exact ⟨rfl, hb1⟩
theorem norm_any (A : Option Addr) (c : Nat) (a : List Int) (ha : Bd a) (hla : a.length ≤ 1048576) (w : World) (s : Sl w w.heap.size A (iv a)) :
    Calls Try.prog 8 #[.slice A a.length c] w (Gives (.int .i64 (D a [])) w) := by
  have h := dist_any A none c 0 a [] ha Bd_nil hla (by simp) w s Sl.nil
  rw [List.length_nil] at h
  have H := Lib.hid h
  clear h
  go_enter Try.func8, Try.ntmps8
  go_wp2_with (fail)
  refine H.out.mono ?_
  rintro e w1 ⟨rfl, hb1⟩
  go_wp2
  go_ret
  exact ⟨rfl, hb1⟩
set_option maxHeartbeats 800000 in
theorem least_any (A1 A2 : Option Addr) (c1 c2 : Nat) (a b : List Int) (ha : Bd a) (hb : Bd b) (hla : a.length ≤ 1048576) (hlb : b.length ≤ 1048576) (w : World) (s1 : Sl w w.heap.size A1 (iv a)) (s2 : Sl w w.heap.size A2 (iv b)) :
    Calls Try.prog 9 #[.slice A1 a.length c1, .slice A2 b.length c2] w (Gives (.int .i64 (gp (D a []) (D b []))) w) := by
  have d1 := D_small ha Bd_nil hla (by simp)
  have d2 := D_small hb Bd_nil hlb (by simp)
  have z1 := D_nonneg a []
  have z2 := D_nonneg b []
  have H1 := Lib.hid (norm_any A1 c1 a ha hla w s1)
  have HG := fun W => Lib.hid (gap_any (D a []) (D b []) (by omega) (by omega) W)
  go_enter Try.func9, Try.ntmps9
  go_wp2_with (fail)
  refine H1.out.mono ?_
  rintro e w1 ⟨rfl, hb1⟩
  have H2 := Lib.hid (norm_any A2 c2 b hb hlb w1 (s2.on hb1))
  go_wp2_with (fail)
  refine H2.out.mono ?_
  rintro e w2 ⟨rfl, hb2⟩
  go_wp2_with (fail)
  refine (HG _).out.mono ?_
  rintro e w3 ⟨rfl, rfl⟩
  go_wp2
  go_ret
  exact ⟨rfl, hb1.trans (hb2.mono hb1.size)⟩
/-- a call over a world that stayed below -/
theorem on {P : Program} {f : FuncId} {args : Array Value} {V W : World} {v : Value} (hb : Below V.heap.size V W) (h : Calls P f args W (Gives v W)) : Calls P f args W fun e w' => e = .returned v ∧ Below V.heap.size V w' :=
  h.mono fun e w' ⟨he, h2⟩ => ⟨he, hb.trans (h2.mono hb.size)⟩
theorem add_zero_at (b j : Nat) : (⟨b, 0, none⟩ : Addr).add j = ⟨b, j, none⟩ := by
  unfold Addr.add
  by_cases hz : j = 0 <;> simp [hz]
theorem Sl.of_blk {w : World} {b t : Nat} {cs : Array Value} (h : Blk w b t cs) : Sl w w.heap.size (some ⟨b, 0, none⟩) cs.toList := fun j u hj => by
  refine ⟨_, rfl, h.lt, ?_⟩
  rw [add_zero_at, h.cell j]
  simpa using hj
theorem lives_any (w : World) : Calls Try.prog 10 #[] w (Gives (.bool true) w) := by
  have hb : Below w.heap.size w ((w.alloc (.cells #[.int .i32 1, .int .i32 2] 21)).alloc (.cells #[.int .i32 4, .int .i32 (-2)] 21)) := ((Below.refl _ w).alloc (Nat.le_refl _) _).alloc (by simp) _
  have h1 := Sl.of_blk ((Blk.new w 21 #[.int .i32 1, .int .i32 2]).alloc (.cells #[.int .i32 4, .int .i32 (-2)] 21))
  have h2 := Sl.of_blk (Blk.new (w.alloc (.cells #[.int .i32 1, .int .i32 2] 21)) 21 #[.int .i32 4, .int .i32 (-2)])
  rw [show (w.alloc (.cells #[.int .i32 1, .int .i32 2] 21)).heap.size = w.heap.size + 1 from by simp] at h2
  have h : Calls Try.prog 7 #[.slice (some ⟨w.heap.size, 0, none⟩) 2 2, .slice (some ⟨w.heap.size + 1, 0, none⟩) 2 2] ((w.alloc (.cells #[.int .i32 1, .int .i32 2] 21)).alloc (.cells #[.int .i32 4, .int .i32 (-2)] 21)) (Gives (.int .i64 7) _) :=
    dist_any (some ⟨w.heap.size, 0, none⟩) (some ⟨w.heap.size + 1, 0, none⟩) 2 2 [1, 2] [4, -2] (by unfold Bd; decide) (by unfold Bd; decide) (by decide) (by decide) _ h1 h2
  have H := Lib.hid h
  clear h h1 h2
  go_enter Try.func10, Try.ntmps10
  go_wp2_with (fail)
  refine H.out.mono ?_
  rintro e w1 ⟨rfl, hb1⟩
  go_wp2
  go_ret
  exact ⟨rfl, hb.trans (hb1.mono hb.size)⟩
end Go.Proofs.Ytigdfpmbohmekaa.lone
