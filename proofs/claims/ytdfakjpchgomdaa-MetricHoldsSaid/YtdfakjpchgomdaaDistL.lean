/-
  The contracts of lone.Dist, lone.Norm, lone.Least; what lives.
-/
import Derived.Test.YtdfakjpchgomdaaUptoL
namespace Go.Proofs.Ytdfakjpchgomdaa.lone
open Go.RowKit law bytes dist
set_option linter.unusedVariables false

set_option maxHeartbeats 800000 in
theorem dist_any (A1 A2 : Option Addr) (c1 c2 : Nat) (a b : List Int) (ha : Bd a) (hb : Bd b) (hla : a.length ≤ 1048576) (hlb : b.length ≤ 1048576) (w : World) (s1 : Sl w w.heap.size A1 (iv a)) (s2 : Sl w w.heap.size A2 (iv b)) :
    Calls Try.prog 27 #[.slice A1 a.length c1, .slice A2 b.length c2] w (Gives (.int .i64 (D a b)) w) := by
  have h := upto_any A1 A2 c1 c2 a b ha hb hla hlb 9223372036854775807 w s1 s2
  have hD := D_small ha hb hla hlb
  have hle : D a b ≤ 9223372036854775807 := by omega
  rw [if_pos hle, decide_eq_true hle] at h
  have H := Lib.hid h
  clear h hle hD
  go_enter Try.func27, Try.ntmps27
  go_wp2_with (fail)
  refine H.out.mono ?_
  rintro e w1 ⟨rfl, hb1⟩
  go_wp2
  go_ret
  exact ⟨rfl, hb1⟩
theorem norm_any (A : Option Addr) (c : Nat) (a : List Int) (ha : Bd a) (hla : a.length ≤ 1048576) (w : World) (s : Sl w w.heap.size A (iv a)) :
    Calls Try.prog 43 #[.slice A a.length c] w (Gives (.int .i64 (D a [])) w) := by
  have h := dist_any A none c 0 a [] ha Bd_nil hla (by simp) w s Sl.nil
  rw [List.length_nil] at h
  have H := Lib.hid h
  clear h
  go_enter Try.func43, Try.ntmps43
  go_wp2_with (fail)
  refine H.out.mono ?_
  rintro e w1 ⟨rfl, hb1⟩
  go_wp2
  go_ret
  exact ⟨rfl, hb1⟩
set_option maxHeartbeats 800000 in
theorem least_any (A1 A2 : Option Addr) (c1 c2 : Nat) (a b : List Int) (ha : Bd a) (hb : Bd b) (hla : a.length ≤ 1048576) (hlb : b.length ≤ 1048576) (w : World) (s1 : Sl w w.heap.size A1 (iv a)) (s2 : Sl w w.heap.size A2 (iv b)) :
    Calls Try.prog 30 #[.slice A1 a.length c1, .slice A2 b.length c2] w (Gives (.int .i64 (gp (D a []) (D b []))) w) := by
  have d1 := D_small ha Bd_nil hla (by simp)
  have d2 := D_small hb Bd_nil hlb (by simp)
  have z1 := D_nonneg a []
  have z2 := D_nonneg b []
  have H1 := Lib.hid (norm_any A1 c1 a ha hla w s1)
  have HG := fun W => Lib.hid (gap_any (D a []) (D b []) (by omega) (by omega) W)
  go_enter Try.func30, Try.ntmps30
  go_wp2_with (fail)
  refine H1.out.mono ?_
  rintro e w1 ⟨rfl, hb1⟩
  have H2 := Lib.hid (norm_any A2 c2 b hb hlb w1 (s2.on hb1))
  go_wp2_with (fail)
  refine H2.out.mono ?_
  rintro e w2 ⟨rfl, hb2⟩
  go_wp2_with (fail)
  refine (HG _).out.mono ?_
  rintro e w3 ⟨rfl, rfl⟩
  go_wp2
  go_ret
  exact ⟨rfl, hb1.trans (hb2.mono hb1.size)⟩
/-- a call over a world that stayed below -/
theorem on {P : Program} {f : FuncId} {args : Array Value} {V W : World} {v : Value} (hb : Below V.heap.size V W) (h : Calls P f args W (Gives v W)) : Calls P f args W fun e w' => e = .returned v ∧ Below V.heap.size V w' :=
  h.mono fun e w' ⟨he, h2⟩ => ⟨he, hb.trans (h2.mono hb.size)⟩
theorem add_zero_at (b j : Nat) : (⟨b, 0, none⟩ : Addr).add j = ⟨b, j, none⟩ := by
  unfold Addr.add
  by_cases hz : j = 0 <;> simp [hz]
theorem Sl.of_blk {w : World} {b t : Nat} {cs : Array Value} (h : Blk w b t cs) : Sl w w.heap.size (some ⟨b, 0, none⟩) cs.toList := fun j u hj => by
  refine ⟨_, rfl, h.lt, ?_⟩
  rw [add_zero_at, h.cell j]
  simpa using hj
end Go.Proofs.Ytdfakjpchgomdaa.lone
