/-
  The contract of the document's own Least.
-/
import Derived.Test.YtdfakjpchgomdaaLeast
import Derived.Lib.MinMax
namespace Go.Proofs.Ytdfakjpchgomdaa.lev
open Go.RowKit law bytes
set_option linter.unusedVariables false

set_option maxHeartbeats 1600000 in
set_option maxRecDepth 100000 in
theorem rleast_any (a b : ByteArray) (ha : a.size ≤ 1048576) (hb : b.size ≤ 1048576) (w : World) :
    Calls Try.prog 33 #[.string a, .string b] w fun e w' => e = .returned (.int .i64 (least (bl a) (bl b))) ∧ w = w' := by
  have hl := least_more (bl a) (bl b)
  rw [bl_len, bl_len] at hl
  obtain ⟨r, hr⟩ : ∃ r, r = least (bl a) (bl b) := ⟨_, rfl⟩
  rw [← hr] at hl ⊢
  have HR := Lib.hid hl
  clear hl hr
  go_enter Try.func33, Try.ntmps33
  go_wp2_with (fail)
  go_loop [5, 6, 7] (fun m l i => ∃ (k x y : Nat), k ≤ 256 ∧ x ≤ 1048576 * k ∧ y ≤ 1048576 * k ∧ i = .int .i64 k ∧ m = .int .i64 x ∧ l = .int .i64 y ∧ Hid (x = S (fun c => ct c (bl a) - ct c (bl b)) k) ∧ Hid (y = S (fun c => ct c (bl b) - ct c (bl a)) k)) (fun _ _ i => 256 - (intOf i).toNat)
  case atStart => exact ⟨0, 0, 0, by omega, by omega, by omega, rfl, rfl, rfl, Lib.hid rfl, Lib.hid rfl⟩
  case round =>
    obtain ⟨k, x, y, hk, hx, hy, rfl, rfl, rfl, HX, HY⟩ := hrel
    by_cases hlt : k < 256
    · have c1 := count_any a ha k
      have c2 := count_any b hb k
      have b1 := ct_le k (bl a)
      have b2 := ct_le k (bl b)
      rw [bl_len] at b1 b2
      have HX2 : Hid (x + (ct k (bl a) - ct k (bl b)) = S (fun c => ct c (bl a) - ct c (bl b)) (k + 1)) := Lib.hid (by rw [S, HX.out])
      have HY2 : Hid (y + (ct k (bl b) - ct k (bl a)) = S (fun c => ct c (bl b) - ct c (bl a)) (k + 1)) := Lib.hid (by rw [S, HY.out])
      generalize ct k (bl a) = u at *
      generalize ct k (bl b) = v at *
      have C1 := Lib.hid c1
      have C2 := Lib.hid c2
      clear c1 c2
      have hxb : x ≤ 268435456 := by omega
      have hyb : y ≤ 268435456 := by omega
      obtain ⟨z, hz⟩ : ∃ z : Int, z = (u : Int) - (v : Int) := ⟨_, rfl⟩
      obtain ⟨p, hp⟩ : ∃ p : Nat, p = u - v := ⟨_, rfl⟩
      obtain ⟨q, hq⟩ : ∃ q : Nat, q = v - u := ⟨_, rfl⟩
      rw [← hp] at HX2
      rw [← hq] at HY2
      have m1 : ∀ W, (Builtin.max_ #[3, 3] 3 #[.int .i64 z, .int .i64 0]).run Try.prog W = .ok (.int .i64 p) W := fun W => by
        rw [Lib.run_max_ints]; congr 2; omega
      have m2 : ∀ W, (Builtin.max_ #[3, 3] 3 #[.int .i64 (-z), .int .i64 0]).run Try.prog W = .ok (.int .i64 q) W := fun W => by
        rw [Lib.run_max_ints]; congr 2; omega
      have f1 : (u : Int) - (v : Int) = z := hz.symm
      have hz1 : -1048576 ≤ z := by omega
      have hz2 : z ≤ 1048576 := by omega
      have hpb : p ≤ 1048576 := by omega
      have hqb : q ≤ 1048576 := by omega
      clear hz hp hq
      go_wp2_with (fail)
      refine (C1.out _).mono ?_
      rintro e w1 ⟨rfl, rfl⟩
      go_wp2_with (fail)
      refine (C2.out _).mono ?_
      rintro e w1 ⟨rfl, rfl⟩
      clear C1 C2
      go_wp2_with (fail)
      go_round
      case rel => exact ⟨k + 1, x + p, y + q, by omega, by omega, by omega, by go_num, by go_num, by go_num, HX2, HY2⟩
      case measure => simp [intOf]; omega
    · obtain rfl : k = 256 := by omega
      have hxb : x ≤ 268435456 := by omega
      have hyb : y ≤ 268435456 := by omega
      have hfin : r = max (max x y) (max (a.size - b.size) (b.size - a.size)) := by rw [HR.out, HX.out, HY.out]; rfl
      have m4 : ∀ W, (Builtin.max_ #[3, 3, 3, 3] 3 #[.int .i64 x, .int .i64 y, .int .i64 (↑a.size - ↑b.size), .int .i64 (↑b.size - ↑a.size)]).run Try.prog W = .ok (.int .i64 r) W := fun W => by
        simp only [Builtin.max_, Builtin.max2, List.foldlM_cons, List.foldlM_nil, Sem.run_pure, pure_bind]
        congr 2
        rw [hfin]
        split <;> split <;> split <;> omega
      clear hfin
      go_wp2_with (fail)
      go_ret
      exact ⟨rfl, rfl⟩
end Go.Proofs.Ytdfakjpchgomdaa.lev
