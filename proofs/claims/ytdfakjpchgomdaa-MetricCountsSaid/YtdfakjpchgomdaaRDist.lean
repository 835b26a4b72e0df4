/-
  The contract of the document's own Dist.
-/
import Derived.Test.YtdfakjpchgomdaaPad
import Derived.Deep.Draws
namespace Go.Proofs.Ytdfakjpchgomdaa.lone
open Go.RowKit law bytes dist
set_option linter.unusedVariables false

/-- new memory that reads as N numbers -/
def Nums (N : Nat) (l : List Int) (w : World) (e : Ending) (w' : World) : Prop := ∃ A c, e = .returned (.slice A N c) ∧ Sl w' w'.heap.size A (iv l) ∧ Below w.heap.size w w'
theorem pad_nums (A : Option Addr) (c n N : Nat) (l : List Int) (hl : l.length ≤ 1048576) (hn : n ≤ 1048576) (w : World) (hs : Sl w w.heap.size A (iv l)) (hN : max l.length n = N) :
    Calls Try.prog 35 #[.slice A l.length c, .int .i64 n] w (Nums N (padL l n) w) := by
  refine (pad_any A c n l hl hn w hs).mono ?_
  rintro e w' ⟨A', c', rfl, hown, hb⟩
  refine ⟨A', c', by rw [iv_length, padL_length, hN], ?_, hb⟩
  exact Sl.of_own hown
theorem step_pos {a b : List Int} (ha : Bd a) (hb : Bd b) {k : Nat} (hk : k < 1048576) (h : nm b k ≤ nm a k) : wrap64 (nm a k - nm b k) = nm a k - nm b k ∧ wrap64 (dk a b k + (nm a k - nm b k)) = dk a b (k + 1) := by
  have h1 := dk_nonneg a b k
  have h2 := dk_le ha hb k
  have h3 := nm_bd ha k
  have h4 := nm_bd hb k
  have h5 : (k : Int) * 4294967295 ≤ 1048576 * 4294967295 := Int.mul_le_mul_of_nonneg_right (by omega) (by omega)
  rw [dk_succ, gp_pos h]
  exact ⟨w64 _ (by omega), w64 _ (by omega)⟩
theorem step_neg {a b : List Int} (ha : Bd a) (hb : Bd b) {k : Nat} (hk : k < 1048576) (h : nm a k ≤ nm b k) : wrap64 (nm b k - nm a k) = nm b k - nm a k ∧ wrap64 (dk a b k + (nm b k - nm a k)) = dk a b (k + 1) := by
  have h1 := dk_nonneg a b k
  have h2 := dk_le ha hb k
  have h3 := nm_bd ha k
  have h4 := nm_bd hb k
  have h5 : (k : Int) * 4294967295 ≤ 1048576 * 4294967295 := Int.mul_le_mul_of_nonneg_right (by omega) (by omega)
  rw [dk_succ, gp_neg h]
  exact ⟨w64 _ (by omega), w64 _ (by omega)⟩

set_option maxHeartbeats 1600000 in
theorem rdist_any (A1 A2 : Option Addr) (c1 c2 : Nat) (a b : List Int) (ha : Bd a) (hb : Bd b) (hla : a.length ≤ 1048576) (hlb : b.length ≤ 1048576) (w : World) (s1 : Sl w w.heap.size A1 (iv a)) (s2 : Sl w w.heap.size A2 (iv b)) :
    Calls Try.prog 20 #[.slice A1 a.length c1, .slice A2 b.length c2] w (Gives (.int .i64 (D a b)) w) := by
  obtain ⟨N, hN⟩ : ∃ N, mx a b = N := ⟨_, rfl⟩
  have hN2 : N ≤ 1048576 := by rw [← hN]; unfold mx; omega
  have HP := Lib.hid (pad_nums A1 c1 b.length N a hla hlb w s1 hN)
  have hD : D a b = dk a b N := by unfold D; rw [hN]
  have hl1 : (padL a b.length).length = N := by rw [padL_length]; exact hN
  have hl2 : (padL b N).length = N := by rw [padL_length]; unfold mx at hN; omega
  have hmx : max b.length N = N := by unfold mx at hN; omega
  clear hN
  rw [hD]
  clear hD
  go_enter Try.func20, Try.ntmps20
  go_wp2_with (fail)
  refine HP.out.mono ?_
  rintro e w1 ⟨A3, c3, rfl, t1, hb1⟩
  have HP2 := Lib.hid (pad_nums A2 c2 N N b hlb hN2 w1 (s2.on hb1) hmx)
  clear hmx
  go_wp2_with (fail)
  refine HP2.out.mono ?_
  rintro e w2 ⟨A4, c4, rfl, t2, hb2⟩
  have t1 := t1.on hb2
  have hB := hb1.trans (hb2.mono hb1.size)
  clear HP HP2 hb1 hb2 s1 s2
  generalize hp : padL a b.length = p at t1 hl1
  generalize hq : padL b N = q at t2 hl2
  have hpn : ∀ j, nm p j = nm a j := fun j => by rw [← hp, padL_nm]
  have hqn : ∀ j, nm q j = nm b j := fun j => by rw [← hq, padL_nm]
  have HPN := Lib.hid hpn
  have HQN := Lib.hid hqn
  clear hpn hqn hp hq
  have HT1 := Lib.hid t1
  have HT2 := Lib.hid t2
  clear t1 t2
  go_wp2_with (fail)
  go_loopw [5, 6] (fun s i wr => ∃ k j : Nat, k ≤ N ∧ i = .int .i64 k ∧ s = .int .i64 (dk a b k) ∧ wr = w2.drewN j) (fun _ i _ => N - (intOf i).toNat)
  case atStart => exact ⟨0, 0, Nat.zero_le _, rfl, rfl, rfl⟩
  case round =>
    obtain ⟨k, j, hk, rfl, rfl, rfl⟩ := hrel
    by_cases hlt : k < N
    · obtain ⟨ad1, e1, _, q1⟩ := Sl.nm HT1.out (by rw [hl1]; exact hlt)
      obtain ⟨ad2, e2, _, q2⟩ := Sl.nm HT2.out (by rw [hl2]; exact hlt)
      rw [HPN.out] at q1
      rw [HQN.out] at q2
      subst e1 e2
      obtain ⟨x1, x2⟩ := nm_bd ha k
      obtain ⟨y1, y2⟩ := nm_bd hb k
      by_cases hgt : nm b k < nm a k
      · obtain ⟨z1, z2⟩ := step_pos ha hb (by omega : k < 1048576) (by omega)
        go_wp2_with (fail)
        go_quiet (fail)
        go_wp2_with (fail)
        go_quiet (fail)
        go_wp2_with (fail)
        go_roundw
        case rel => exact ⟨k + 1, _, by omega, by go_num, by rw [z2], rfl⟩
        case measure => simp [intOf]; omega
      · obtain ⟨z1, z2⟩ := step_neg ha hb (by omega : k < 1048576) (by omega)
        go_wp2_with (fail)
        go_quiet (fail)
        go_wp2_with (fail)
        go_quiet (fail)
        go_wp2_with (fail)
        go_roundw
        case rel => exact ⟨k + 1, _, by omega, by go_num, by rw [z2], rfl⟩
        case measure => simp [intOf]; omega
    · obtain rfl : k = N := by omega
      go_wp2_with (fail)
      go_ret
      exact ⟨rfl, below_drewN hB _⟩
end Go.Proofs.Ytdfakjpchgomdaa.lone
