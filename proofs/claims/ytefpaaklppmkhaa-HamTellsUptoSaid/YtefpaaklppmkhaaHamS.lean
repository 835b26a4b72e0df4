/-
  Rows of ints; the contracts of ham.Places and of the document's own Ints; texts that came in.
-/
import Derived.Test.YtefpaaklppmkhaaHamL
import Derived.Lib.Walk
import Derived.Deep.LoopGhost
import Derived.ChangeMaps5
import Derived.SliceStrings
import Derived.Deep.AppendLies
namespace Go.Proofs.Ytefpaaklppmkhaa.ham
open Go.RowKit law bytes
set_option linter.unusedVariables false

theorem intE : Elem Try.prog 3 (.int .i64 0) 8 := elem_mk (by kernel_rfl) (by decide)
def nv (l : List Nat) : List Value := l.map fun (n : Nat) => Value.int .i64 (n : Int)
theorem nv_length (l : List Nat) : (nv l).length = l.length := by simp [nv]
theorem nv_append (l m : List Nat) : nv (l ++ m) = nv l ++ nv m := by simp [nv]
theorem nv_one (n : Nat) : nv [n] = [.int .i64 (n : Int)] := rfl
theorem Sl.nat {w : World} {B : Nat} {A : Option Addr} {l : List Nat} {k : Nat} (h : Sl w B A (nv l)) (hk : k < l.length) : ∃ ad, A = some ad ∧ ad.block < B ∧ w.cell? (ad.add k) = some (.int .i64 (l[k] : Int)) := by
  have := h.at_ (k := k) (by rw [nv_length]; exact hk)
  simpa [nv] using this
/-- new memory that reads as N numbers -/
def Nums (N : Nat) (l : List Nat) (w : World) (e : Ending) (w' : World) : Prop := ∃ A c, e = .returned (.slice A N c) ∧ w'.ownsRow w.heap.size 3 1 (.slice A N c) N (nv l) ∧ Below w.heap.size w w'

/-! ### Ints -/
def Alike (l m : List Nat) (k : Nat) : Prop := l.take k = m.take k
theorem Alike.zero {l m : List Nat} : Alike l m 0 := by simp [Alike]
theorem Alike.step {l m : List Nat} {k : Nat} (h : Alike l m k) (h1 : k < l.length) (h2 : k < m.length) (he : l[k] = m[k]) : Alike l m (k + 1) := by
  unfold Alike at *
  rw [List.take_succ_eq_append_getElem h1, List.take_succ_eq_append_getElem h2, h, he]
theorem Alike.all {l m : List Nat} {k : Nat} (h : Alike l m k) (hl : m.length = l.length) (hk : l.length ≤ k) : l = m := by
  unfold Alike at h
  rwa [List.take_of_length_le hk, List.take_of_length_le (by omega)] at h
set_option maxHeartbeats 800000 in
theorem ints_same (A A' : Option Addr) (l : List Nat) (n c c' B B' : Nat) (w : World) (hn : l.length = n) (hm : n ≤ 281474976710656) (hs : Sl w B A (nv l)) (hs' : Sl w B' A' (nv l)) :
    Calls Try.prog 9 #[.slice A n c, .slice A' n c'] w (Still (.bool true) w) := by
  have HN := Lib.hid hn
  clear hn
  go_enter Try.func9, Try.ntmps9
  go_wp2
  go_loopw [5] (fun i wr => ∃ k j : Nat, k ≤ n ∧ i = .int .i64 k ∧ wr = w.drewN j) (fun i _ => n - (intOf i).toNat)
  case atStart => exact ⟨0, 0, Nat.zero_le _, rfl, rfl⟩
  case round =>
    obtain ⟨k, j, hk, rfl, rfl⟩ := hrel
    by_cases hlt : k < n
    · obtain ⟨ad, rfl, hb, hc⟩ := Sl.nat hs (by rw [HN.out]; exact hlt)
      obtain ⟨ad', rfl, hb', hc'⟩ := Sl.nat hs' (by rw [HN.out]; exact hlt)
      generalize (l[k]'(by rw [HN.out]; exact hlt)) = x at hc hc'
      have d1 : ((x : Int) == (x : Int)) = true := by simp
      have d2 : ((x : Int) != (x : Int)) = false := by simp
      clear hs hs'
      go_wp2
      go_quiet (fail)
      go_wp2
      go_roundw
      case rel => exact ⟨k + 1, _, by omega, by go_num, rfl⟩
      case measure => simp [intOf]; omega
    · go_wp2
      go_ret
      exact ⟨rfl, _, rfl⟩

/-! ### Places -/
set_option maxHeartbeats 1600000 in
theorem places_any (a b : ByteArray) (ha : a.size ≤ 1048576) (hb : b.size ≤ 1048576) (w : World) :
    Calls Try.prog 10 #[.string a, .string b] w (Nums (pl a b (lo a b)).length (pl a b (lo a b)) w) := by
  go_enter Try.func10, Try.ntmps10
  go_wp2_with (fail)
  all_goals
    have hL : lo a b = min a.size b.size := rfl
    go_loopg [5, 12] (lo a b) (fun gk v i wr => ∃ (k n c : Nat) (A : Option Addr), k ≤ lo a b ∧ gk = lo a b - k ∧ i = .int .i64 k ∧ v = .slice A n c ∧ n = (pl a b k).length ∧ wr.ownsRow w.heap.size 3 1 (.slice A n c) n (nv (pl a b k)) ∧ Below w.heap.size w wr)
    case atStart => exact ⟨0, 0, 0, none, Nat.zero_le _, rfl, rfl, rfl, rfl, World.ownsRow_nil _ _ _ _, Below.refl _ _⟩
    case round =>
      obtain ⟨k, n, c, A, hk, rfl, rfl, rfl, hn, hown, hB⟩ := hrel
      have hle := pl_length a b k
      have hnk : n ≤ k := by omega
      have HN1 := Lib.hid hn
      have hsz := hB.size
      clear hn hle
      by_cases hlt : k < lo a b
      · have h1 : k < a.size := by omega
        have h2 : k < b.size := by omega
        by_cases he : (a[k]'h1).toNat = (b[k]'h2).toNat
        · obtain ⟨q1, q2⟩ := eq_get h1 h2 he
          have hs := df_same h1 h2 he
          have HS := Lib.hid hs
          clear hs he
          go_wp2_with (fail)
          go_quiet (fail)
          go_wp2_with (fail)
          go_roundg (lo a b - (k + 1))
          case measure => omega
          case rel => exact ⟨k + 1, n, c, A, by omega, rfl, by go_num, rfl, by rw [pl_succ, if_pos HS.out]; exact HN1.out, by rw [pl_succ, if_pos HS.out]; exact hown, below_drewN' hB _⟩
        · obtain ⟨q1, q2⟩ := ne_get h1 h2 he
          have hs := df_other h1 h2 he
          have HS : Hid (df a b k ≠ 0) := Lib.hid (by omega)
          clear hs he
          go_wp2_with (fail)
          go_quiet (fail)
          go_wp2_with (at_builtin
                       refine wpList_append_sl _ rfl (.tmp 22) (.tmp 24) _ rfl w.heap.size 3 _ 8 Try.underlying25 intE (.slice A n c) n (nv (pl a b k)) rfl (World.ownsRow.alloc (w := wr.drewN nq) hown _) _ _ 1 1 [.int .i64 (k : Int)] rfl (Sl.one (wr.drewN nq) _ _) rfl (by simp [Value.oneCell']) (by omega) (by unfold maxLen; omega) (by simp; omega) ?_
                       intro v4 w4 hown4 hg4 hat4
                       obtain ⟨A4, c4, rfl, hc4⟩ := own_slice hown4)
          go_roundg (lo a b - (k + 1))
          case measure => omega
          case rel => exact ⟨k + 1, n + 1, c4, A4, by omega, rfl, by go_num, rfl, by rw [pl_succ, if_neg HS.out, List.length_append, ← HN1.out]; rfl, by rw [pl_succ, if_neg HS.out, nv_append, nv_one]; exact hown4, below_append (below_drewN' hB _) hsz _ hown (Nat.le_refl _) hg4⟩
      · obtain rfl : k = lo a b := by omega
        go_wp2_with (fail)
        go_ret
        rw [← HN1.out]
        exact ⟨A, c, rfl, hown, hB⟩
end Go.Proofs.Ytefpaaklppmkhaa.ham
