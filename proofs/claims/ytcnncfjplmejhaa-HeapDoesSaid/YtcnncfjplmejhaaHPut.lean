/-
  The document's own row by insertion (waywiserref10.Put), rows of ints that are alike (waywiserref07.Ints).
-/
import Derived.Test.YtcnncfjplmejhaaHPush
import Derived.Sort.AssemblyPlain
namespace Go.Proofs.Ytcnncfjplmejhaa.put
open Go.RowKit law bytes only heapM heap Go.Sort Go.Shelf
set_option linter.unusedVariables false

/-- a number into a rising row -/
def putL (n : Int) : List Int → List Int
  | [] => [n]
  | x :: t => if n < x then n :: x :: t else x :: putL n t
theorem putL_perm (n : Int) : ∀ xs, (putL n xs).Perm (n :: xs)
  | [] => List.Perm.refl _
  | x :: t => by
    unfold putL
    split
    · exact List.Perm.refl _
    · exact ((putL_perm n t).cons x).trans (List.Perm.swap n x t)
theorem putL_length (n : Int) (xs : List Int) : (putL n xs).length = xs.length + 1 := (putL_perm n xs).length_eq
theorem putL_rises (n : Int) : ∀ xs : List Int, xs.Pairwise (· ≤ ·) → (putL n xs).Pairwise (· ≤ ·)
  | [], _ => by simp [putL]
  | x :: t, h => by
    obtain ⟨h1, h2⟩ := List.pairwise_cons.1 h
    unfold putL
    split
    · rename_i hlt
      refine List.pairwise_cons.2 ⟨fun y hy => ?_, h⟩
      rcases List.mem_cons.1 hy with rfl | hy
      · omega
      · have := h1 y hy; omega
    · rename_i hlt
      refine List.pairwise_cons.2 ⟨fun y hy => ?_, putL_rises n t h2⟩
      rcases List.mem_cons.1 ((putL_perm n t).subset hy) with rfl | hy
      · omega
      · exact h1 y hy
def il (xs : List Int) : List Value := xs.map (.int .i64)
theorem il_length (xs : List Int) : (il xs).length = xs.length := by simp [il]
theorem il_append (a b : List Int) : il (a ++ b) = il a ++ il b := by simp [il]
theorem il_iv (d : Array Int) : iv d = il d.toList := rfl
theorem Sl.int {w : World} {B : Nat} {A : Option Addr} {xs : List Int} {k : Nat} (h : Sl w B A (il xs)) (hk : k < xs.length) : ∃ ad, A = some ad ∧ ad.block < B ∧ w.cell? (ad.add k) = some (.int .i64 xs[k]) := by
  have := h.at_ (k := k) (by rw [il_length]; exact hk)
  simpa [il] using this
/-- two rows that read alike are alike -/
theorem ints_same (A A' : Option Addr) (xs : List Int) (c c' B B' : Nat) (w : World) (hm : xs.length ≤ 281474976710656) (hs : Sl w B A (il xs)) (hs' : Sl w B' A' (il xs)) :
    Calls Try.prog 13 #[.slice A xs.length c, .slice A' xs.length c'] w fun e w' => e = .returned (.bool true) ∧ Below w.heap.size w w' := by
  have HS := Lib.hid hs
  have HS' := Lib.hid hs'
  clear hs hs'
  have d0 : ((xs.length : Int) != (xs.length : Int)) = false := by simp
  go_enter Try.func13, Try.ntmps13
  go_wp2_with (fail)
  go_loopg [5] xs.length (fun gk i wr => ∃ k : Nat, gk = xs.length - k ∧ k ≤ xs.length ∧ i = .int .i64 k ∧ Below w.heap.size w wr ∧ Sl wr B A (il xs) ∧ Sl wr B' A' (il xs))
  case atStart => exact ⟨0, rfl, Nat.zero_le _, rfl, Below.refl _ _, HS.out, HS'.out⟩
  case round =>
    clear HS HS'
    obtain ⟨k, rfl, hk, rfl, hb, hs, hs'⟩ := hrel
    by_cases hlt : k < xs.length
    · obtain ⟨ad, rfl, hb1, hc⟩ := Sl.int hs hlt
      obtain ⟨ad', rfl, hb2, hc'⟩ := Sl.int hs' hlt
      obtain ⟨x, hx⟩ : ∃ x, xs[k] = x := ⟨_, rfl⟩
      rw [hx] at hc hc'
      have i1 : (k : Int) < (xs.length : Int) := by omega
      have d1 : (x == x) = true := by simp
      have d2 : (x != x) = false := by simp
      have HB := Lib.hid (And.intro hb.drew (And.intro (hs.drewN 1) (hs'.drewN 1)))
      clear hs hs' hx hb
      go_wp2_with (fail)
      go_region
      go_wp2_with (fail)
      go_roundg (xs.length - (k + 1))
      case measure => omega
      case rel => exact ⟨k + 1, rfl, by omega, by go_num, HB.out.1, HB.out.2.1, HB.out.2.2⟩
    · have i1 : ¬ (k : Int) < (xs.length : Int) := by omega
      have HB := Lib.hid hb
      clear hs hs' hb
      go_wp2_with (fail)
      go_ret
      exact ⟨rfl, HB.out⟩

/-- where the insertion stands behind k numbers -/
def Put (n : Int) (xs : List Int) (k : Nat) (dn : Bool) (out : List Int) : Prop := if dn = true then out ++ xs.drop k = putL n xs else out ++ putL n (xs.drop k) = putL n xs
section
variable {n : Int} {xs out : List Int} {k : Nat}
theorem Put.size {dn : Bool} (h : Put n xs k dn out) (hk : k ≤ xs.length) : out.length ≤ k + 1 := by
  unfold Put at h
  cases dn with
  | true =>
    have := congrArg List.length h
    simp only [List.length_append, putL_length, List.length_drop] at this
    omega
  | false =>
    have := congrArg List.length h
    simp only [List.length_append, putL_length, List.length_drop] at this
    omega
theorem Put.size0 (h : Put n xs k false out) (hk : k ≤ xs.length) : out.length ≤ k := by
  unfold Put at h
  have := congrArg List.length h
  simp only [List.length_append, putL_length, List.length_drop] at this
  omega
theorem Put.start : Put n xs 0 false [] := rfl
theorem Put.pass (h : Put n xs k true out) (hk : k < xs.length) : Put n xs (k + 1) true (out ++ [xs[k]]) := by
  unfold Put at *
  rw [if_pos rfl] at h ⊢
  rw [← h, List.drop_eq_getElem_cons hk]; simp
theorem Put.here (h : Put n xs k false out) (hk : k < xs.length) (hl : n < xs[k]) : Put n xs (k + 1) true (out ++ [n] ++ [xs[k]]) := by
  unfold Put at *
  rw [if_neg (by simp)] at h
  rw [if_pos rfl, ← h, List.drop_eq_getElem_cons hk]
  simp [putL, hl]
theorem Put.on (h : Put n xs k false out) (hk : k < xs.length) (hl : ¬ n < xs[k]) : Put n xs (k + 1) false (out ++ [xs[k]]) := by
  unfold Put at *
  rw [if_neg (by simp)] at h ⊢
  rw [← h, List.drop_eq_getElem_cons hk]
  simp [putL, hl]
theorem Put.done (h : Put n xs k true out) (hk : ¬ k < xs.length) : out = putL n xs := by
  unfold Put at h
  rw [if_pos rfl, List.drop_of_length_le (by omega)] at h
  simpa using h
theorem Put.last (h : Put n xs k false out) (hk : ¬ k < xs.length) : out ++ [n] = putL n xs := by
  unfold Put at h
  rw [if_neg (by simp), List.drop_of_length_le (by omega)] at h
  exact h
end
/-- what Put comes to -/
def Made (n : Int) (xs : List Int) (w : World) (e : Ending) (w' : World) : Prop := ∃ A c, e = .returned (.slice A (xs.length + 1) c) ∧ w'.ownsRow w.heap.size 3 1 (.slice A (xs.length + 1) c) (xs.length + 1) (il (putL n xs)) ∧ Below w.heap.size w w'
theorem Made.mk {n : Int} {xs out : List Int} {w w' : World} {A : Option Addr} {m c : Nat} (he : out = putL n xs) (hm : m = out.length) (ho : w'.ownsRow w.heap.size 3 1 (.slice A m c) m (il out)) (hb : Below w.heap.size w w') : Made n xs w (.returned (.slice A m c)) w' := by
  subst he
  rw [putL_length] at hm
  subst hm
  exact ⟨A, c, rfl, ho, hb⟩
set_option maxRecDepth 100000 in
set_option maxHeartbeats 3200000 in
theorem put_any (A : Option Addr) (c : Nat) (xs : List Int) (n : Int) (w : World) (hm : (xs.length + 1) * 8 ≤ 140737488355328) (hs : Sl w w.heap.size A (il xs)) :
    Calls Try.prog 10 #[.slice A xs.length c, .int .i64 n] w (Made n xs w) := by
  have HS := Lib.hid hs
  clear hs
  go_enter Try.func10, Try.ntmps10
  go_wp2_with (fail)
  go_loopg [5, 6, 7] xs.length (fun gk s5 s6 s7 wr => ∃ (k m c' : Nat) (A' : Option Addr) (dn : Bool) (out : List Int), gk = xs.length - k ∧ k ≤ xs.length ∧ s5 = .slice A' m c' ∧ s6 = .bool dn ∧ s7 = .int .i64 k ∧ m = out.length ∧ Put n xs k dn out ∧ wr.ownsRow w.heap.size 3 1 (.slice A' m c') m (il out) ∧ Below w.heap.size w wr)
  case atStart => exact ⟨0, 0, 0, none, false, [], rfl, Nat.zero_le _, rfl, rfl, rfl, rfl, Put.start, World.ownsRow_nil _ _ _ _, Below.refl _ _⟩
  case round =>
    obtain ⟨k, m, c', A', dn, out, rfl, hk, rfl, rfl, rfl, hmo, hput, hown, hB⟩ := hrel
    have hle := hput.size hk
    have hsz := hB.size
    have hmk : m ≤ k + 1 := by omega
    have HMO := Lib.hid hmo
    have HPT := Lib.hid hput
    clear hmo hle hput
    by_cases hlt : k < xs.length
    · have i1 : (k : Int) < (xs.length : Int) := by omega
      obtain ⟨ad, rfl, hb1, hc⟩ := Sl.int (HS.out.below hB) hlt
      obtain ⟨x, hx⟩ : ∃ x, xs[k] = x := ⟨_, rfl⟩
      rw [hx] at hc
      have HX := Lib.hid hx
      clear hx
      cases dn with
      | true =>
        go_wp2_with (at_builtin
                     refine wpList_append_sl _ rfl (.tmp 28) (.tmp 33) _ rfl w.heap.size 3 _ 8 Try.underlying26 intE (.slice A' m c') m (il out) rfl (World.ownsRow.alloc (w := wr) hown _) _ _ 1 1 [.int .i64 x] rfl (Sl.one wr _ _) rfl (by simp [Value.oneCell']) (by omega) (by unfold maxLen; omega) (by simp; omega) ?_
                     intro v4 w4 hown4 hg4 hat4
                     obtain ⟨A4, c4, rfl, hc4⟩ := own_slice hown4)
        go_roundg (xs.length - (k + 1))
        case measure => omega
        case rel => exact ⟨k + 1, m + 1, c4, A4, true, out ++ [x], rfl, by omega, rfl, rfl, by go_num, by rw [List.length_append, ← HMO.out]; rfl, by rw [← HX.out]; exact HPT.out.pass hlt, by rw [il_append]; exact hown4, below_append hB hsz _ hown (Nat.le_refl _) hg4⟩
      | false =>
        have hm0 : m ≤ k := by have := HPT.out.size0 hk; have := HMO.out; omega
        by_cases hnx : n < x
        · have d1 : decide (n < x) = true := decide_eq_true hnx
          go_wp2_with (first
            | (at_builtin
               refine wpList_append_sl _ rfl (.tmp 24) (.tmp 26) _ rfl w.heap.size 3 _ 8 Try.underlying26 intE (.slice A' m c') m (il out) rfl (World.ownsRow.alloc (w := wr) hown _) _ _ 1 1 [.int .i64 n] rfl (Sl.one wr _ _) rfl (by simp [Value.oneCell']) (by omega) (by unfold maxLen; omega) (by simp; omega) ?_
               intro v3 w3 hown3 hg3 hat3
               obtain ⟨A3, c3, rfl, hc3⟩ := own_slice hown3
               have hB3 := below_append hB hsz _ hown (Nat.le_refl _) hg3
               have hsz3 := hB3.size
               obtain ⟨ad3, had3, hb3, hd⟩ := Sl.int (HS.out.below hB3) hlt
               injection had3 with had3
               subst had3
               rw [HX.out] at hd)
            | (at_builtin
               refine wpList_append_sl _ rfl (.tmp 28) (.tmp 33) _ rfl w.heap.size 3 _ 8 Try.underlying26 intE (.slice A3 (m + 1) c3) (m + 1) (il out ++ [.int .i64 n]) rfl (World.ownsRow.alloc (w := w3) hown3 _) _ _ 1 1 [.int .i64 x] rfl (Sl.one w3 _ _) rfl (by simp [Value.oneCell']) (by omega) (by unfold maxLen; omega) (by simp; omega) ?_
               intro v4 w4 hown4 hg4 hat4
               obtain ⟨A4, c4, rfl, hc4⟩ := own_slice hown4))
          go_roundg (xs.length - (k + 1))
          case measure => omega
          case rel => exact ⟨k + 1, m + 1 + 1, c4, A4, true, out ++ [n] ++ [x], rfl, by omega, rfl, rfl, by go_num, by rw [List.length_append, List.length_append, ← HMO.out]; rfl, by rw [← HX.out]; exact HPT.out.here hlt (by rw [HX.out]; exact hnx), by rw [il_append, il_append]; exact hown4, below_append hB3 hsz3 _ hown3 (Nat.le_refl _) hg4⟩
        · have d1 : decide (n < x) = false := decide_eq_false hnx
          go_wp2_with (at_builtin
                       refine wpList_append_sl _ rfl (.tmp 28) (.tmp 33) _ rfl w.heap.size 3 _ 8 Try.underlying26 intE (.slice A' m c') m (il out) rfl (World.ownsRow.alloc (w := wr) hown _) _ _ 1 1 [.int .i64 x] rfl (Sl.one wr _ _) rfl (by simp [Value.oneCell']) (by omega) (by unfold maxLen; omega) (by simp; omega) ?_
                       intro v4 w4 hown4 hg4 hat4
                       obtain ⟨A4, c4, rfl, hc4⟩ := own_slice hown4)
          go_roundg (xs.length - (k + 1))
          case measure => omega
          case rel => exact ⟨k + 1, m + 1, c4, A4, false, out ++ [x], rfl, by omega, rfl, rfl, by go_num, by rw [List.length_append, ← HMO.out]; rfl, by rw [← HX.out]; exact HPT.out.on hlt (by rw [HX.out]; omega), by rw [il_append]; exact hown4, below_append hB hsz _ hown (Nat.le_refl _) hg4⟩
    · have i1 : ¬ (k : Int) < (xs.length : Int) := by omega
      cases dn with
      | true =>
        go_wp2_with (fail)
        go_ret
        exact Made.mk (HPT.out.done hlt) HMO.out hown hB
      | false =>
        have hm0 : m ≤ k := by have := HPT.out.size0 hk; have := HMO.out; omega
        go_wp2_with (at_builtin
                     refine wpList_append_sl _ rfl (.tmp 37) (.tmp 39) _ rfl w.heap.size 3 _ 8 Try.underlying26 intE (.slice A' m c') m (il out) rfl (World.ownsRow.alloc (w := wr) hown _) _ _ 1 1 [.int .i64 n] rfl (Sl.one wr _ _) rfl (by simp [Value.oneCell']) (by omega) (by unfold maxLen; omega) (by simp; omega) ?_
                     intro v4 w4 hown4 hg4 hat4
                     obtain ⟨A4, c4, rfl, hc4⟩ := own_slice hown4)
        go_ret
        exact Made.mk (out := out ++ [n]) (HPT.out.last hlt) (by rw [List.length_append, ← HMO.out]; rfl) (by rw [il_append]; exact hown4) (below_append hB hsz _ hown (Nat.le_refl _) hg4)
end Go.Proofs.Ytcnncfjplmejhaa.put
