/-
  The contracts of lev.alike and lev.Trim, and of the document's own Trim.
-/
import Derived.Test.YtdfakjpchgomdaaLevT
import Derived.Test.YtdfakjpchgomdaaStep
import Derived.Lib.Strings
namespace Go.Proofs.Ytdfakjpchgomdaa.lev
open Go.RowKit law bytes
set_option linter.unusedVariables false

/-- a value, and nothing but draws -/
def Still (v : Value) (w : World) (e : Ending) (w' : World) : Prop := e = .returned v ∧ ∃ k, w' = w.drewN k
theorem eq_get {a b : ByteArray} {k j : Nat} (h1 : k < a.size) (h2 : j < b.size) (h : a[k]'h1 = b[j]'h2) : (((a[k]'h1).toNat : Int) == ((b[j]'h2).toNat : Int)) = true ∧ (((a[k]'h1).toNat : Int) != ((b[j]'h2).toNat : Int)) = false := by rw [h]; simp
theorem ne_get {a b : ByteArray} {k j : Nat} (h1 : k < a.size) (h2 : j < b.size) (h : a[k]'h1 ≠ b[j]'h2) : (((a[k]'h1).toNat : Int) == ((b[j]'h2).toNat : Int)) = false ∧ (((a[k]'h1).toNat : Int) != ((b[j]'h2).toNat : Int)) = true := by
  have hn : (a[k]'h1).toNat ≠ (b[j]'h2).toNat := fun e => h (UInt8.toNat_inj.1 e)
  have : (((a[k]'h1).toNat : Int) == ((b[j]'h2).toNat : Int)) = false := by simp; omega
  exact ⟨this, by simpa using this⟩

theorem bl_last' {s : ByteArray} {k : Nat} (h : s.size = k + 1) (hk : k < s.size) : bl s = (bl s).take k ++ [s[k]'hk] := by
  have := bl_last s (by omega)
  simp only [show s.size - 1 = k from by omega] at this
  exact this
theorem drop_nil {s : ByteArray} {k : Nat} (h : s.size ≤ k) : (bl s).drop k = [] := List.drop_eq_nil_of_le (by rw [bl_len]; exact h)
theorem ddd (w : World) (a b c : Nat) : ((w.drewN a).drewN b).drewN c = w.drewN (a + b + c) := by rw [World.drewN_drewN, World.drewN_drewN, Nat.add_assoc]
theorem dd (w : World) (a b : Nat) : (w.drewN a).drewN b = w.drewN (a + b) := World.drewN_drewN ..
set_option maxHeartbeats 1600000 in
theorem alike_any (a b : ByteArray) (ha : a.size ≤ 9223372036854775807) (hb : b.size ≤ 9223372036854775807) (w : World) :
    Calls Try.prog 47 #[.string a, .string b] w (Still (.int .i64 (pre (bl a) (bl b) : Nat)) w) := by
  obtain ⟨r, hr⟩ : ∃ r, r = pre (bl a) (bl b) := ⟨_, rfl⟩
  rw [← hr]
  have HR := Lib.hid hr
  clear hr
  go_enter Try.func47, Try.ntmps47
  go_wp2_with (fail)
  go_loopw [5] (fun i wr => ∃ k n : Nat, k ≤ a.size ∧ i = .int .i64 k ∧ Hid (r = k + pre ((bl a).drop k) ((bl b).drop k)) ∧ wr = w.drewN n) (fun i _ => a.size - (intOf i).toNat)
  case atStart => exact ⟨0, 0, Nat.zero_le _, rfl, Lib.hid (by rw [HR.out, Nat.zero_add, List.drop_zero, List.drop_zero]), rfl⟩
  case round =>
    obtain ⟨k, n, hk, rfl, HK, rfl⟩ := hrel
    by_cases h1 : k < a.size
    · by_cases h2 : k < b.size
      · by_cases he : a[k]'h1 = b[k]'h2
        · obtain ⟨q1, q2⟩ := eq_get h1 h2 he
          have hs : r = (k + 1) + pre ((bl a).drop (k + 1)) ((bl b).drop (k + 1)) := by
            rw [HK.out, bl_cons a k h1, bl_cons b k h2, he, pre_same]; omega
          have HS := Lib.hid hs
          clear hs he HK
          go_wp2_with (fail)
          go_quiet (fail)
          go_wp2_with (fail)
          go_roundw
          case rel => exact ⟨k + 1, _, by omega, by go_num, HS, rfl⟩
          case measure => simp [intOf]; omega
        · obtain ⟨q1, q2⟩ := ne_get h1 h2 he
          have hs : r = k := by rw [HK.out, bl_cons a k h1, bl_cons b k h2, pre_other he]; omega
          subst hs
          clear he HK
          go_wp2_with (fail)
          go_quiet (fail)
          go_wp2_with (fail)
          go_ret
          exact ⟨rfl, _, dd _ _ _⟩
      · have hs : r = k := by rw [HK.out, drop_nil (s := b) (by omega), pre_nil']; omega
        subst hs
        have d2 : decide (r < b.size) = false := decide_eq_false h2
        clear HK
        go_wp2_with (fail)
        go_quiet (fail)
        go_wp2_with (fail)
        go_ret
        exact ⟨rfl, _, dd _ _ _⟩
    · have hs : r = k := by rw [HK.out, drop_nil (s := a) (by omega), pre_nil]; omega
      subst hs
      have d1 : decide (r < a.size) = false := decide_eq_false h1
      clear HK
      go_wp2_with (fail)
      go_quiet (fail)
      go_wp2_with (fail)
      go_ret
      exact ⟨rfl, _, dd _ _ _⟩

theorem s_ne {s : ByteArray} (h : 0 < s.size) : (!s.toList.isEmpty) = true ∧ (s.toList == []) = false := by
  rw [ByteArray.toList_eq]
  cases hl : s.data.toList with
  | nil =>
    have h2 : s.data.toList.length = s.size := Array.length_toList
    rw [hl] at h2
    simp at h2
    omega
  | cons x r => simp
set_option maxHeartbeats 1600000 in
theorem trim_any (a b : ByteArray) (ha : a.size ≤ 140737488355328) (hb : b.size ≤ 140737488355328) (w : World) :
    Calls Try.prog 37 #[.string a, .string b] w (Still (.tuple #[.string (of (tr (bl a) (bl b)).1), .string (of (tr (bl a) (bl b)).2)]) w) := by
  have hal := alike_any a b (by omega) (by omega) w
  have hp := pre_le (bl a) (bl b)
  rw [bl_len, bl_len] at hp
  have htr : tr (bl a) (bl b) = stripR ((bl a).drop (pre (bl a) (bl b))) ((bl b).drop (pre (bl a) (bl b))) := by unfold tr; rw [strip_pre]
  obtain ⟨T, hT⟩ : ∃ T, T = tr (bl a) (bl b) := ⟨_, rfl⟩
  rw [← hT] at htr ⊢
  generalize pre (bl a) (bl b) = n at *
  have HT := Lib.hid htr
  have HAL := Lib.hid hal
  clear hT htr hal
  obtain ⟨hp1, hp2⟩ := hp
  go_enter Try.func37, Try.ntmps37
  go_wp2_with (fail)
  refine HAL.out.mono ?_
  rintro e w1 ⟨rfl, n1, rfl⟩
  go_wp2_with (fail)
  go_quiet (fail)
  go_wp2_with (fail)
  go_loopw [0, 1] (fun x y wr => ∃ (s t : ByteArray) (k : Nat), x = .string s ∧ y = .string t ∧ s.size ≤ 140737488355328 ∧ t.size ≤ 140737488355328 ∧ Hid (T = stripR (bl s) (bl t)) ∧ wr = w.drewN k) (fun x y _ => match x with | .string s => s.size | _ => 0)
  case atStart => exact ⟨_, _, _, rfl, rfl, by simp; omega, by simp; omega, Lib.hid (by rw [HT.out, bl_from, bl_from]), dd _ _ _⟩
  case round =>
    obtain ⟨s, t, k, rfl, rfl, hs, ht, HK, rfl⟩ := hrel
    by_cases h1 : 0 < s.size
    · by_cases h2 : 0 < t.size
      · obtain ⟨z1, z2⟩ := s_ne h1
        obtain ⟨z3, z4⟩ := s_ne h2
        obtain ⟨s1, hs1⟩ : ∃ s1, s.size = s1 + 1 := ⟨s.size - 1, by omega⟩
        obtain ⟨t1, ht1⟩ : ∃ t1, t.size = t1 + 1 := ⟨t.size - 1, by omega⟩
        have i1 : s1 < s.size := by omega
        have i2 : t1 < t.size := by omega
        have hw1 : IntKind.i64.wrap ((s.size : Int) - 1) = (s1 : Int) := by rw [IntKind.wrap_i64]; omega
        have hw2 : IntKind.i64.wrap ((t.size : Int) - 1) = (t1 : Int) := by rw [IntKind.wrap_i64]; omega
        have l1 := bl_last' hs1 i1
        have l2 := bl_last' ht1 i2
        have le1 : s1 ≤ s.size := by omega
        have le2 : t1 ≤ t.size := by omega
        have LS := Lib.hid hs1
        have LT := Lib.hid ht1
        clear hs1 ht1
        by_cases he : s[s1]'i1 = t[t1]'i2
        · obtain ⟨q1, q2⟩ := eq_get i1 i2 he
          have hn : T = stripR (bl (s.extract 0 s1)) (bl (t.extract 0 t1)) := by
            rw [HK.out, l1, l2, he, stripR_same, bl_to, bl_to]
          have HN := Lib.hid hn
          have z5 : (s.extract 0 s1).size = s1 := by simp; omega
          have z6 : (t.extract 0 t1).size = t1 := by simp; omega
          have HZ5 := Lib.hid z5
          have HZ6 := Lib.hid z6
          clear hn he HK l1 l2 z5 z6
          go_wp2_with (fail)
          go_quiet (fail)
          go_wp2_with (fail)
          go_quiet (fail)
          go_wp2_with (fail)
          go_roundw
          case rel => exact ⟨_, _, _, rfl, rfl, by rw [HZ5.out]; omega, by rw [HZ6.out]; omega, HN, ddd _ _ _ _⟩
          case measure =>
            show (s.extract 0 s1).size < s.size
            rw [HZ5.out]; exact i1
        · obtain ⟨q1, q2⟩ := ne_get i1 i2 he
          have hn : T = (bl s, bl t) := by rw [HK.out, l1, l2, stripR_other he, ← l1, ← l2]
          subst hn
          simp only [of_bl]
          clear he HK l1 l2
          go_wp2_with (fail)
          go_quiet (fail)
          go_wp2_with (fail)
          refine bodyPost_ret (v := .tuple #[.string s, .string t]) (by simp [results, Try.results37, go_sem]) rfl ?_
          exact ⟨rfl, _, dd _ _ _⟩
      · have z0 : t.size = 0 := by omega
        have ht0 : bl t = [] := List.eq_nil_of_length_eq_zero (by rw [bl_len]; exact z0)
        have hn : T = (bl s, bl t) := by rw [HK.out, ht0, stripR_nil']
        subst hn
        simp only [of_bl]
        obtain rfl : t = ByteArray.empty := by rw [← of_bl t, ht0]; rfl
        obtain ⟨z1, z2⟩ := s_ne h1
        clear HK ht0 h2 z0
        go_wp2_with (fail)
        go_quiet (fail)
        go_wp2_with (fail)
        refine bodyPost_ret (v := .tuple #[.string s, .string ByteArray.empty]) (by simp [results, Try.results37, go_sem]) rfl ?_
        exact ⟨rfl, _, dd _ _ _⟩
    · have z0 : s.size = 0 := by omega
      have ht0 : bl s = [] := List.eq_nil_of_length_eq_zero (by rw [bl_len]; exact z0)
      have hn : T = (bl s, bl t) := by rw [HK.out, ht0, stripR_nil]
      subst hn
      simp only [of_bl]
      obtain rfl : s = ByteArray.empty := by rw [← of_bl s, ht0]; rfl
      clear HK ht0 h1 z0
      go_wp2_with (fail)
      go_quiet (fail)
      go_wp2_with (fail)
      refine bodyPost_ret (v := .tuple #[.string ByteArray.empty, .string t]) (by simp [results, Try.results37, go_sem]) rfl ?_
      exact ⟨rfl, _, dd _ _ _⟩

end Go.Proofs.Ytdfakjpchgomdaa.lev
