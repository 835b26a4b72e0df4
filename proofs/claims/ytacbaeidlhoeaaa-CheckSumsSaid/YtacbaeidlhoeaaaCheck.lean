/-
  The contracts of package check and of the document's own answers for layer 2: sums, the comparison of bytes, the number that eight bytes are; each leaves the world alone, but for draws.
-/
import Derived.Test.YtacbaeidlhoeaaaSum
import Derived.Test.YtacbaeidlhoeaaaQuiet
import Derived.Lib.Hide
import Derived.Laws.BitsAllLaws
namespace Go.Proofs.Ytacbaeidlhoeaaa.check
open Go.RowKit law bytes sum
set_option linter.unusedVariables false

theorem u64_byte (c : UInt8) : IntKind.u64.wrap (c.toNat : Int) = (c.toNat : Int) := by rw [IntKind.wrap_u64]; have := byte_u c; omega
theorem st_eq (h : Nat) (hh : U64 h) (c : UInt8) : IntKind.u64.wrap (bits .xor .u64 (h : Int) (IntKind.u64.wrap (c.toNat : Int)) * 1099511628211) = (st h c : Int) := by
  rw [u64_byte, u64_xor_nat h c.toNat hh (by have := byte_u c; omega), IntKind.wrap_u64]
  unfold st
  omega

set_option maxHeartbeats 400000 in
theorem more_any (h : Nat) (hh : U64 h) (A : Option Addr) (l : List UInt8) (n c B : Nat) (w : World) (hn : l.length = n) (hm : n ≤ 281474976710656) (hs : Sl w B A (bv l)) :
    Calls Try.prog 20 #[.int .u64 h, .slice A n c] w fun e w' => e = .returned (.int .u64 (more h l)) ∧ w = w' := by
  subst hn
  go_enter Try.func20, Try.ntmps20
  go_wp2
  go_loop [0, 9] (fun x i => ∃ k : Nat, k ≤ l.length ∧ i = .int .i64 k ∧ x = .int .u64 (more h (l.take k))) (fun _ i => l.length - (intOf i).toNat)
  case atStart => exact ⟨0, Nat.zero_le _, rfl, rfl⟩
  case round =>
    obtain ⟨k, hk, rfl, rfl⟩ := hrel
    by_cases hlt : k < l.length
    · obtain ⟨ad, rfl, hb, hc⟩ := hs.byte hlt
      have H := Lib.hid (st_eq (more h (l.take k)) (more_u hh _) l[k])
      have H2 := Lib.hid (more_snoc h l k hlt)
      clear hs
      go_wp2
      go_round
      case rel => exact ⟨k + 1, by omega, by go_num, by rw [H2.out, ← H.out]⟩
      case measure => simp [intOf]; omega
    · go_wp2
      go_ret
      exact ⟨ret_int (by rw [List.take_of_length_le (by omega)]), rfl⟩
theorem rst_eq (h : Nat) (hh : U64 h) (c : UInt8) :
    IntKind.u64.wrap (IntKind.u64.wrap (IntKind.u64.wrap (IntKind.u64.wrap ((h : Int) - (h : Int) % 256) + IntKind.u64.wrap (bits .xor .u8 ((h : Int) % 256) (c.toNat : Int))) * 1099511627776) +
      IntKind.u64.wrap (IntKind.u64.wrap (IntKind.u64.wrap ((h : Int) - (h : Int) % 256) + IntKind.u64.wrap (bits .xor .u8 ((h : Int) % 256) (c.toNat : Int))) * 435)) = (st h c : Int) := by
  have hc := byte_u c
  have e : (h : Int) % 256 = ((h % 256 : Nat) : Int) := by omega
  have hx : (h % 256) ^^^ c.toNat < 2 ^ 8 := Nat.xor_lt_two_pow (by omega) (by omega)
  have hl := xor_low h c.toNat hc
  unfold U64 at hh
  rw [e, u8_xor_nat (h % 256) c.toNat (by omega) hc]
  unfold st
  rw [hl]
  generalize (h % 256) ^^^ c.toNat = y at *
  simp only [IntKind.wrap_u64]
  omega
theorem or_eq (x k : Nat) (c : UInt8) (hk : k < 8) (hx : x < 256 ^ k) : bits .or .u64 (x : Int) (IntKind.u64.wrap (IntKind.u64.wrap (c.toNat : Int) * 2 ^ (8 * k))) = ((x + c.toNat * 256 ^ k : Nat) : Int) := by
  have hc := byte_u c
  have hp : (256 : Nat) ^ k = 2 ^ (8 * k) := by rw [Nat.pow_mul]
  have hb : 256 ^ k * 256 ≤ 256 ^ 8 := by rw [← Nat.pow_succ]; exact Nat.pow_le_pow_right (by omega) (by omega)
  have hy : c.toNat * 256 ^ k < 256 ^ k * 256 := by rw [Nat.mul_comm]; exact Nat.mul_lt_mul_of_pos_left hc (Nat.pos_of_ne_zero (by intro h; omega))
  have e1 : IntKind.u64.wrap ((c.toNat : Int) * 2 ^ (8 * k)) = ((c.toNat * 256 ^ k : Nat) : Int) := by
    rw [IntKind.wrap_u64, hp]
    rw [hp] at hy hb
    have : ((c.toNat * 2 ^ (8 * k) : Nat) : Int) = (c.toNat : Int) * 2 ^ (8 * k) := by simp
    rw [← this]
    omega
  rw [u64_byte, e1, u64_or_nat _ _ (by omega) (by omega), Nat.or_comm, nat_join (8 * k) _ _ (by rw [hp]; exact Nat.mul_mod_left _ _) (by rw [← hp]; exact hx), Nat.add_comm]

theorem of_any (A : Option Addr) (l : List UInt8) (n c B : Nat) (w : World) (hn : l.length = n) (hm : n ≤ 281474976710656) (hs : Sl w B A (bv l)) :
    Calls Try.prog 22 #[.slice A n c] w fun e w' => e = .returned (.int .u64 (sum l)) ∧ w = w' := by
  have hx := more_any start0 start0_u A l n c B w hn hm hs
  rw [start0_int] at hx
  go_enter Try.func22, Try.ntmps22
  go_wp2_with (go_at_call 20; refine hx.mono ?_; rintro e w' ⟨rfl, rfl⟩)
  go_ret
  exact ⟨rfl, rfl⟩

set_option maxHeartbeats 400000 in
theorem rmore_any (h : Nat) (hh : U64 h) (A : Option Addr) (l : List UInt8) (n c B : Nat) (w : World) (hn : l.length = n) (hm : n ≤ 281474976710656) (hs : Sl w B A (bv l)) :
    Calls Try.prog 21 #[.int .u64 h, .slice A n c] w fun e w' => e = .returned (.int .u64 (more h l)) ∧ w = w' := by
  subst hn
  go_enter Try.func21, Try.ntmps21
  go_wp2
  go_loop [0, 5] (fun x i => ∃ k : Nat, k ≤ l.length ∧ i = .int .i64 k ∧ x = .int .u64 (more h (l.take k))) (fun _ i => l.length - (intOf i).toNat)
  case atStart => exact ⟨0, Nat.zero_le _, rfl, rfl⟩
  case round =>
    obtain ⟨k, hk, rfl, rfl⟩ := hrel
    by_cases hlt : k < l.length
    · obtain ⟨ad, rfl, hb, hc⟩ := hs.byte hlt
      have H2 := Lib.hid (more_snoc h l k hlt)
      have HU := Lib.hid (more_u hh (l.take k))
      clear hs
      go_wp2
      go_round
      case rel => exact ⟨k + 1, by omega, by go_num, by rw [H2.out, ← rst_eq _ HU.out]⟩
      case measure => simp [intOf]; omega
    · go_wp2
      go_ret
      exact ⟨ret_int (by rw [List.take_of_length_le (by omega)]), rfl⟩

theorem rof_any (A : Option Addr) (l : List UInt8) (n c B : Nat) (w : World) (hn : l.length = n) (hm : n ≤ 281474976710656) (hs : Sl w B A (bv l)) :
    Calls Try.prog 23 #[.slice A n c] w fun e w' => e = .returned (.int .u64 (sum l)) ∧ w = w' := by
  have hx := rmore_any start0 start0_u A l n c B w hn hm hs
  rw [start0_int] at hx
  go_enter Try.func23, Try.ntmps23
  go_wp2_with (go_at_call 21; refine hx.mono ?_; rintro e w' ⟨rfl, rfl⟩)
  go_ret
  exact ⟨rfl, rfl⟩

set_option maxHeartbeats 400000 in
theorem number_any (A : Option Addr) (l : List UInt8) (n c B : Nat) (w : World) (h8 : n = 8) (hn : l.length = n) (hs : Sl w B A (bv l)) :
    Calls Try.prog 29 #[.slice A n c] w fun e w' => e = .returned (.int .u64 (Lib.leNat l)) ∧ w = w' := by
  subst h8
  have HN := Lib.hid hn
  clear hn
  go_enter Try.func29, Try.ntmps29
  go_wp2
  go_loop [3, 5] (fun x i => ∃ k : Nat, k ≤ 8 ∧ i = .int .i64 k ∧ x = .int .u64 (Lib.leNat (l.take k))) (fun _ i => 8 - (intOf i).toNat)
  case atStart => exact ⟨0, Nat.zero_le _, rfl, rfl⟩
  case round =>
    obtain ⟨k, hk, rfl, rfl⟩ := hrel
    by_cases hlt : k < 8
    · have hlk : k < l.length := by have := HN.out; omega
      have hk' : k ≤ l.length := by omega
      obtain ⟨ad, rfl, hb, hc⟩ := hs.byte hlk
      have H2 := Lib.hid (leN_snoc l k hlk)
      have H3 := Lib.hid (or_eq _ k l[k] hlt (by have := leN_lt (l.take k); rw [List.length_take, Nat.min_eq_left hk'] at this; exact this))
      clear hs
      go_wp2
      go_round
      case rel => exact ⟨k + 1, by omega, by go_num, by rw [H2.out, ← H3.out]⟩
      case measure => simp [intOf]; omega
    · go_wp2
      go_ret
      exact ⟨ret_int (by have := HN.out; rw [List.take_of_length_le (by omega)]), rfl⟩

/-- a bool, and nothing but draws -/
def Tells (b : Bool) (w : World) (e : Ending) (w' : World) : Prop := e = .returned (.bool b) ∧ ∃ k, w' = w.drewN k

def Alike (l m : List UInt8) (k : Nat) : Prop := l.take k = m.take k
theorem Alike.zero {l m : List UInt8} : Alike l m 0 := by simp [Alike]
theorem Alike.step {l m : List UInt8} {k : Nat} (h : Alike l m k) (h1 : k < l.length) (h2 : k < m.length) (he : l[k] = m[k]) : Alike l m (k + 1) := by
  unfold Alike at *
  rw [List.take_succ_eq_append_getElem h1, List.take_succ_eq_append_getElem h2, h, he]
theorem Alike.all {l m : List UInt8} {k : Nat} (h : Alike l m k) (hl : m.length = l.length) (hk : l.length ≤ k) : l = m := by
  unfold Alike at h
  rwa [List.take_of_length_le hk, List.take_of_length_le (by omega)] at h

set_option maxHeartbeats 800000 in
theorem same_len (A A' : Option Addr) (n n' c c' : Nat) (w : World) (hne : n ≠ n') :
    Calls Try.prog 24 #[.slice A n c, .slice A' n' c'] w (Tells false w) := by
  have h1 : ((n : Int) == (n' : Int)) = false := by simp; omega
  have h2 : ((n : Int) != (n' : Int)) = true := by simp; omega
  go_enter Try.func24, Try.ntmps24
  go_wp2
  go_ret
  exact ⟨rfl, 0, rfl⟩

set_option maxHeartbeats 800000 in
theorem same_eqlen (A A' : Option Addr) (l m : List UInt8) (c c' B B' : Nat) (w : World) (hl : m.length = l.length) (hm : l.length ≤ 281474976710656) (hs : Sl w B A (bv l)) (hs' : Sl w B' A' (bv m)) :
    Calls Try.prog 24 #[.slice A l.length c, .slice A' l.length c'] w (Tells (decide (l = m)) w) := by
  have HL := Lib.hid hl
  clear hl
  go_enter Try.func24, Try.ntmps24
  go_wp2
  go_loopw [5] (fun i wr => ∃ k j : Nat, k ≤ l.length ∧ i = .int .i64 k ∧ Alike l m k ∧ wr = w.drewN j) (fun i _ => l.length - (intOf i).toNat)
  case atStart => exact ⟨0, 0, Nat.zero_le _, rfl, Alike.zero, rfl⟩
  case round =>
    obtain ⟨k, j, hk, rfl, HT, rfl⟩ := hrel
    by_cases hlt : k < l.length
    · have hlm : k < m.length := by have := HL.out; omega
      obtain ⟨ad, rfl, hb, hc⟩ := hs.byte hlt
      obtain ⟨ad', rfl, hb', hc'⟩ := hs'.byte hlm
      by_cases he : l[k] = m[k]
      · have HE := Lib.hid he
        rw [← he] at hc'
        clear he hs hs'
        go_wp2
        go_quiet (fail)
        go_wp2
        go_roundw
        case rel => exact ⟨k + 1, _, by omega, by go_num, HT.step hlt hlm HE.out, rfl⟩
        case measure => simp [intOf]; omega
      · have HE := Lib.hid he
        have h1 : ((l[k].toNat : Int) == (m[k].toNat : Int)) = false := by
          have : l[k].toNat ≠ m[k].toNat := fun h => he (UInt8.toNat_inj.1 h)
          simp; omega
        have h2 : ((l[k].toNat : Int) != (m[k].toNat : Int)) = true := by simpa using h1
        clear he hs hs'
        go_wp2
        go_quiet (fail)
        go_wp2
        go_ret
        exact ⟨ret_bool (by symm; exact decide_eq_false (fun h => HE.out (by subst h; rfl))), _, World.drewN_drewN _ _ _⟩
    · go_wp2
      go_ret
      exact ⟨ret_bool (by symm; exact decide_eq_true (HT.all HL.out (by omega))), _, rfl⟩
theorem same_any (A A' : Option Addr) (l m : List UInt8) (n n' c c' B B' : Nat) (w : World) (hl : l.length = n) (hl' : m.length = n') (hm : n ≤ 281474976710656) (hs : Sl w B A (bv l)) (hs' : Sl w B' A' (bv m)) :
    Calls Try.prog 24 #[.slice A n c, .slice A' n' c'] w (Tells (decide (l = m)) w) := by
  by_cases h : n = n'
  · subst h; subst hl
    exact same_eqlen A A' l m c c' B B' w hl' hm hs hs'
  · rw [decide_eq_false (fun e => h (by subst e; omega))]
    exact same_len A A' n n' c c' w h
end Go.Proofs.Ytacbaeidlhoeaaa.check
