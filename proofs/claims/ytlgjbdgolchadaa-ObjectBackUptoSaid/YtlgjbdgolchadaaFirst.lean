/-
  The contracts of package code's first, intOf, and of the document's own number.
-/
import Derived.Test.YtlgjbdgolchadaaWriter
import Derived.Laws.DeepNot64
namespace Go.Proofs.Ytlgjbdgolchadaa.code
open Go.RowKit law bytes nums
set_option linter.unusedVariables false

theorem intOf_any (n : Nat) (hn : U64 n) (w : World) : Calls Try.prog 51 #[.int .u64 n] w fun e w' => e = .returned (.int .i64 (decI n)) ∧ w = w' := by
  unfold U64 at hn
  by_cases hodd : n % 2 = 1
  · have h1 : ((n : Int) % 2 == 1) = true := by simp; omega
    go_enter Try.func51, Try.ntmps51
    go_wp2
    go_ret
    exact ⟨ret_int (by unfold decI; rw [if_pos hodd, show ((n : Int) / 2) = ((n / 2 : Nat) : Int) from by omega, i64_not _ (by omega)]; omega), rfl⟩
  · have h1 : ((n : Int) % 2 == 1) = false := by simp; omega
    go_enter Try.func51, Try.ntmps51
    go_wp2
    go_ret
    exact ⟨ret_int (by unfold decI; rw [if_neg hodd]; omega), rfl⟩

def Told (b : List UInt8) (w : World) (e : Ending) (w' : World) : Prop := e = .returned (.tuple #[.int .u64 (first b).1, .int .i64 (first b).2.1, .int .i64 (first b).2.2]) ∧ w = w'
theorem sh_wrap (k : Nat) (c : UInt8) : IntKind.u64.wrap ((c.toNat : Int) % 128 * 2 ^ (7 * k)) = ((c.toNat % 128 * 128 ^ k % 18446744073709551616 : Nat) : Int) := by
  have e : (c.toNat : Int) % 128 * 2 ^ (7 * k) = ((c.toNat % 128 * 128 ^ k : Nat) : Int) := by
    have hp : (128 : Nat) ^ k = 2 ^ (7 * k) := by rw [Nat.pow_mul]
    rw [hp]
    simp
  rw [e, IntKind.wrap_u64]
  omega
theorem sh_u (x k : Nat) (c : UInt8) (hx : x < 18446744073709551616) : ∃ m : Nat, m < 18446744073709551616 ∧ bits .or .u64 (x : Int) (IntKind.u64.wrap ((c.toNat : Int) % 128 * 2 ^ (7 * k))) = (m : Int) := by
  rw [sh_wrap, u64_or_nat _ _ hx (Nat.mod_lt _ (by omega))]
  exact ⟨_, Nat.or_lt_two_pow (n := 64) hx (Nat.mod_lt _ (by omega)), rfl⟩
theorem sh_eq (x k : Nat) (c : UInt8) (hx : x < 128 ^ k) (hb : 128 ^ k * (c.toNat % 128) + 128 ^ k ≤ 18446744073709551616) : bits .or .u64 (x : Int) (IntKind.u64.wrap ((c.toNat : Int) % 128 * 2 ^ (7 * k))) = ((x + 128 ^ k * (c.toNat % 128) : Nat) : Int) := by
  have hp : (128 : Nat) ^ k = 2 ^ (7 * k) := by rw [Nat.pow_mul]
  have hm : 128 ^ k * (c.toNat % 128) = c.toNat % 128 * 128 ^ k := Nat.mul_comm _ _
  have hlt : c.toNat % 128 * 128 ^ k < 18446744073709551616 := by omega
  rw [sh_wrap, Nat.mod_eq_of_lt hlt, u64_or_nat _ _ (by omega) hlt, Nat.or_comm, nat_join (7 * k) _ _ (by rw [hp]; exact Nat.mul_mod_left _ _) (by rw [← hp]; exact hx), Nat.add_comm, hm]
theorem pow_le_top {k c : Nat} (h : k < 9 ∧ c < 128 ∨ k = 9 ∧ c ≤ 1) : 128 ^ k * c + 128 ^ k ≤ 18446744073709551616 := by
  have e : 128 ^ k * c + 128 ^ k = 128 ^ k * (c + 1) := by rw [Nat.mul_add, Nat.mul_one]
  rw [e]
  rcases h with ⟨h, hc⟩ | ⟨rfl, hc⟩
  · have hp : (128 : Nat) ^ k ≤ 128 ^ 8 := Nat.pow_le_pow_right (by omega) (by omega)
    exact Nat.le_trans (Nat.mul_le_mul hp (show c + 1 ≤ 128 by omega)) (by decide)
  · exact Nat.le_trans (Nat.mul_le_mul_left _ (show c + 1 ≤ 2 by omega)) (by decide)
theorem sh_val (l : List UInt8) (k : Nat) (c : UInt8) (h : k < l.length) (hc : c = l[k]) (hb : k < 9 ∨ k = 9 ∧ c.toNat ≤ 1) :
    bits .or .u64 (val (l.take k) : Int) (IntKind.u64.wrap ((c.toNat : Int) % 128 * 2 ^ (7 * k))) = (val (l.take (k + 1)) : Int) := by
  have hv := val_lt (l.take k)
  rw [List.length_take, Nat.min_eq_left (by omega)] at hv
  rw [sh_eq _ k c hv (pow_le_top (by omega)), val_snoc l k h, hc]
def Seen (l : List UInt8) (k : Nat) : Prop := ∀ j (h : j < l.length), j < k → 128 ≤ l[j].toNat
theorem val_u {l : List UInt8} {k : Nat} (h : k < l.length) (h9 : k < 9) : U64 (val (l.take (k + 1))) := by
  have hv := val_lt (l.take (k + 1))
  have hp : (128 : Nat) ^ (l.take (k + 1)).length ≤ 128 ^ 9 := Nat.pow_le_pow_right (by omega) (by rw [List.length_take]; omega)
  unfold U64
  omega
theorem Seen.next {l : List UInt8} {k : Nat} (h : Seen l k) {c : UInt8} (hk : k < l.length) (hc : c = l[k]) (h128 : 128 ≤ c.toNat) : Seen l (k + 1) := fun j hj hlt => by
  rcases Nat.lt_or_ge j k with h1 | h1
  · exact h j hj h1
  · obtain rfl : j = k := by omega
    rw [← hc]; exact h128
theorem first_bad {l : List UInt8} {k : Nat} {c : UInt8} (h : Seen l k) (hk : k < l.length) (h10 : k < 10) (hc : c = l[k]) (hs : c.toNat < 128) (hb : k = 9 ∧ 1 < c.toNat ∨ 0 < k ∧ c.toNat = 0) : first l = (0, 0, 12) := by
  have hl : lead l = k := lead_of l k (by omega) (by omega) h (fun _ _ => by rw [← hc]; exact hs)
  unfold first
  rw [hl, getD_at l k hk, ← hc]
  rcases hb with hb | ⟨h1, h2⟩
  · rw [if_pos (.inr hb)]
  · by_cases h9 : k = 10 ∨ k = 9 ∧ 1 < c.toNat
    · rw [if_pos h9]
    · rw [if_neg h9, if_neg (by omega), if_pos ⟨h1, UInt8.toNat_inj.1 h2⟩]
theorem first_good {l : List UInt8} {k : Nat} {c : UInt8} (h : Seen l k) (hk : k < l.length) (h10 : k < 10) (hc : c = l[k]) (hs : c.toNat < 128) (h1 : ¬ (k = 9 ∧ 1 < c.toNat)) (h2 : ¬ (0 < k ∧ c.toNat = 0)) : first l = (val (l.take (k + 1)), k + 1, 0) := by
  have hl : lead l = k := lead_of l k (by omega) (by omega) h (fun _ _ => by rw [← hc]; exact hs)
  unfold first
  rw [hl, getD_at l k hk, ← hc, if_neg (by omega), if_neg (by omega), if_neg]
  rintro ⟨a, b⟩
  exact h2 ⟨a, by rw [b]; rfl⟩
theorem first_end {l : List UInt8} {k : Nat} (h : Seen l k) (hk : k ≤ l.length) (h10 : k ≤ 10) (he : ¬ (k < l.length ∧ k < 10)) : first l = (0, 0, if l.length < 10 then 13 else 12) := by
  have hl : lead l = k := lead_of l k hk h10 h (fun a b => absurd ⟨a, b⟩ he)
  unfold first
  rw [hl]
  by_cases h1 : k = 10
  · rw [if_pos (.inl h1), if_neg (by omega)]
  · obtain rfl : k = l.length := by omega
    rw [getD_end l _ (Nat.le_refl _), if_neg (by simp; omega), if_pos rfl, if_pos (by omega)]
set_option maxHeartbeats 1000000 in
set_option maxRecDepth 100000 in
theorem first_any (A : Option Addr) (l : List UInt8) (c B : Nat) (w : World) (hm : l.length ≤ 281474976710656) (hc : l.length ≤ c) (hs : Sl w B A (bv l)) :
    Calls Try.prog 61 #[.slice A l.length c] w (Told l w) := by
  have hmax : (max 10 0 : Int) = 10 := by decide
  by_cases hle : l.length ≤ 10
  all_goals
    go_enter Try.func61, Try.ntmps61
    go_wp2
    go_loop [5, 15] (fun x i => ∃ k m : Nat, k ≤ l.length ∧ k ≤ 10 ∧ i = .int .i64 k ∧ x = .int .u64 m ∧ U64 m ∧ (k ≤ 9 → m = val (l.take k)) ∧ Seen l k) (fun _ i => 10 - (intOf i).toNat)
    case atStart => exact ⟨0, 0, Nat.zero_le _, Nat.zero_le _, rfl, rfl, by unfold U64; omega, fun _ => rfl, fun j _ h => absurd h (by omega)⟩
    case round =>
      obtain ⟨k, m, hk, hk10, rfl, rfl, hm64, hv0, hseen⟩ := hrel
      by_cases hlt : k < l.length ∧ k < 10
      · obtain ⟨hlt, hlt10⟩ := hlt
        obtain ⟨ad, rfl, hb, hcell⟩ := hs.byte hlt
        have hv := Lib.hid (hv0 (by omega))
        clear hv0
        obtain ⟨cx, hcx⟩ : ∃ cx, cx = l[k] := ⟨_, rfl⟩
        rw [← hcx] at hcell
        have HC := Lib.hid hcx
        have hcb : cx.toNat < 256 := cx.toNat_lt
        clear hcx
        by_cases hmore : 128 ≤ cx.toNat
        · have hd : decide ((cx.toNat : Int) < 128) = false := decide_eq_false (by omega)
          go_wp2
          go_round
          case rel =>
            by_cases h9 : k < 9
            · exact ⟨k + 1, val (l.take (k + 1)), by omega, by omega, by go_num, by rw [hv.out, sh_val l k cx hlt HC.out (.inl h9)], val_u hlt h9, fun _ => rfl, hseen.next hlt HC.out hmore⟩
            · obtain ⟨m1, hm1, e1⟩ := sh_u m k cx hm64
              exact ⟨k + 1, m1, by omega, by omega, by go_num, by rw [e1], hm1, fun h => absurd h (by omega), hseen.next hlt HC.out hmore⟩
          case measure => simp [intOf]; omega
        · have hd : decide ((cx.toNat : Int) < 128) = true := decide_eq_true (by omega)
          have hgood := fun h1 h2 => first_good hseen hlt hlt10 HC.out (by omega) h1 h2
          have hbad := fun h => first_bad hseen hlt hlt10 HC.out (by omega) h
          have hval := fun h => sh_val l k cx hlt HC.out h
          clear hm64
          by_cases hbd : k = 9 ∧ 1 < cx.toNat ∨ 0 < k ∧ cx.toNat = 0
          · have HF := Lib.hid (hbad hbd)
            clear hgood hbad hval
            by_cases h9 : k = 9
            · have hd3 : ((k : Int) + 1 == 10) = true := by simp; omega
              have hd4 : decide ((1 : Int) < (k : Int) + 1) = true := decide_eq_true (by omega)
              by_cases h1 : 1 < cx.toNat
              · have hd1 : decide ((1 : Int) < (cx.toNat : Int)) = true := decide_eq_true (by omega)
                clear hbd h9
                go_wp2
                go_ret3
                exact ⟨by rw [HF.out]; rfl, rfl⟩
              · have hd1 : decide ((1 : Int) < (cx.toNat : Int)) = false := decide_eq_false (by omega)
                have hd2 : ((cx.toNat : Int) == 0) = true := by simp; omega
                clear hbd h9
                go_wp2
                go_ret3
                exact ⟨by rw [HF.out]; rfl, rfl⟩
            · have hd2 : ((cx.toNat : Int) == 0) = true := by simp; omega
              have hd3 : ((k : Int) + 1 == 10) = false := by simp; omega
              have hd4 : decide ((1 : Int) < (k : Int) + 1) = true := decide_eq_true (by omega)
              clear hbd
              go_wp2
              go_ret3
              exact ⟨by rw [HF.out]; rfl, rfl⟩
          · have HF := Lib.hid (hgood (by omega) (by omega))
            have HV := Lib.hid (hval (by omega))
            clear hgood hbad hval
            by_cases h9 : k = 9
            · have hd3 : ((k : Int) + 1 == 10) = true := by simp; omega
              have hd4 : decide ((1 : Int) < (k : Int) + 1) = true := decide_eq_true (by omega)
              have hd1 : decide ((1 : Int) < (cx.toNat : Int)) = false := decide_eq_false (by omega)
              have hd2 : ((cx.toNat : Int) == 0) = false := by simp; omega
              clear hbd h9
              go_wp2
              go_ret3
              exact ⟨by rw [HF.out, ← HV.out, ← hv.out]; rfl, rfl⟩
            · have hd3 : ((k : Int) + 1 == 10) = false := by simp; omega
              by_cases h0 : k = 0
              · have hd4 : decide ((1 : Int) < (k : Int) + 1) = false := decide_eq_false (by omega)
                clear hbd h9 h0
                go_wp2
                go_ret3
                exact ⟨by rw [HF.out, ← HV.out, ← hv.out]; rfl, rfl⟩
              · have hd4 : decide ((1 : Int) < (k : Int) + 1) = true := decide_eq_true (by omega)
                have hd2 : ((cx.toNat : Int) == 0) = false := by simp; omega
                clear hbd h9 h0
                go_wp2
                go_ret3
                exact ⟨by rw [HF.out, ← HV.out, ← hv.out]; rfl, rfl⟩
      · have HF := Lib.hid (first_end hseen hk hk10 hlt)
        clear hm64 hv0
        by_cases he : l.length < 10
        · have hA : decide (k < l.length) = false := decide_eq_false (by omega)
          have hC : decide ((l.length : Int) < 10) = true := decide_eq_true (by omega)
          rw [if_pos he] at HF
          have h10' : ¬ 10 < l.length := by omega
          clear he hk10 hlt
          first
            | (exfalso; omega)
            | (go_wp2
               go_ret3
               exact ⟨by rw [HF.out]; rfl, rfl⟩)
        · have hC : decide ((l.length : Int) < 10) = false := decide_eq_false (by omega)
          have e1 : k = 10 := by omega
          have hB : decide ((k : Int) < 10) = false := decide_eq_false (by omega)
          rw [if_neg he] at HF
          have h1 : l.length ≤ 10 ∨ 10 < l.length := by omega
          by_cases h2 : l.length = 10
          · have hA : decide (k < l.length) = false := decide_eq_false (by omega)
            clear he hlt e1 h2 h1
            first
              | (go_wp2
                 go_ret3
                 exact ⟨by rw [HF.out]; rfl, rfl⟩)
              | (exfalso; omega)
          · clear hlt e1 h1
            first
              | (exfalso; omega)
              | (go_wp2
                 go_ret3
                 exact ⟨by rw [HF.out]; rfl, rfl⟩)
end Go.Proofs.Ytlgjbdgolchadaa.code
