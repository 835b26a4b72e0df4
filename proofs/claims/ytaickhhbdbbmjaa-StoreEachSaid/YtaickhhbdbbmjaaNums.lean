/-
  Program-free: numbers as bytes of seven bits, there and back; parts, what they are written as, what reads of bytes tell.
-/
import Derived.Test.YtaickhhbdbbmjaaLaw
namespace Go.Proofs.Ytaickhhbdbbmjaa.nums

/-! ### numbers as bytes -/
def encB (n : Nat) : List UInt8 :=
  if n < 128 then [UInt8.ofNat n] else UInt8.ofNat (n % 128 + 128) :: encB (n / 128)
termination_by n
decreasing_by omega
theorem encB_lo {n : Nat} (h : n < 128) : encB n = [UInt8.ofNat n] := by rw [encB, if_pos h]
theorem encB_hi {n : Nat} (h : 128 ≤ n) : encB n = UInt8.ofNat (n % 128 + 128) :: encB (n / 128) := by rw [encB, if_neg (by omega)]
theorem u8_of {n : Nat} (h : n < 256) : (UInt8.ofNat n).toNat = n := by rw [UInt8.toNat_ofNat']; omega
theorem u8_back (c : UInt8) : UInt8.ofNat c.toNat = c := by simp

/-- all bytes but the last one say that one follows -/
theorem encB_form (n : Nat) : ∃ (init : List UInt8) (last : UInt8), encB n = init ++ [last] ∧ (∀ c ∈ init, 128 ≤ c.toNat) ∧ last.toNat < 128 ∧ (init ≠ [] → last ≠ 0) ∧ last.toNat * 128 ^ init.length ≤ n := by
  induction n using Nat.strongRecOn with
  | ind n ih =>
    by_cases h : n < 128
    · exact ⟨[], UInt8.ofNat n, by rw [encB_lo h]; rfl, by simp, by rw [u8_of (by omega)]; exact h, by simp, by rw [u8_of (by omega)]; simp⟩
    · obtain ⟨init, last, e, hc, hl, h0, hb⟩ := ih (n / 128) (by omega)
      refine ⟨UInt8.ofNat (n % 128 + 128) :: init, last, by rw [encB_hi (by omega), e]; rfl, ?_, hl, ?_, ?_⟩
      · intro c hm
        rcases List.mem_cons.1 hm with rfl | hm
        · rw [u8_of (by omega)]; omega
        · exact hc c hm
      · intro _ hz
        by_cases hi : init = []
        · subst hi
          rw [hz] at e
          rcases Nat.lt_or_ge (n / 128) 128 with hlt | hge
          · rw [encB_lo hlt] at e
            have : UInt8.ofNat (n / 128) = 0 := by simpa using e
            have := congrArg UInt8.toNat this
            rw [u8_of (by omega)] at this
            simp at this
            omega
          · rw [encB_hi hge] at e
            have h1 := congrArg List.length e
            have h2 : 0 < (encB (n / 128 / 128)).length := by
              rw [encB]; split <;> simp
            simp only [List.length_cons, List.length_append, List.length_nil] at h1
            omega
        · exact h0 hi hz
      · rw [List.length_cons, Nat.pow_succ]
        have h1 : last.toNat * (128 ^ init.length * 128) = last.toNat * 128 ^ init.length * 128 := by rw [Nat.mul_assoc]
        omega
theorem encB_pos (n : Nat) : 0 < (encB n).length := by rw [encB]; split <;> simp
theorem encB_len {n : Nat} (h : n < 18446744073709551616) : (encB n).length ≤ 10 := by
  obtain ⟨init, last, e, hc, hl, h0, hb⟩ := encB_form n
  rw [e, List.length_append, List.length_singleton]
  rcases Nat.lt_or_ge 9 init.length with hlt | hge
  · have hi : init ≠ [] := by intro e; rw [e] at hlt; simp at hlt
    have hz := h0 hi
    have h1 : 1 ≤ last.toNat := by
      rcases Nat.eq_zero_or_pos last.toNat with hz' | hz'
      · exact absurd (UInt8.toNat_inj.1 (hz'.trans (by rfl))) hz
      · exact hz'
    have h2 : 128 ^ 10 ≤ 128 ^ init.length := Nat.pow_le_pow_right (by omega) hlt
    have h3 : 1 * 128 ^ init.length ≤ last.toNat * 128 ^ init.length := Nat.mul_le_mul_right _ h1
    omega
  · omega

/-- what bytes of seven bits are -/
def val : List UInt8 → Nat
  | [] => 0
  | c :: r => c.toNat % 128 + 128 * val r
theorem val_append (l m : List UInt8) : val (l ++ m) = val l + 128 ^ l.length * val m := by
  induction l with
  | nil => simp [val]
  | cons c r ih =>
    simp only [List.cons_append, val, ih, List.length_cons, Nat.pow_succ]
    rw [Nat.mul_add, Nat.mul_comm (128 ^ r.length) 128, Nat.mul_assoc, Nat.add_assoc]
theorem val_lt (l : List UInt8) : val l < 128 ^ l.length := by
  induction l with
  | nil => simp [val]
  | cons c r ih => simp only [val, List.length_cons, Nat.pow_succ]; omega
theorem val_snoc (l : List UInt8) (k : Nat) (h : k < l.length) : val (l.take (k + 1)) = val (l.take k) + 128 ^ k * (l[k].toNat % 128) := by
  rw [List.take_succ_eq_append_getElem h, val_append, List.length_take, Nat.min_eq_left (by omega)]
  simp [val]
theorem val_drop (l : List UInt8) (k : Nat) (h : k < l.length) : val (l.drop k) = l[k].toNat % 128 + 128 * val (l.drop (k + 1)) := by
  rw [List.drop_eq_getElem_cons h]
  rfl
theorem val_drop_le (l : List UInt8) (k : Nat) : val (l.drop k) ≤ val l := by
  induction k generalizing l with
  | zero => simp
  | succ k ih =>
    cases l with
    | nil => simp
    | cons c r => rw [List.drop_succ_cons]; have := ih r; simp only [val]; omega
theorem encB_val (init : List UInt8) (last : UInt8) (hc : ∀ c ∈ init, 128 ≤ c.toNat) (hl : last.toNat < 128) (h0 : init ≠ [] → last ≠ 0) : encB (val (init ++ [last])) = init ++ [last] := by
  induction init with
  | nil =>
    simp only [List.nil_append, val]
    rw [encB_lo (by omega), show last.toNat % 128 + 128 * 0 = last.toNat from by omega, u8_back]
  | cons c r ih =>
    have hcc := hc c (by simp)
    have hz := h0 (by simp)
    have hpos : 1 ≤ val (r ++ [last]) := by
      rw [val_append]
      have h1 : 1 ≤ last.toNat := by
        rcases Nat.eq_zero_or_pos last.toNat with hz' | hz'
        · exact absurd (UInt8.toNat_inj.1 (hz'.trans (by rfl))) hz
        · exact hz'
      have h2 : 1 ≤ 128 ^ r.length := Nat.one_le_pow _ _ (by omega)
      have h3 : val [last] = last.toNat := by simp only [val]; omega
      rw [h3]
      have := Nat.mul_le_mul h2 h1
      omega
    have h8 : c.toNat < 256 := c.toNat_lt
    have ih' := ih (fun c hm => hc c (by simp [hm])) (fun _ => hz)
    simp only [List.cons_append, val]
    rw [encB_hi (by omega), show (c.toNat % 128 + 128 * val (r ++ [last])) % 128 + 128 = c.toNat from by omega,
      show (c.toNat % 128 + 128 * val (r ++ [last])) / 128 = val (r ++ [last]) from by omega, ih', u8_back]
theorem val_encB (n : Nat) : val (encB n) = n := by
  induction n using Nat.strongRecOn with
  | ind n ih =>
    by_cases h : n < 128
    · rw [encB_lo h]; simp only [val]; rw [u8_of (by omega)]; omega
    · rw [encB_hi (by omega)]; simp only [val]; rw [u8_of (by omega), ih _ (by omega)]; omega

/-! ### what stands first -/
/-- how many bytes ahead say that one follows, of ten -/
def leadF : Nat → List UInt8 → Nat
  | 0, _ => 0
  | _ + 1, [] => 0
  | f + 1, c :: r => if 128 ≤ c.toNat then leadF f r + 1 else 0
def lead (b : List UInt8) : Nat := leadF 10 b
theorem leadF_spec (f : Nat) (b : List UInt8) : leadF f b ≤ f ∧ leadF f b ≤ b.length ∧ (∀ j (h : j < b.length), j < leadF f b → 128 ≤ b[j].toNat) ∧ (∀ h : leadF f b < b.length, leadF f b < f → b[leadF f b].toNat < 128) := by
  induction f generalizing b with
  | zero => exact ⟨by simp [leadF], by simp [leadF], by simp [leadF], by simp [leadF]⟩
  | succ f ih =>
    cases b with
    | nil => exact ⟨by simp [leadF], by simp [leadF], by simp [leadF], by simp⟩
    | cons c r =>
      obtain ⟨h1, h2, h3, h4⟩ := ih r
      by_cases hc : 128 ≤ c.toNat
      · have e : leadF (f + 1) (c :: r) = leadF f r + 1 := by simp [leadF, hc]
        simp only [e]
        refine ⟨by omega, by simp; omega, ?_, ?_⟩
        · intro j hj hlt
          cases j with
          | zero => exact hc
          | succ j => simpa using h3 j (by simpa using hj) (by omega)
        · intro h hf
          simpa using h4 (by simpa using h) (by omega)
      · have e : leadF (f + 1) (c :: r) = 0 := by simp [leadF, hc]
        simp only [e]
        exact ⟨by omega, by simp, by intro j _ hj; omega, by intro _ _; simpa using hc⟩
theorem lead_le (b : List UInt8) : lead b ≤ 10 := (leadF_spec 10 b).1
theorem lead_len (b : List UInt8) : lead b ≤ b.length := (leadF_spec 10 b).2.1
theorem lead_more (b : List UInt8) {j : Nat} (h : j < b.length) (hj : j < lead b) : 128 ≤ b[j].toNat := (leadF_spec 10 b).2.2.1 j h hj
theorem lead_stop (b : List UInt8) (h : lead b < b.length) (h10 : lead b < 10) : b[lead b].toNat < 128 := (leadF_spec 10 b).2.2.2 h h10
theorem lead_of (b : List UInt8) (k : Nat) (hk : k ≤ b.length) (h10 : k ≤ 10) (hall : ∀ j (h : j < b.length), j < k → 128 ≤ b[j].toNat) (hstop : ∀ h : k < b.length, k < 10 → b[k].toNat < 128) : lead b = k := by
  rcases Nat.lt_trichotomy (lead b) k with h | h | h
  · have h1 := lead_stop b (by omega) (by omega)
    have h2 := hall _ (by omega) h
    omega
  · exact h
  · have h1 := lead_more b (j := k) (by have := lead_len b; omega) h
    have h2 := hstop (by have := lead_len b; omega) (by have := lead_le b; omega)
    omega

/-- the number, how many bytes it is, what is wrong -/
def first (b : List UInt8) : Nat × Nat × Int :=
  if lead b = 10 ∨ lead b = 9 ∧ 1 < (b.getD (lead b) 0).toNat then (0, 0, 12)
  else if lead b = b.length then (0, 0, 13)
  else if 0 < lead b ∧ b.getD (lead b) 0 = 0 then (0, 0, 12)
  else (val (b.take (lead b + 1)), lead b + 1, 0)
theorem getD_at (b : List UInt8) (k : Nat) (h : k < b.length) : b.getD k 0 = b[k] := by simp [List.getD, List.getElem?_eq_getElem h]
theorem getD_end (b : List UInt8) (k : Nat) (h : b.length ≤ k) : b.getD k 0 = 0 := by simp [List.getD, List.getElem?_eq_none h]
theorem first_e (b : List UInt8) : (first b).2.2 = 0 ∨ (first b).1 = 0 ∧ ((first b).2.2 = 12 ∨ (first b).2.2 = 13) := by
  unfold first
  split
  · simp
  · split
    · simp
    · split <;> simp
/-- where nothing is wrong -/
theorem first_ok {b : List UInt8} (h : (first b).2.2 = 0) : (first b).1 < 18446744073709551616 ∧ 0 < (first b).2.1 ∧ (first b).2.1 ≤ b.length ∧ encB (first b).1 = b.take (first b).2.1 := by
  unfold first at h ⊢
  split at h
  · simp at h
  rename_i h1
  rw [if_neg h1]
  split at h
  · simp at h
  rename_i h2
  rw [if_neg h2]
  split at h
  · simp at h
  rename_i h3
  rw [if_neg h3]
  have hl : lead b < b.length := by have := lead_len b; omega
  have h10 : lead b < 10 := by have := lead_le b; omega
  rw [getD_at b _ hl] at h1 h3
  have hs := lead_stop b hl h10
  have ht : b.take (lead b + 1) = b.take (lead b) ++ [b[lead b]] := List.take_succ_eq_append_getElem hl
  refine ⟨?_, Nat.succ_pos _, by simp only; omega, ?_⟩
  · simp only
    rw [val_snoc b _ hl]
    have hv := val_lt (b.take (lead b))
    rw [List.length_take, Nat.min_eq_left (by omega)] at hv
    rcases Nat.lt_or_ge (lead b) 9 with hlt | hge
    · have hp : 128 ^ lead b ≤ 128 ^ 8 := Nat.pow_le_pow_right (by omega) (by omega)
      have hm : 128 ^ lead b * (b[lead b].toNat % 128) ≤ 128 ^ 8 * 127 := Nat.mul_le_mul hp (by omega)
      omega
    · have e9 : lead b = 9 := by omega
      have hc : b[lead b].toNat ≤ 1 := by omega
      have hm : 128 ^ lead b * (b[lead b].toNat % 128) ≤ 128 ^ lead b * 1 := Nat.mul_le_mul_left _ (by omega)
      have hp : (128 : Nat) ^ lead b = 128 ^ 9 := by rw [e9]
      omega
  · simp only
    rw [ht]
    refine encB_val _ _ ?_ hs ?_
    · intro c hm
      obtain ⟨j, hj, rfl⟩ := List.getElem_of_mem hm
      rw [List.length_take] at hj
      rw [List.getElem_take]
      exact lead_more b (by omega) (by omega)
    · intro hne hz
      refine h3 ⟨?_, hz⟩
      rcases Nat.eq_zero_or_pos (lead b) with h0 | h0
      · rw [h0] at hne; simp at hne
      · exact h0
/-- a number that was written is read -/
theorem first_enc (n : Nat) (hn : n < 18446744073709551616) (r : List UInt8) : first (encB n ++ r) = (n, (encB n).length, 0) := by
  obtain ⟨init, last, e, hc, hl, h0, hb⟩ := encB_form n
  have h10 := encB_len hn
  have hlen : (encB n).length = init.length + 1 := by rw [e]; simp
  have hi : init.length < (encB n ++ r).length := by rw [List.length_append, hlen]; omega
  have hat : (encB n ++ r)[init.length]'hi = last := by
    simp only [e, List.append_assoc]
    rw [List.getElem_append_right (by omega)]
    simp
  have hk : lead (encB n ++ r) = init.length := by
    refine lead_of _ _ (by omega) (by omega) ?_ ?_
    · intro j h hj
      have : (encB n ++ r)[j]'h = init[j] := by
        simp only [e, List.append_assoc]
        rw [List.getElem_append_left hj]
      rw [this]
      exact hc _ (List.getElem_mem hj)
    · intro h _
      rw [hat]
      exact hl
  have hd : (encB n ++ r).getD init.length 0 = last := by rw [getD_at _ _ hi, hat]
  unfold first
  rw [hk, hd, if_neg, if_neg (by omega), if_neg]
  · rw [← hlen, List.take_left' rfl, val_encB]
  · rintro ⟨hp, hz⟩
    exact h0 (by intro hi; rw [hi] at hp; simp at hp) hz
  · rintro (h | ⟨h9, h1⟩)
    · omega
    · have hp : (128 : Nat) ^ init.length = 128 ^ 9 := by rw [h9]
      have : 2 * 128 ^ init.length ≤ last.toNat * 128 ^ init.length := Nat.mul_le_mul_right _ h1
      omega

/-! ### ints as numbers -/
def encI (i : Int) : Nat := if i < 0 then (-2 * i - 1).toNat else (2 * i).toNat
def decI (n : Nat) : Int := if n % 2 = 1 then -((n / 2 : Nat) : Int) - 1 else ((n / 2 : Nat) : Int)
theorem encI_lt {i : Int} (h1 : -9223372036854775808 ≤ i) (h2 : i ≤ 9223372036854775807) : encI i < 18446744073709551616 := by unfold encI; split <;> omega
theorem decI_encI (i : Int) : decI (encI i) = i := by
  unfold encI decI
  by_cases h : i < 0
  · rw [if_pos h, if_pos (by omega)]; omega
  · rw [if_neg h, if_neg (by omega)]; omega
theorem encI_decI (n : Nat) : encI (decI n) = n := by
  unfold encI decI
  by_cases h : n % 2 = 1
  · rw [if_pos h, if_pos (by omega)]; omega
  · rw [if_neg h, if_neg (by omega)]; omega
theorem decI_bd {n : Nat} (h : n < 18446744073709551616) : -9223372036854775808 ≤ decI n ∧ decI n ≤ 9223372036854775807 := by unfold decI; split <;> omega
end Go.Proofs.Ytaickhhbdbbmjaa.nums
