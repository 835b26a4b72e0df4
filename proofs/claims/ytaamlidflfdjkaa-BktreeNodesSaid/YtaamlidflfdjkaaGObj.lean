/-
  Several texts in one.
-/
import Derived.Test.YtaamlidflfdjkaaGLib
import Derived.Lib.Bytealg
import Derived.Lib.Small
import Derived.Deep.Slices
import Derived.Deep.Fields
import Derived.ChangeSame
import Derived.JoinedCond
import Derived.Lib.Hide
import Derived.Deep.QuietTactic
import Derived.BigQuiet
import Derived.WalkSpells
import Derived.Deep.RegionHeld3
/-
  Program-free: numbers as bytes of seven bits, there and back; parts, what they are written as, what reads of bytes tell.
-/
namespace Go.Proofs.Ytaamlidflfdjkaa.nums

/-! ### numbers as bytes -/
def encB (n : Nat) : List UInt8 :=
  if n < 128 then [UInt8.ofNat n] else UInt8.ofNat (n % 128 + 128) :: encB (n / 128)
termination_by n
decreasing_by omega
theorem encB_lo {n : Nat} (h : n < 128) : encB n = [UInt8.ofNat n] := by rw [encB, if_pos h]
theorem encB_hi {n : Nat} (h : 128 ≤ n) : encB n = UInt8.ofNat (n % 128 + 128) :: encB (n / 128) := by rw [encB, if_neg (by omega)]
theorem u8_of {n : Nat} (h : n < 256) : (UInt8.ofNat n).toNat = n := by rw [UInt8.toNat_ofNat']; omega
theorem u8_back (c : UInt8) : UInt8.ofNat c.toNat = c := by simp

/-- all bytes but the last one say that one follows -/
theorem encB_form (n : Nat) : ∃ (init : List UInt8) (last : UInt8), encB n = init ++ [last] ∧ (∀ c ∈ init, 128 ≤ c.toNat) ∧ last.toNat < 128 ∧ (init ≠ [] → last ≠ 0) ∧ last.toNat * 128 ^ init.length ≤ n := by
  induction n using Nat.strongRecOn with
  | ind n ih =>
    by_cases h : n < 128
    · exact ⟨[], UInt8.ofNat n, by rw [encB_lo h]; rfl, by simp, by rw [u8_of (by omega)]; exact h, by simp, by rw [u8_of (by omega)]; simp⟩
    · obtain ⟨init, last, e, hc, hl, h0, hb⟩ := ih (n / 128) (by omega)
      refine ⟨UInt8.ofNat (n % 128 + 128) :: init, last, by rw [encB_hi (by omega), e]; rfl, ?_, hl, ?_, ?_⟩
      · intro c hm
        rcases List.mem_cons.1 hm with rfl | hm
        · rw [u8_of (by omega)]; omega
        · exact hc c hm
      · intro _ hz
        by_cases hi : init = []
        · subst hi
          rw [hz] at e
          rcases Nat.lt_or_ge (n / 128) 128 with hlt | hge
          · rw [encB_lo hlt] at e
            have : UInt8.ofNat (n / 128) = 0 := by simpa using e
            have := congrArg UInt8.toNat this
            rw [u8_of (by omega)] at this
            simp at this
            omega
          · rw [encB_hi hge] at e
            have h1 := congrArg List.length e
            have h2 : 0 < (encB (n / 128 / 128)).length := by
              rw [encB]; split <;> simp
            simp only [List.length_cons, List.length_append, List.length_nil] at h1
            omega
        · exact h0 hi hz
      · rw [List.length_cons, Nat.pow_succ]
        have h1 : last.toNat * (128 ^ init.length * 128) = last.toNat * 128 ^ init.length * 128 := by rw [Nat.mul_assoc]
        omega
theorem encB_pos (n : Nat) : 0 < (encB n).length := by rw [encB]; split <;> simp
theorem encB_len {n : Nat} (h : n < 18446744073709551616) : (encB n).length ≤ 10 := by
  obtain ⟨init, last, e, hc, hl, h0, hb⟩ := encB_form n
  rw [e, List.length_append, List.length_singleton]
  rcases Nat.lt_or_ge 9 init.length with hlt | hge
  · have hi : init ≠ [] := by intro e; rw [e] at hlt; simp at hlt
    have hz := h0 hi
    have h1 : 1 ≤ last.toNat := by
      rcases Nat.eq_zero_or_pos last.toNat with hz' | hz'
      · exact absurd (UInt8.toNat_inj.1 (hz'.trans (by rfl))) hz
      · exact hz'
    have h2 : 128 ^ 10 ≤ 128 ^ init.length := Nat.pow_le_pow_right (by omega) hlt
    have h3 : 1 * 128 ^ init.length ≤ last.toNat * 128 ^ init.length := Nat.mul_le_mul_right _ h1
    omega
  · omega

/-- what bytes of seven bits are -/
def val : List UInt8 → Nat
  | [] => 0
  | c :: r => c.toNat % 128 + 128 * val r
theorem val_append (l m : List UInt8) : val (l ++ m) = val l + 128 ^ l.length * val m := by
  induction l with
  | nil => simp [val]
  | cons c r ih =>
    simp only [List.cons_append, val, ih, List.length_cons, Nat.pow_succ]
    rw [Nat.mul_add, Nat.mul_comm (128 ^ r.length) 128, Nat.mul_assoc, Nat.add_assoc]
theorem val_lt (l : List UInt8) : val l < 128 ^ l.length := by
  induction l with
  | nil => simp [val]
  | cons c r ih => simp only [val, List.length_cons, Nat.pow_succ]; omega
theorem val_snoc (l : List UInt8) (k : Nat) (h : k < l.length) : val (l.take (k + 1)) = val (l.take k) + 128 ^ k * (l[k].toNat % 128) := by
  rw [List.take_succ_eq_append_getElem h, val_append, List.length_take, Nat.min_eq_left (by omega)]
  simp [val]
theorem val_drop (l : List UInt8) (k : Nat) (h : k < l.length) : val (l.drop k) = l[k].toNat % 128 + 128 * val (l.drop (k + 1)) := by
  rw [List.drop_eq_getElem_cons h]
  rfl
theorem val_drop_le (l : List UInt8) (k : Nat) : val (l.drop k) ≤ val l := by
  induction k generalizing l with
  | zero => simp
  | succ k ih =>
    cases l with
    | nil => simp
    | cons c r => rw [List.drop_succ_cons]; have := ih r; simp only [val]; omega
theorem encB_val (init : List UInt8) (last : UInt8) (hc : ∀ c ∈ init, 128 ≤ c.toNat) (hl : last.toNat < 128) (h0 : init ≠ [] → last ≠ 0) : encB (val (init ++ [last])) = init ++ [last] := by
  induction init with
  | nil =>
    simp only [List.nil_append, val]
    rw [encB_lo (by omega), show last.toNat % 128 + 128 * 0 = last.toNat from by omega, u8_back]
  | cons c r ih =>
    have hcc := hc c (by simp)
    have hz := h0 (by simp)
    have hpos : 1 ≤ val (r ++ [last]) := by
      rw [val_append]
      have h1 : 1 ≤ last.toNat := by
        rcases Nat.eq_zero_or_pos last.toNat with hz' | hz'
        · exact absurd (UInt8.toNat_inj.1 (hz'.trans (by rfl))) hz
        · exact hz'
      have h2 : 1 ≤ 128 ^ r.length := Nat.one_le_pow _ _ (by omega)
      have h3 : val [last] = last.toNat := by simp only [val]; omega
      rw [h3]
      have := Nat.mul_le_mul h2 h1
      omega
    have h8 : c.toNat < 256 := c.toNat_lt
    have ih' := ih (fun c hm => hc c (by simp [hm])) (fun _ => hz)
    simp only [List.cons_append, val]
    rw [encB_hi (by omega), show (c.toNat % 128 + 128 * val (r ++ [last])) % 128 + 128 = c.toNat from by omega,
      show (c.toNat % 128 + 128 * val (r ++ [last])) / 128 = val (r ++ [last]) from by omega, ih', u8_back]
theorem val_encB (n : Nat) : val (encB n) = n := by
  induction n using Nat.strongRecOn with
  | ind n ih =>
    by_cases h : n < 128
    · rw [encB_lo h]; simp only [val]; rw [u8_of (by omega)]; omega
    · rw [encB_hi (by omega)]; simp only [val]; rw [u8_of (by omega), ih _ (by omega)]; omega

/-! ### what stands first -/
/-- how many bytes ahead say that one follows, of ten -/
def leadF : Nat → List UInt8 → Nat
  | 0, _ => 0
  | _ + 1, [] => 0
  | f + 1, c :: r => if 128 ≤ c.toNat then leadF f r + 1 else 0
def lead (b : List UInt8) : Nat := leadF 10 b
theorem leadF_spec (f : Nat) (b : List UInt8) : leadF f b ≤ f ∧ leadF f b ≤ b.length ∧ (∀ j (h : j < b.length), j < leadF f b → 128 ≤ b[j].toNat) ∧ (∀ h : leadF f b < b.length, leadF f b < f → b[leadF f b].toNat < 128) := by
  induction f generalizing b with
  | zero => exact ⟨by simp [leadF], by simp [leadF], by simp [leadF], by simp [leadF]⟩
  | succ f ih =>
    cases b with
    | nil => exact ⟨by simp [leadF], by simp [leadF], by simp [leadF], by simp⟩
    | cons c r =>
      obtain ⟨h1, h2, h3, h4⟩ := ih r
      by_cases hc : 128 ≤ c.toNat
      · have e : leadF (f + 1) (c :: r) = leadF f r + 1 := by simp [leadF, hc]
        simp only [e]
        refine ⟨by omega, by simp; omega, ?_, ?_⟩
        · intro j hj hlt
          cases j with
          | zero => exact hc
          | succ j => simpa using h3 j (by simpa using hj) (by omega)
        · intro h hf
          simpa using h4 (by simpa using h) (by omega)
      · have e : leadF (f + 1) (c :: r) = 0 := by simp [leadF, hc]
        simp only [e]
        exact ⟨by omega, by simp, by intro j _ hj; omega, by intro _ _; simpa using hc⟩
theorem lead_le (b : List UInt8) : lead b ≤ 10 := (leadF_spec 10 b).1
theorem lead_len (b : List UInt8) : lead b ≤ b.length := (leadF_spec 10 b).2.1
theorem lead_more (b : List UInt8) {j : Nat} (h : j < b.length) (hj : j < lead b) : 128 ≤ b[j].toNat := (leadF_spec 10 b).2.2.1 j h hj
theorem lead_stop (b : List UInt8) (h : lead b < b.length) (h10 : lead b < 10) : b[lead b].toNat < 128 := (leadF_spec 10 b).2.2.2 h h10
theorem lead_of (b : List UInt8) (k : Nat) (hk : k ≤ b.length) (h10 : k ≤ 10) (hall : ∀ j (h : j < b.length), j < k → 128 ≤ b[j].toNat) (hstop : ∀ h : k < b.length, k < 10 → b[k].toNat < 128) : lead b = k := by
  rcases Nat.lt_trichotomy (lead b) k with h | h | h
  · have h1 := lead_stop b (by omega) (by omega)
    have h2 := hall _ (by omega) h
    omega
  · exact h
  · have h1 := lead_more b (j := k) (by have := lead_len b; omega) h
    have h2 := hstop (by have := lead_len b; omega) (by have := lead_le b; omega)
    omega

/-- the number, how many bytes it is, what is wrong -/
def first (b : List UInt8) : Nat × Nat × Int :=
  if lead b = 10 ∨ lead b = 9 ∧ 1 < (b.getD (lead b) 0).toNat then (0, 0, 12)
  else if lead b = b.length then (0, 0, 13)
  else if 0 < lead b ∧ b.getD (lead b) 0 = 0 then (0, 0, 12)
  else (val (b.take (lead b + 1)), lead b + 1, 0)
theorem getD_at (b : List UInt8) (k : Nat) (h : k < b.length) : b.getD k 0 = b[k] := by simp [List.getD, List.getElem?_eq_getElem h]
theorem getD_end (b : List UInt8) (k : Nat) (h : b.length ≤ k) : b.getD k 0 = 0 := by simp [List.getD, List.getElem?_eq_none h]
theorem first_e (b : List UInt8) : (first b).2.2 = 0 ∨ (first b).1 = 0 ∧ ((first b).2.2 = 12 ∨ (first b).2.2 = 13) := by
  unfold first
  split
  · simp
  · split
    · simp
    · split <;> simp
/-- where nothing is wrong -/
theorem first_ok {b : List UInt8} (h : (first b).2.2 = 0) : (first b).1 < 18446744073709551616 ∧ 0 < (first b).2.1 ∧ (first b).2.1 ≤ b.length ∧ encB (first b).1 = b.take (first b).2.1 := by
  unfold first at h ⊢
  split at h
  · simp at h
  rename_i h1
  rw [if_neg h1]
  split at h
  · simp at h
  rename_i h2
  rw [if_neg h2]
  split at h
  · simp at h
  rename_i h3
  rw [if_neg h3]
  have hl : lead b < b.length := by have := lead_len b; omega
  have h10 : lead b < 10 := by have := lead_le b; omega
  rw [getD_at b _ hl] at h1 h3
  have hs := lead_stop b hl h10
  have ht : b.take (lead b + 1) = b.take (lead b) ++ [b[lead b]] := List.take_succ_eq_append_getElem hl
  refine ⟨?_, Nat.succ_pos _, by simp only; omega, ?_⟩
  · simp only
    rw [val_snoc b _ hl]
    have hv := val_lt (b.take (lead b))
    rw [List.length_take, Nat.min_eq_left (by omega)] at hv
    rcases Nat.lt_or_ge (lead b) 9 with hlt | hge
    · have hp : 128 ^ lead b ≤ 128 ^ 8 := Nat.pow_le_pow_right (by omega) (by omega)
      have hm : 128 ^ lead b * (b[lead b].toNat % 128) ≤ 128 ^ 8 * 127 := Nat.mul_le_mul hp (by omega)
      omega
    · have e9 : lead b = 9 := by omega
      have hc : b[lead b].toNat ≤ 1 := by omega
      have hm : 128 ^ lead b * (b[lead b].toNat % 128) ≤ 128 ^ lead b * 1 := Nat.mul_le_mul_left _ (by omega)
      have hp : (128 : Nat) ^ lead b = 128 ^ 9 := by rw [e9]
      omega
  · simp only
    rw [ht]
    refine encB_val _ _ ?_ hs ?_
    · intro c hm
      obtain ⟨j, hj, rfl⟩ := List.getElem_of_mem hm
      rw [List.length_take] at hj
      rw [List.getElem_take]
      exact lead_more b (by omega) (by omega)
    · intro hne hz
      refine h3 ⟨?_, hz⟩
      rcases Nat.eq_zero_or_pos (lead b) with h0 | h0
      · rw [h0] at hne; simp at hne
      · exact h0
/-- a number that was written is read -/
theorem first_enc (n : Nat) (hn : n < 18446744073709551616) (r : List UInt8) : first (encB n ++ r) = (n, (encB n).length, 0) := by
  obtain ⟨init, last, e, hc, hl, h0, hb⟩ := encB_form n
  have h10 := encB_len hn
  have hlen : (encB n).length = init.length + 1 := by rw [e]; simp
  have hi : init.length < (encB n ++ r).length := by rw [List.length_append, hlen]; omega
  have hat : (encB n ++ r)[init.length]'hi = last := by
    simp only [e, List.append_assoc]
    rw [List.getElem_append_right (by omega)]
    simp
  have hk : lead (encB n ++ r) = init.length := by
    refine lead_of _ _ (by omega) (by omega) ?_ ?_
    · intro j h hj
      have : (encB n ++ r)[j]'h = init[j] := by
        simp only [e, List.append_assoc]
        rw [List.getElem_append_left hj]
      rw [this]
      exact hc _ (List.getElem_mem hj)
    · intro h _
      rw [hat]
      exact hl
  have hd : (encB n ++ r).getD init.length 0 = last := by rw [getD_at _ _ hi, hat]
  unfold first
  rw [hk, hd, if_neg, if_neg (by omega), if_neg]
  · rw [← hlen, List.take_left' rfl, val_encB]
  · rintro ⟨hp, hz⟩
    exact h0 (by intro hi; rw [hi] at hp; simp at hp) hz
  · rintro (h | ⟨h9, h1⟩)
    · omega
    · have hp : (128 : Nat) ^ init.length = 128 ^ 9 := by rw [h9]
      have : 2 * 128 ^ init.length ≤ last.toNat * 128 ^ init.length := Nat.mul_le_mul_right _ h1
      omega

/-! ### ints as numbers -/
def encI (i : Int) : Nat := if i < 0 then (-2 * i - 1).toNat else (2 * i).toNat
def decI (n : Nat) : Int := if n % 2 = 1 then -((n / 2 : Nat) : Int) - 1 else ((n / 2 : Nat) : Int)
theorem encI_lt {i : Int} (h1 : -9223372036854775808 ≤ i) (h2 : i ≤ 9223372036854775807) : encI i < 18446744073709551616 := by unfold encI; split <;> omega
theorem decI_encI (i : Int) : decI (encI i) = i := by
  unfold encI decI
  by_cases h : i < 0
  · rw [if_pos h, if_pos (by omega)]; omega
  · rw [if_neg h, if_neg (by omega)]; omega
theorem encI_decI (n : Nat) : encI (decI n) = n := by
  unfold encI decI
  by_cases h : n % 2 = 1
  · rw [if_pos h, if_pos (by omega)]; omega
  · rw [if_neg h, if_neg (by omega)]; omega
theorem decI_bd {n : Nat} (h : n < 18446744073709551616) : -9223372036854775808 ≤ decI n ∧ decI n ≤ 9223372036854775807 := by unfold decI; split <;> omega
end Go.Proofs.Ytaamlidflfdjkaa.nums
/-
  Program-free: parts, what they are written as, what reads of bytes tell, there and back.
-/
namespace Go.Proofs.Ytaamlidflfdjkaa.nums

structure Part where
  kind : Int
  n : Nat
  i : Int
  f : Bool
  t : ByteArray
  low : Int
  high : Int
  most : Int

def tl (s : ByteArray) : List UInt8 := s.data.toList
theorem tl_len (s : ByteArray) : (tl s).length = s.size := by simp only [tl, Array.length_toList]; rfl
theorem tl_mk (l : List UInt8) : tl ⟨l.toArray⟩ = l := by simp [tl]
theorem size_mk (l : List UInt8) : (⟨l.toArray⟩ : ByteArray).size = l.length := by simp [ByteArray.size]
theorem mk_tl (s : ByteArray) : (⟨(tl s).toArray⟩ : ByteArray) = s := by cases s; simp [tl]

def bit (f : Bool) : Nat := if f then 1 else 0
def encP (p : Part) : List UInt8 :=
  if p.kind = 0 then encB p.n else if p.kind = 1 then encB (encI p.i) else if p.kind = 2 then encB (bit p.f) else encB p.t.size ++ tl p.t
def encL (l : List Part) : List UInt8 := l.flatMap encP
theorem encL_append (l m : List Part) : encL (l ++ m) = encL l ++ encL m := by simp [encL]
theorem encL_one (p : Part) : encL [p] = encP p := by simp [encL]
theorem encL_snoc (l : List Part) (k : Nat) (h : k < l.length) : encL (l.take (k + 1)) = encL (l.take k) ++ encP l[k] := by
  rw [List.take_succ_eq_append_getElem h, encL_append, encL_one]

/-- what can be handed in -/
def Ok (p : Part) : Prop := p.n < 18446744073709551616 ∧ -9223372036854775808 ≤ p.i ∧ p.i ≤ 9223372036854775807
theorem encP_len {p : Part} (h : Ok p) (ht : p.t.size < 18446744073709551616) : (encP p).length ≤ 10 + p.t.size := by
  unfold encP
  split
  · have := encB_len h.1; omega
  · split
    · have := encB_len (encI_lt h.2.1 h.2.2); omega
    · split
      · have : bit p.f < 18446744073709551616 := by unfold bit; split <;> omega
        have := encB_len this; omega
      · rw [List.length_append, tl_len]; have := encB_len ht; omega

/-! ### a reader -/
structure St where
  b : List UInt8
  e : Int
def numS (s : St) (may : Nat → Bool) : Nat × St :=
  if s.e = 0 then
    if (first s.b).2.2 = 0 then
      if may (first s.b).1 = true then ((first s.b).1, ⟨s.b.drop (first s.b).2.1, 0⟩) else (0, ⟨[], 14⟩)
    else (0, ⟨[], (first s.b).2.2⟩)
  else (0, s)
def textS (s : St) (most : Int) : List UInt8 × St :=
  if (numS s fun n => decide (0 ≤ most) && decide ((n : Int) ≤ most)).2.b.length < (numS s fun n => decide (0 ≤ most) && decide ((n : Int) ≤ most)).1 then ([], ⟨[], 13⟩)
  else ((numS s fun n => decide (0 ≤ most) && decide ((n : Int) ≤ most)).2.b.take (numS s fun n => decide (0 ≤ most) && decide ((n : Int) ≤ most)).1,
    ⟨(numS s fun n => decide (0 ≤ most) && decide ((n : Int) ≤ most)).2.b.drop (numS s fun n => decide (0 ≤ most) && decide ((n : Int) ≤ most)).1, (numS s fun n => decide (0 ≤ most) && decide ((n : Int) ≤ most)).2.e⟩)
def mayN (most : Nat) (n : Nat) : Bool := decide (n ≤ most)
def mayI (low high : Int) (n : Nat) : Bool := decide (low ≤ decI n) && decide (decI n ≤ high)
def zeroP (kind : Int) : Part := ⟨kind, 0, 0, false, ⟨#[]⟩, 0, 0, 0⟩
def takeP (s : St) (p : Part) : Part × St :=
  if p.kind = 0 then ({ zeroP p.kind with n := (numS s (mayN p.n)).1 }, (numS s (mayN p.n)).2)
  else if p.kind = 1 then ({ zeroP p.kind with i := decI (numS s (mayI p.low p.high)).1 }, (numS s (mayI p.low p.high)).2)
  else if p.kind = 2 then ({ zeroP p.kind with f := decide ((numS s (mayN 1)).1 = 1) }, (numS s (mayN 1)).2)
  else ({ zeroP p.kind with t := ⟨(textS s p.most).1.toArray⟩ }, (textS s p.most).2)
def endP (s : St) : Int := if s.e = 0 then (if s.b.length = 0 then 0 else 12) else s.e

/-- a broken one has nothing left -/
def Clean (s : St) : Prop := s.e ≠ 0 → s.b = []
theorem numS_lt (s : St) (may : Nat → Bool) : (numS s may).1 < 18446744073709551616 := by
  unfold numS
  split
  · split
    · rename_i h
      split
      · exact (first_ok h).1
      · simp
    · simp
  · simp
theorem numS_len (s : St) (may : Nat → Bool) : (numS s may).2.b.length ≤ s.b.length := by
  unfold numS
  split
  · split
    · split
      · simp
      · simp
    · simp
  · simp
theorem numS_clean {s : St} (h : Clean s) (may : Nat → Bool) : Clean (numS s may).2 := by
  unfold numS
  split
  · split
    · split
      · intro h; exact absurd rfl h
      · intro _; rfl
    · intro _; rfl
  · exact h
theorem textS_len (s : St) (most : Int) : (textS s most).1.length + (textS s most).2.b.length ≤ s.b.length := by
  have h := numS_len s fun n => decide (0 ≤ most) && decide ((n : Int) ≤ most)
  unfold textS
  split
  · simp
  · simp; omega
theorem textS_clean {s : St} (h : Clean s) (most : Int) : Clean (textS s most).2 := by
  have h := numS_clean h fun n => decide (0 ≤ most) && decide ((n : Int) ≤ most)
  unfold textS
  split
  · intro _; rfl
  · intro he
    have := h he
    simp [this]
theorem takeP_clean {s : St} (h : Clean s) (p : Part) : Clean (takeP s p).2 := by
  unfold takeP
  split
  · exact numS_clean h _
  · split
    · exact numS_clean h _
    · split
      · exact numS_clean h _
      · exact textS_clean h _
theorem takeP_kind (s : St) (p : Part) : (takeP s p).1.kind = p.kind := by
  unfold takeP
  split
  · rfl
  · split
    · rfl
    · split <;> rfl
theorem takeP_len (s : St) (p : Part) : (takeP s p).1.t.size + (takeP s p).2.b.length ≤ s.b.length := by
  unfold takeP
  split
  · have := numS_len s (mayN p.n); simpa [zeroP, ByteArray.size] using this
  · split
    · have := numS_len s (mayI p.low p.high); simpa [zeroP, ByteArray.size] using this
    · split
      · have := numS_len s (mayN 1); simpa [zeroP, ByteArray.size] using this
      · simp only [size_mk]; exact textS_len s p.most
theorem takeP_ok (s : St) (p : Part) : Ok (takeP s p).1 := by
  unfold takeP
  split
  · have := numS_lt s (mayN p.n); exact ⟨this, by simp [zeroP], by simp [zeroP]⟩
  · split
    · have := decI_bd (numS_lt s (mayI p.low p.high)); exact ⟨by simp [zeroP], this.1, this.2⟩
    · split
      · exact ⟨by simp [zeroP], by simp [zeroP], by simp [zeroP]⟩
      · exact ⟨by simp [zeroP], by simp [zeroP], by simp [zeroP]⟩

/-! ### there and back -/
theorem numS_enc (n : Nat) (hn : n < 18446744073709551616) (r : List UInt8) (may : Nat → Bool) (hm : may n = true) : numS ⟨encB n ++ r, 0⟩ may = (n, ⟨r, 0⟩) := by
  unfold numS
  simp only [first_enc n hn r, if_true, hm, List.drop_left']
def narrow (p : Part) : Part := ⟨p.kind, p.n, 0, false, ⟨#[]⟩, p.i, p.i, p.t.size⟩
def agrees (p q : Part) : Prop := (p.kind = 0 → q.n = p.n) ∧ (p.kind = 1 → q.i = p.i) ∧ (p.kind = 2 → q.f = p.f) ∧ (p.kind < 0 ∨ 2 < p.kind → q.t = p.t)
theorem take_enc (p : Part) (h : Ok p) (ht : p.t.size < 18446744073709551616) (r : List UInt8) : (takeP ⟨encP p ++ r, 0⟩ (narrow p)).2 = ⟨r, 0⟩ ∧ agrees p (takeP ⟨encP p ++ r, 0⟩ (narrow p)).1 := by
  unfold agrees encP
  have hk : (narrow p).kind = p.kind := rfl
  by_cases h0 : p.kind = 0
  · unfold takeP
    rw [hk, if_pos h0, if_pos h0, numS_enc p.n h.1 r (mayN (narrow p).n) (by simp [mayN, narrow])]
    exact ⟨rfl, fun _ => rfl, by omega, by omega, by omega⟩
  rw [if_neg h0]
  by_cases h1 : p.kind = 1
  · unfold takeP
    rw [hk, if_neg h0, if_pos h1, if_pos h1, numS_enc (encI p.i) (encI_lt h.2.1 h.2.2) r (mayI (narrow p).low (narrow p).high) (by simp [mayI, narrow, decI_encI])]
    exact ⟨rfl, by omega, fun _ => decI_encI _, by omega, by omega⟩
  rw [if_neg h1]
  by_cases h2 : p.kind = 2
  · unfold takeP
    rw [hk, if_neg h0, if_neg h1, if_pos h2, if_pos h2, numS_enc (bit p.f) (by unfold bit; split <;> omega) r (mayN 1) (by unfold bit mayN; split <;> simp)]
    refine ⟨rfl, by omega, by omega, fun _ => ?_, by omega⟩
    cases p.f <;> simp [bit]
  rw [if_neg h2]
  unfold takeP
  rw [hk, if_neg h0, if_neg h1, if_neg h2]
  have e := numS_enc p.t.size ht (tl p.t ++ r) (fun n => decide (0 ≤ (narrow p).most) && decide ((n : Int) ≤ (narrow p).most)) (by simp [narrow])
  rw [← List.append_assoc] at e
  unfold textS
  rw [e, if_neg (by simp [tl_len])]
  refine ⟨?_, by omega, by omega, by omega, fun _ => ?_⟩
  · simp only
    rw [List.drop_left' (tl_len p.t)]
  · simp only
    rw [List.take_left' (tl_len p.t), mk_tl]
theorem numS_back {s : St} {may : Nat → Bool} (h : (numS s may).2.e = 0) : s.e = 0 ∧ encB (numS s may).1 ++ (numS s may).2.b = s.b ∧ may (numS s may).1 = true := by
  unfold numS at h ⊢
  by_cases h1 : s.e = 0
  · rw [if_pos h1] at h ⊢
    by_cases h2 : (first s.b).2.2 = 0
    · rw [if_pos h2] at h ⊢
      by_cases h3 : may (first s.b).1 = true
      · rw [if_pos h3]
        obtain ⟨_, _, _, he⟩ := first_ok h2
        exact ⟨h1, by simp only; rw [he, List.take_append_drop], h3⟩
      · rw [if_neg h3] at h
        simp at h
    · rw [if_neg h2] at h
      exact absurd h h2
  · rw [if_neg h1] at h
    exact absurd h h1
theorem take_back {s : St} {p : Part} (h : (takeP s p).2.e = 0) : s.e = 0 ∧ encP (takeP s p).1 ++ (takeP s p).2.b = s.b := by
  have hk := takeP_kind s p
  unfold encP
  rw [hk]
  unfold takeP at h ⊢
  by_cases h0 : p.kind = 0
  · rw [if_pos h0] at h ⊢
    rw [if_pos h0]
    obtain ⟨a, b, _⟩ := numS_back h
    exact ⟨a, b⟩
  rw [if_neg h0] at h ⊢
  rw [if_neg h0]
  by_cases h1 : p.kind = 1
  · rw [if_pos h1] at h ⊢
    rw [if_pos h1]
    obtain ⟨a, b, _⟩ := numS_back h
    exact ⟨a, by simp only; rw [encI_decI]; exact b⟩
  rw [if_neg h1] at h ⊢
  rw [if_neg h1]
  by_cases h2 : p.kind = 2
  · rw [if_pos h2] at h ⊢
    rw [if_pos h2]
    obtain ⟨a, b, c⟩ := numS_back h
    refine ⟨a, ?_⟩
    simp only
    have hc : (numS s (mayN 1)).1 ≤ 1 := of_decide_eq_true c
    have e : bit (decide ((numS s (mayN 1)).1 = 1)) = (numS s (mayN 1)).1 := by
      unfold bit
      by_cases hx : (numS s (mayN 1)).1 = 1
      · simp [hx]
      · simp [hx]; omega
    rw [e]
    exact b
  rw [if_neg h2] at h ⊢
  rw [if_neg h2]
  simp only [size_mk, tl_mk]
  unfold textS at h ⊢
  split at h
  · simp at h
  rename_i hl
  rw [if_neg hl]
  obtain ⟨a, b, _⟩ := numS_back h
  refine ⟨a, ?_⟩
  simp only
  rw [List.length_take, Nat.min_eq_left (by omega), List.append_assoc, List.take_append_drop]
  exact b

/-! ### many -/
def takes (s : St) (l : List Part) : List Part × St := l.foldl (fun x p => (x.1 ++ [(takeP x.2 p).1], (takeP x.2 p).2)) ([], s)
theorem takes_nil (s : St) : takes s [] = ([], s) := rfl
theorem takes_snoc (s : St) (l : List Part) (k : Nat) (h : k < l.length) :
    takes s (l.take (k + 1)) = ((takes s (l.take k)).1 ++ [(takeP (takes s (l.take k)).2 l[k]).1], (takeP (takes s (l.take k)).2 l[k]).2) := by
  unfold takes
  rw [List.take_succ_eq_append_getElem h, List.foldl_append]
  rfl
theorem takes_all (s : St) (l : List Part) (k : Nat) (hk : k ≤ l.length) : (takes s (l.take k)).1.length = k ∧ (∀ q ∈ (takes s (l.take k)).1, Ok q) ∧ (Clean s → Clean (takes s (l.take k)).2) ∧
    ((takes s (l.take k)).2.e = 0 → s.e = 0 ∧ encL (takes s (l.take k)).1 ++ (takes s (l.take k)).2.b = s.b) ∧
    ((takes s (l.take k)).1.map fun q => q.t.size).sum + (takes s (l.take k)).2.b.length ≤ s.b.length := by
  induction k with
  | zero => simp [takes_nil, encL]
  | succ k ih =>
    obtain ⟨h1, h2, h3, h4, h5⟩ := ih (by omega)
    rw [takes_snoc s l k (by omega)]
    refine ⟨by simp [h1], ?_, fun hc => takeP_clean (h3 hc) _, ?_, ?_⟩
    · intro q hq
      rcases List.mem_append.1 hq with hq | hq
      · exact h2 q hq
      · rw [List.mem_singleton.1 hq]
        exact takeP_ok _ _
    · intro he
      obtain ⟨a, b⟩ := take_back he
      obtain ⟨c, d⟩ := h4 a
      refine ⟨c, ?_⟩
      simp only
      rw [encL_append, encL_one, List.append_assoc, b, d]
    · have := takeP_len (takes s (l.take k)).2 l[k]
      simp only [List.map_append, List.sum_append, List.map_cons, List.map_nil, List.sum_cons, List.sum_nil]
      omega
theorem encL_len (l : List Part) (h : ∀ q ∈ l, Ok q) (B : Nat) (hs : (l.map fun q => q.t.size).sum ≤ B) (hB : B < 18446744073709551616) : (encL l).length ≤ 10 * l.length + (l.map fun q => q.t.size).sum := by
  induction l with
  | nil => simp [encL]
  | cons p r ih =>
    simp only [List.map_cons, List.sum_cons, List.length_cons] at hs ⊢
    have h1 := ih (fun q hq => h q (by simp [hq])) (by omega)
    have h2 := encP_len (h p (by simp)) (by omega)
    have e : encL (p :: r) = encP p ++ encL r := by simp [encL]
    rw [e, List.length_append]
    omega
/-- bytes that are read to the end are written as these bytes -/
theorem back (b : List UInt8) (l : List Part) (h : endP (takes ⟨b, 0⟩ l).2 = 0) : encL (takes ⟨b, 0⟩ l).1 = b := by
  have ht := (takes_all ⟨b, 0⟩ l l.length (Nat.le_refl _)).2.2.2.1
  rw [List.take_length] at ht
  unfold endP at h
  by_cases he : (takes ⟨b, 0⟩ l).2.e = 0
  · rw [if_pos he] at h
    by_cases hb : (takes ⟨b, 0⟩ l).2.b.length = 0
    · have := (ht he).2
      rw [List.eq_nil_of_length_eq_zero hb, List.append_nil] at this
      exact this
    · rw [if_neg hb] at h
      cases h
  · rw [if_neg he] at h
    exact absurd h he
end Go.Proofs.Ytaamlidflfdjkaa.nums
/-
  Program-free: orders of ints, of rows, of pairs of orders; things and their order.
-/
namespace Go.Proofs.Ytaamlidflfdjkaa.ord
open nums

/-- one order: -1, 0, 1 -/
structure Tot {α : Type} (f : α → α → Int) : Prop where
  bd : ∀ x y, f x y = -1 ∨ f x y = 0 ∨ f x y = 1
  anti : ∀ x y, f x y = -f y x
  zero : ∀ x y, f x y = 0 ↔ x = y
  trans : ∀ x y z, f x y ≤ 0 → f y z ≤ 0 → f x z ≤ 0
def cmpI (x y : Int) : Int := if x < y then -1 else if x > y then 1 else 0
theorem cmpI_lib : Lib.compareInt = cmpI := rfl
theorem cmpI_tot : Tot cmpI := by
  refine ⟨fun x y => ?_, fun x y => ?_, fun x y => ?_, fun x y z => ?_⟩ <;> unfold cmpI <;> (repeat' split) <;> omega
def cmpN (x y : Nat) : Int := cmpI x y
theorem cmpN_tot : Tot cmpN := by
  refine ⟨fun x y => cmpI_tot.bd _ _, fun x y => cmpI_tot.anti _ _, fun x y => ?_, fun x y z => cmpI_tot.trans _ _ _⟩
  unfold cmpN
  rw [cmpI_tot.zero]
  omega
def cmpC (x y : UInt8) : Int := if x < y then -1 else if y < x then 1 else 0
theorem cmpC_eq (x y : UInt8) : cmpC x y = cmpN x.toNat y.toNat := by
  unfold cmpC cmpN cmpI
  have h1 : x < y ↔ (x.toNat : Int) < (y.toNat : Int) := by rw [UInt8.lt_iff_toNat_lt]; omega
  have h2 : y < x ↔ (x.toNat : Int) > (y.toNat : Int) := by rw [UInt8.lt_iff_toNat_lt]; omega
  simp only [h1, h2]
theorem cmpC_tot : Tot cmpC := by
  refine ⟨fun x y => ?_, fun x y => ?_, fun x y => ?_, fun x y z => ?_⟩
  · rw [cmpC_eq]; exact cmpN_tot.bd _ _
  · rw [cmpC_eq, cmpC_eq]; exact cmpN_tot.anti _ _
  · rw [cmpC_eq, cmpN_tot.zero, UInt8.toNat_inj]
  · rw [cmpC_eq, cmpC_eq, cmpC_eq]; exact cmpN_tot.trans _ _ _

/-- the first that isn't 0 -/
def thn (a b : Int) : Int := if a = 0 then b else a
theorem pair_tot {α β : Type} {f : α → α → Int} {g : β → β → Int} (hf : Tot f) (hg : Tot g) : Tot fun (x y : α × β) => thn (f x.1 y.1) (g x.2 y.2) := by
  refine ⟨fun x y => ?_, fun x y => ?_, fun x y => ?_, fun x y z => ?_⟩
  · have := hf.bd x.1 y.1; have := hg.bd x.2 y.2; unfold thn; split <;> omega
  · have h1 := hf.anti x.1 y.1; have h2 := hg.anti x.2 y.2; unfold thn; (repeat' split) <;> omega
  · have h1 := hf.zero x.1 y.1
    have h2 := hg.zero x.2 y.2
    obtain ⟨x1, x2⟩ := x
    obtain ⟨y1, y2⟩ := y
    simp only [Prod.mk.injEq] at *
    rw [← h1, ← h2]
    unfold thn
    split <;> omega
  · have h1 := hf.trans x.1 y.1 z.1
    have h2 := hg.trans x.2 y.2 z.2
    have a1 := hf.anti x.1 y.1
    have a2 := hf.anti y.1 z.1
    have a3 := hf.anti x.1 z.1
    have t1 := hf.trans z.1 x.1 y.1
    have t2 := hf.trans y.1 z.1 x.1
    unfold thn
    (repeat' split) <;> omega
theorem Tot.comap {α β : Type} {f : β → β → Int} (h : Tot f) (m : α → β) (hm : ∀ x y, m x = m y → x = y) : Tot fun x y => f (m x) (m y) :=
  ⟨fun _ _ => h.bd _ _, fun _ _ => h.anti _ _, fun x y => ⟨fun e => hm x y ((h.zero _ _).1 e), fun e => (h.zero _ _).2 (by rw [e])⟩, fun _ _ _ => h.trans _ _ _⟩

/-- row by row -/
def cmpL {α : Type} (f : α → α → Int) : List α → List α → Int
  | [], [] => 0
  | [], _ :: _ => -1
  | _ :: _, [] => 1
  | a :: r1, b :: r2 => thn (f a b) (cmpL f r1 r2)
theorem cmpL_tot {α : Type} {f : α → α → Int} (h : Tot f) : Tot (cmpL f) := by
  refine ⟨fun x => ?_, fun x => ?_, fun x => ?_, fun x => ?_⟩
  · induction x with
    | nil => intro y; cases y <;> simp [cmpL]
    | cons a r1 ih =>
      intro y
      cases y with
      | nil => simp [cmpL]
      | cons b r2 => have := h.bd a b; have := ih r2; simp only [cmpL, thn]; split <;> omega
  · induction x with
    | nil => intro y; cases y <;> simp [cmpL]
    | cons a r1 ih =>
      intro y
      cases y with
      | nil => simp [cmpL]
      | cons b r2 => have := h.anti a b; have := ih r2; simp only [cmpL, thn]; (repeat' split) <;> omega
  · induction x with
    | nil => intro y; cases y <;> simp [cmpL]
    | cons a r1 ih =>
      intro y
      cases y with
      | nil => simp [cmpL]
      | cons b r2 =>
        have h1 := h.zero a b
        have h2 := ih r2
        simp only [cmpL, thn, List.cons.injEq]
        rw [← h1, ← h2]
        split <;> omega
  · induction x with
    | nil => intro y z; cases y <;> cases z <;> simp [cmpL]
    | cons a r1 ih =>
      intro y z
      cases y with
      | nil => simp [cmpL]
      | cons b r2 =>
        cases z with
        | nil => simp [cmpL]
        | cons c r3 =>
          have h1 := h.trans a b c
          have h2 := ih r2 r3
          have a1 := h.anti a b
          have a2 := h.anti b c
          have a3 := h.anti a c
          have t1 := h.trans c a b
          have t2 := h.trans b c a
          simp only [cmpL, thn]
          (repeat' split) <;> omega
theorem cmpL_lib : ∀ a b : List UInt8, Lib.compareBytes a b = cmpL cmpC a b
  | [], [] => rfl
  | [], _ :: _ => rfl
  | _ :: _, [] => rfl
  | a :: r1, b :: r2 => by
    simp only [Lib.compareBytes, cmpL, thn, cmpC, cmpL_lib r1 r2]
    (repeat' split) <;> simp_all
theorem less_lib : ∀ a b : List UInt8, Op.bytesLess a b = decide (cmpL cmpC a b < 0)
  | [], [] => rfl
  | [], _ :: _ => by simp [Op.bytesLess, cmpL]
  | _ :: _, [] => by simp [Op.bytesLess, cmpL]
  | a :: r1, b :: r2 => by
    have ih := less_lib r1 r2
    simp only [Op.bytesLess, cmpL, thn, cmpC, ih]
    by_cases h1 : a < b
    · simp [h1]
    · by_cases h2 : b < a
      · have : (a == b) = false := by
          rw [beq_eq_false_iff_ne]
          intro e; subst e; exact UInt8.lt_irrefl a h2
        simp [h1, h2, this]
      · have : a = b := UInt8.le_antisymm (UInt8.not_lt.1 h2) (UInt8.not_lt.1 h1)
        subst this
        simp [UInt8.lt_irrefl]

/-- rows that are the same so far -/
theorem cmpL_drop {α : Type} {f : α → α → Int} (h : Tot f) (l m : List α) (k : Nat) (hk : k ≤ l.length) (hm : k ≤ m.length) (he : l.take k = m.take k) : cmpL f l m = cmpL f (l.drop k) (m.drop k) := by
  induction k generalizing l m with
  | zero => simp
  | succ k ih =>
    cases l with
    | nil => simp at hk
    | cons a r1 =>
      cases m with
      | nil => simp at hm
      | cons b r2 =>
        simp only [List.take_succ_cons, List.cons.injEq] at he
        obtain ⟨rfl, he⟩ := he
        simp only [List.drop_succ_cons, cmpL, thn]
        rw [(h.zero a a).2 rfl, if_pos rfl]
        exact ih r1 r2 (by simpa using hk) (by simpa using hm) he
theorem cmpL_at {α : Type} {f : α → α → Int} (h : Tot f) (l m : List α) (k : Nat) (hk : k < l.length) (hm : k < m.length) (he : l.take k = m.take k) (hne : f l[k] m[k] ≠ 0) : cmpL f l m = f l[k] m[k] := by
  rw [cmpL_drop h l m k (by omega) (by omega) he, List.drop_eq_getElem_cons hk, List.drop_eq_getElem_cons hm]
  simp only [cmpL, thn]
  rw [if_neg hne]

/-! ### things -/
structure Thing where
  tag : Int
  vec : List Int
  str : ByteArray
def zeroO : Thing := ⟨0, [], ⟨#[]⟩⟩
/-- what a Go thing can hold -/
def Okay (x : Thing) : Prop := (-9223372036854775808 ≤ x.tag ∧ x.tag ≤ 9223372036854775807) ∧ ∀ n ∈ x.vec, -2147483648 ≤ n ∧ n ≤ 2147483647
def cmpO (x y : Thing) : Int := thn (cmpI x.tag y.tag) (thn (cmpN x.vec.length y.vec.length) (thn (cmpL cmpI x.vec y.vec) (cmpL cmpC (tl x.str) (tl y.str))))
theorem tl_inj {a b : ByteArray} (h : tl a = tl b) : a = b := by
  cases a; cases b
  simp only [tl, Array.toList_inj] at h
  rw [h]
theorem cmpO_tot : Tot cmpO := by
  have h1 := pair_tot cmpI_tot (pair_tot cmpN_tot (pair_tot (cmpL_tot cmpI_tot) (cmpL_tot cmpC_tot)))
  have h2 := h1.comap (fun x : Thing => (x.tag, x.vec.length, x.vec, tl x.str)) (fun x y e => by
    obtain ⟨a, b, c⟩ := x
    obtain ⟨a', b', c'⟩ := y
    simp only [Prod.mk.injEq] at e
    obtain ⟨rfl, _, rfl, e⟩ := e
    rw [tl_inj e])
  exact h2
def lessO (x y : Thing) : Bool := decide (cmpO x y < 0)
def sameO (x y : Thing) : Bool := decide (cmpO x y = 0)
theorem sameO_eq (x y : Thing) : sameO x y = (!lessO x y && !lessO y x) := by
  have := cmpO_tot.anti x y
  unfold sameO lessO
  by_cases h : cmpO x y = 0
  · rw [decide_eq_true h, decide_eq_false (by omega), decide_eq_false (by omega)]; rfl
  · rw [decide_eq_false h]
    rcases cmpO_tot.bd x y with h1 | h1 | h1
    · rw [decide_eq_true (by omega : cmpO x y < 0)]; rfl
    · omega
    · rw [decide_eq_true (by omega : cmpO y x < 0)]; simp
theorem sameO_rfl (x : Thing) : sameO x x = true := by unfold sameO; rw [decide_eq_true ((cmpO_tot.zero x x).2 rfl)]

/-! ### of a metric and a size -/
def tagOf (m : Int) : Int := if m = 1 then 1 else if m = 2 then 2 else if m = 3 then 2 else 0
def rightO (x : Thing) (m s : Int) : Bool :=
  if s < 0 ∨ 65536 < s then false
  else if m = 1 then decide (x.tag = 1) && decide ((x.vec.length : Int) = s) && decide (x.str.size = 0)
  else if m = 2 then decide (x.tag = 2) && decide ((x.str.size : Int) = s) && decide (x.vec.length = 0)
  else decide (m = 3) && decide (x.tag = 2) && decide ((x.str.size : Int) ≤ s) && decide (x.vec.length = 0)
def lenO (x : Thing) : Int × Bool :=
  if x.tag = 2 then (if x.vec.length = 0 then ((x.str.size : Int), true) else (0, false))
  else if x.tag = 1 then (if x.str.size = 0 then ((x.vec.length : Int), true) else (0, false)) else (0, false)
end Go.Proofs.Ytaamlidflfdjkaa.ord
/-
  Program-free: things that came in: three cells, the second a slice of numbers of 32 bits.
-/
namespace Go.Proofs.Ytaamlidflfdjkaa.ord
open Go.RowKit law bytes nums
open Go.ChangeShapes Go.WideShapes Go.Deep Go.ChangeAt

def iv (l : List Int) : List Value := l.map fun n => .int .i32 n
theorem iv_length (l : List Int) : (iv l).length = l.length := by simp [iv]
theorem iv_append (l m : List Int) : iv (l ++ m) = iv l ++ iv m := by simp [iv]
theorem iv_one (l : List Int) : ∀ u ∈ iv l, u.oneCell' = true := by
  intro u hu
  simp only [iv, List.mem_map] at hu
  obtain ⟨c, _, rfl⟩ := hu
  rfl
/-- a thing's cells, a thing's value -/
def obs (A : Option Addr) (c : Nat) (x : Thing) : Array Value := #[.int .i64 x.tag, .slice A x.vec.length c, .string x.str]
def ob (A : Option Addr) (c : Nat) (x : Thing) : Value := .agg #[.int .i64 x.tag, .slice A x.vec.length c, .string x.str]
theorem i32_bd {n : Int} (h : (Lit.int .i32 n).wf = true) : -2147483648 ≤ n ∧ n ≤ 2147483647 := by
  simpa [Lit.wf, IntKind.min, IntKind.max, IntKind.signed, IntKind.bits] using h
theorem i64_bd' {n : Int} (h : (Lit.int .i64 n).wf = true) : -9223372036854775808 ≤ n ∧ n ≤ 9223372036854775807 := by
  simpa [Lit.wf, IntKind.min, IntKind.max, IntKind.signed, IntKind.bits] using h
section
variable {w : World} {B : Nat} {A : Option Addr} {l : List Int}
theorem Sl.num {k : Nat} (h : Sl w B A (iv l)) (hk : k < l.length) : ∃ ad, A = some ad ∧ ad.block < B ∧ w.cell? (ad.add k) = some (.int .i32 l[k]) := by
  have := h.at_ (k := k) (by rw [iv_length]; exact hk)
  simpa [iv] using this
end
section
variable {H : Type} {enc : TypeId × Value → H} {P : Program} {w : World} {base : Nat} {held : Bool}
theorem open_nums {fuel : Nat} {t e : TypeId} {v : Value} {y : DataW H × List MemPlace} (ht : P.underlying t = some (.slice e)) (he : P.underlying e = some (.int .i32)) (hc : P.cellsOf e = 1)
    (h : DataW.trod enc P w base (fun _ => true) held fuel t [v] = some y) :
    ∃ A c l, v = .slice A l.length c ∧ l.length ≤ c ∧ Sl w w.heap.size A (iv l) ∧ (∀ n ∈ l, -2147483648 ≤ n ∧ n ≤ 2147483647) ∧ ((A = none ∧ c = 0 ∧ l = [] ∧ y.1 = .nil) ∨ ∃ el sp, y.1 = .slice el sp ∧ el.length = l.length ∧ el.length + sp.length = c) := by
  rcases open_ints ht he hc h with ⟨hcs, hx⟩ | ⟨a, len, cap, zs, hcs, _, hl, hm, hz, hx, hcell, hwz⟩
  · obtain rfl := List.singleton_inj.1 hcs
    exact ⟨none, 0, [], rfl, Nat.le_refl _, Sl.nil, by simp, .inl ⟨rfl, rfl, rfl, by rw [hx]⟩⟩
  · obtain rfl := List.singleton_inj.1 hcs
    simp only [if_true] at hz
    have ht : (zs.take len).length = len := by simp; omega
    refine ⟨some a, cap, zs.take len, by rw [ht], by omega, fun j u hj => ?_, fun n hn => i32_bd (hwz n (List.mem_of_mem_take hn)), .inr ⟨_, _, by rw [hx], by simp [lits], by simp [lits]; omega⟩⟩
    simp only [iv, List.getElem?_map, List.getElem?_take] at hj
    split at hj
    · rename_i hlt
      have hlz : j < zs.length := by omega
      have hcj := hcell j hlz
      simp only [List.getElem?_eq_getElem hlz, Option.map_some, Option.some.injEq] at hj
      subst hj
      refine ⟨a, rfl, ?_, by rw [hcj]; simp [List.getD, List.getElem?_eq_getElem hlz]⟩
      have := World.block_lt_of_cell? w _ hcj
      rwa [blk_add] at this
    · cases hj
/-- a thing by value -/
theorem open_obj {r : Reach} {b0 : Nat} {t e : TypeId} {f0 f1 f2 : Field} {v : Value} {d : DataW H} {p : List MemPlace} (ht : P.underlying t = some (.struct #[f0, f1, f2])) (hone : oneCellFields P #[f0, f1, f2] = true) (hC : P.cellsOf t = 3)
    (k0 : P.underlying f0.type = some (.int .i64)) (k1 : P.underlying f1.type = some (.slice e)) (ke : P.underlying e = some (.int .i32)) (kc : P.cellsOf e = 1) (k2 : P.underlying f2.type = some .string)
    (hv : Value.okWide P w r b0 t v) (h : DataW.Trod enc P w base (fun _ => true) held t v d p) :
    ∃ A c x d0 d1, v = ob A c x ∧ x.vec.length ≤ c ∧ Sl w w.heap.size A (iv x.vec) ∧ Okay x ∧ d = .agg [d0, d1, .lit (.string (tl x.str))] ∧
      ((A = none ∧ c = 0 ∧ x.vec = [] ∧ d1 = .nil) ∨ ∃ el sp, d1 = .slice el sp ∧ el.length = x.vec.length ∧ el.length + sp.length = c) := by
  obtain ⟨cs, rfl, hsz⟩ := okWide_struct ht hv
  obtain ⟨l⟩ := cs
  match l, hsz.trans hC with
  | [c0, c1, c2], _ =>
    obtain ⟨fuel, hf⟩ := h
    obtain ⟨xs, n, _, hx, _, hlen, hg⟩ := DataW.trod_struct ht hf
    obtain ⟨o0, q0⟩ := hone_of hone 0 f0 rfl
    obtain ⟨o1, q1⟩ := hone_of hone 1 f1 rfl
    obtain ⟨o2, q2⟩ := hone_of hone 2 f2 rfl
    match xs, hlen with
    | [y0, y1, y2], _ =>
      have g0 : DataW.trod enc P w base (fun _ => true) held n f0.type [c0] = some y0 := by simpa [Value.cells, o0, q0] using hg 0 f0 rfl
      have g1 : DataW.trod enc P w base (fun _ => true) held n f1.type [c1] = some y1 := by simpa [Value.cells, o1, q1] using hg 1 f1 rfl
      have g2 : DataW.trod enc P w base (fun _ => true) held n f2.type [c2] = some y2 := by simpa [Value.cells, o2, q2] using hg 2 f2 rfl
      obtain ⟨tag, e0, -, w0⟩ := DataW.trod_int k0 g0
      obtain rfl := List.singleton_inj.1 e0
      obtain ⟨A, c, vec, rfl, hc, hs, hb, hd⟩ := open_nums k1 ke kc g1
      obtain ⟨str, e2, z2, w2⟩ := DataW.trod_string k2 g2
      obtain rfl := List.singleton_inj.1 e2
      refine ⟨A, c, ⟨tag, vec, str⟩, y0.1, y1.1, rfl, hc, hs, ⟨i64_bd' w0, hb⟩, ?_, hd⟩
      injection hx with hx1 hx2
      rw [hx1]
      simp only [List.map_cons, List.map_nil, z2]
      rfl
theorem bulk_obj {d0 d1 : DataW H} {x : Thing} {A : Option Addr} {c : Nat} (h : (A = none ∧ c = 0 ∧ x.vec = [] ∧ d1 = .nil) ∨ ∃ el sp, d1 = .slice el sp ∧ el.length = x.vec.length ∧ el.length + sp.length = c) :
    x.vec.length + x.str.size ≤ Rows.uptoBulk (.agg [d0, d1, .lit (.string (tl x.str))] : DataW H) := by
  have hs := tl_len x.str
  simp only [Rows.uptoBulk, Rows.uptoBulkAll, hs]
  rcases h with ⟨_, _, h, rfl⟩ | ⟨el, sp, rfl, h, _⟩
  · rw [h]; simp; omega
  · have := bulk_slice el sp
    omega
theorem reach_obj {t e : TypeId} {f0 f1 f2 : Field} {ts : List TypeId} {ds : List (DataW H)} {d0 d1 : DataW H} {x : Thing} {A : Option Addr} {c j : Nat} (ht : P.underlying t = some (.struct #[f0, f1, f2])) (k1 : P.underlying f1.type = some (.slice e)) (kb : P.bytesOf e = 4)
    (h : (DataW.weightsEach P ts ds).all (· ≤ reachBytes) = true) (hj : ts[j]? = some t) (hdj : ds[j]? = some (.agg [d0, d1, .lit (.string (tl x.str))]))
    (hd : (A = none ∧ c = 0 ∧ x.vec = [] ∧ d1 = .nil) ∨ ∃ el sp, d1 = .slice el sp ∧ el.length = x.vec.length ∧ el.length + sp.length = c) :
    x.vec.length * 4 ≤ 140737488351232 ∧ x.str.size ≤ 140737488351232 := by
  have hs := tl_len x.str
  have hr : reachBytes = 140737488351232 := by decide
  have hin : (DataW.weightsEach P [f0.type, f1.type, f2.type] [d0, d1, .lit (.string (tl x.str))]).all (· ≤ reachBytes) = true := by
    rw [List.all_eq_true] at h ⊢
    intro n hn
    refine h n (DataW.weights_mem_each hj hdj n ?_)
    simp only [DataW.weights, ht]
    exact hn
  have h2 := sized_string hin (j := 2) rfl rfl
  rw [hs, hr] at h2
  refine ⟨?_, h2⟩
  rcases hd with ⟨_, _, h, rfl⟩ | ⟨el, sp, rfl, h, _⟩
  · rw [h]; simp
  · have h1 := sized_slice hin (j := 1) rfl rfl k1
    rw [kb, hr] at h1
    omega
end
end Go.Proofs.Ytaamlidflfdjkaa.ord
/-
  The contracts of object.Right and the document's own, Tag, Same, Clone's parts; what lives.
-/
namespace Go.Proofs.Ytaamlidflfdjkaa.obj
open Go.RowKit law bytes nums ord
set_option linter.unusedVariables false

/-- a value, and nothing that there was has turned -/
def Gives (v : Value) (w : World) (e : Ending) (w' : World) : Prop := e = .returned v ∧ Below w.heap.size w w'
theorem cells3 {w : World} {b t : Nat} {x0 x1 x2 : Value} (h : Blk w b t #[x0, x1, x2]) : w.cell? ⟨b, 0, none⟩ = some x0 ∧ w.cell? ⟨b, 1, none⟩ = some x1 ∧ w.cell? ⟨b, 2, none⟩ = some x2 ∧ (∀ i, w.frozen? ⟨b, i, none⟩ = false) := ⟨h.cell 0, h.cell 1, h.cell 2, h.frozen⟩
theorem box_blk (w : World) (t : Nat) (cs : Array Value) : Below w.heap.size w (w.alloc (.cells cs t)) := (Below.refl _ w).alloc (Nat.le_refl _) _
def U64' (n : Nat) : Prop := n < 18446744073709551616
/-- the tests of object.Right: not of a length, another tag, a size that may not be -/
theorem right_len (x : Thing) (m s : Int) : rightO x m s = if (lenO x).2 = false ∨ x.tag ≠ tagOf m ∨ s < 0 ∨ 65536 < s then false else decide ((lenO x).1 = s ∨ (m = 3 ∧ (lenO x).1 < s)) := by
  unfold rightO lenO tagOf
  have hv : (0 : Int) ≤ (x.vec.length : Int) := by omega
  by_cases hs : s < 0 ∨ 65536 < s
  · rw [if_pos hs, if_pos (by rcases hs with h | h <;> simp [h])]
  rw [if_neg hs]
  have hs1 : ¬ s < 0 := fun h => hs (.inl h)
  have hs2 : ¬ 65536 < s := fun h => hs (.inr h)
  by_cases h1 : m = 1
  · subst h1
    by_cases t2 : x.tag = 2
    · simp [t2, hs1, hs2]
    · by_cases t1 : x.tag = 1
      · by_cases h0 : x.str.size = 0 <;> simp [t1, h0, hs1, hs2]
      · simp [t1, t2]
  by_cases h2 : m = 2
  · subst h2
    by_cases t2 : x.tag = 2
    · by_cases h0 : x.vec.length = 0 <;> simp [t2, h0, hs1, hs2]
      all_goals simp_all
    · simp [t2]
  by_cases h3 : m = 3
  · subst h3
    by_cases t2 : x.tag = 2
    · by_cases h0 : x.vec.length = 0 <;> simp [t2, h0, hs1, hs2]
      all_goals (first | omega | (rw [Bool.eq_iff_iff]; simp; omega) | simp_all)
    · simp [t2]
  · simp only [h1, h2, h3, if_false]
    by_cases t2 : x.tag = 2
    · simp [t2]
    · by_cases t1 : x.tag = 1
      · simp [t1]
      · simp [t1, t2]

set_option maxHeartbeats 800000 in
theorem rright_any (A : Option Addr) (c : Nat) (x : Thing) (m s : Int) (w : World) :
    Calls Try.prog 22 #[.agg #[.int .i64 x.tag, .slice A x.vec.length c, .string x.str], .int .i64 m, .int .i64 s] w (Gives (.bool (rightO x m s)) w) := by
  have hR : rightO x m s = (if s < 0 ∨ 65536 < s then false
    else if m = 1 then decide (x.tag = 1) && decide ((x.vec.length : Int) = s) && decide (x.str.size = 0)
    else if m = 2 then decide (x.tag = 2) && decide ((x.str.size : Int) = s) && decide (x.vec.length = 0)
    else decide (m = 3) && decide (x.tag = 2) && decide ((x.str.size : Int) ≤ s) && decide (x.vec.length = 0)) := rfl
  obtain ⟨tag, vec, str⟩ := x
  simp only at hR ⊢
  generalize rightO ⟨tag, vec, str⟩ m s = R at hR ⊢
  generalize vec.length = n at hR ⊢
  obtain ⟨z, hm⟩ : ∃ z, str.size = z := ⟨_, rfl⟩
  rw [hm] at hR
  by_cases h0 : s < 0
  · have d0 : decide (s < 0) = true := decide_eq_true h0
    have hR' : R = false := by rw [hR]; simp [*]
    have HR := Lib.hid hR'
    clear hR'
    clear hR
    go_enter Try.func22, Try.ntmps22
    go_wp2_with (fail)
    go_ret
    exact ⟨by rw [HR.out]; rfl, box_blk _ _ _⟩
  have d0 : decide (s < 0) = false := decide_eq_false h0
  by_cases h6 : 65536 < s
  · have d6 : decide (65536 < s) = true := decide_eq_true h6
    have hR' : R = false := by rw [hR]; simp [*]
    have HR := Lib.hid hR'
    clear hR'
    clear hR
    go_enter Try.func22, Try.ntmps22
    go_wp2_with (fail)
    go_ret
    exact ⟨by rw [HR.out]; rfl, box_blk _ _ _⟩
  have d6 : decide (65536 < s) = false := decide_eq_false h6
  by_cases m1 : m = 1
  · subst m1
    by_cases hta : tag = 1
    case neg =>
      have eta : (tag == 1) = false := by simp; omega
      have hR' : R = false := by rw [hR]; simp [*]
      have HR := Lib.hid hR'
      clear hR'
      clear hR
      go_enter Try.func22, Try.ntmps22
      go_wp2_with (fail)
      go_ret
      exact ⟨by rw [HR.out]; rfl, box_blk _ _ _⟩
    have eta : (tag == 1) = true := by simp; omega
    by_cases htb : (n : Int) = s
    case neg =>
      have etb : ((n : Int) == s) = false := by simp; omega
      have hR' : R = false := by rw [hR]; simp [*]
      have HR := Lib.hid hR'
      clear hR'
      clear hR
      go_enter Try.func22, Try.ntmps22
      go_wp2_with (fail)
      go_ret
      exact ⟨by rw [HR.out]; rfl, box_blk _ _ _⟩
    have etb : ((n : Int) == s) = true := by simp; omega
    by_cases htc : z = 0
    case neg =>
      have etc : ((z : Int) == 0) = false := by simp; omega
      have hR' : R = false := by rw [hR]; simp [*]
      have HR := Lib.hid hR'
      clear hR'
      clear hR
      go_enter Try.func22, Try.ntmps22
      go_wp2_with (fail)
      go_ret
      exact ⟨by rw [HR.out]; rfl, box_blk _ _ _⟩
    have etc : ((z : Int) == 0) = true := by simp; omega
    have hR' : R = true := by rw [hR]; simp [*]
    have HR := Lib.hid hR'
    clear hR'
    clear hR
    go_enter Try.func22, Try.ntmps22
    go_wp2_with (fail)
    go_ret
    exact ⟨by rw [HR.out]; rfl, box_blk _ _ _⟩
  have e1 : (m == 1) = false := by simpa using m1
  by_cases m2 : m = 2
  · subst m2
    by_cases hta : tag = 2
    case neg =>
      have eta : (tag == 2) = false := by simp; omega
      have hR' : R = false := by rw [hR]; simp [*]
      have HR := Lib.hid hR'
      clear hR'
      clear hR
      go_enter Try.func22, Try.ntmps22
      go_wp2_with (fail)
      go_ret
      exact ⟨by rw [HR.out]; rfl, box_blk _ _ _⟩
    have eta : (tag == 2) = true := by simp; omega
    by_cases htb : (z : Int) = s
    case neg =>
      have etb : ((z : Int) == s) = false := by simp; omega
      have hR' : R = false := by rw [hR]; simp [*]
      have HR := Lib.hid hR'
      clear hR'
      clear hR
      go_enter Try.func22, Try.ntmps22
      go_wp2_with (fail)
      go_ret
      exact ⟨by rw [HR.out]; rfl, box_blk _ _ _⟩
    have etb : ((z : Int) == s) = true := by simp; omega
    by_cases htc : n = 0
    case neg =>
      have etc : ((n : Int) == 0) = false := by simp; omega
      have hR' : R = false := by rw [hR]; simp [*]
      have HR := Lib.hid hR'
      clear hR'
      clear hR
      go_enter Try.func22, Try.ntmps22
      go_wp2_with (fail)
      go_ret
      exact ⟨by rw [HR.out]; rfl, box_blk _ _ _⟩
    have etc : ((n : Int) == 0) = true := by simp; omega
    have hR' : R = true := by rw [hR]; simp [*]
    have HR := Lib.hid hR'
    clear hR'
    clear hR
    go_enter Try.func22, Try.ntmps22
    go_wp2_with (fail)
    go_ret
    exact ⟨by rw [HR.out]; rfl, box_blk _ _ _⟩
  have e2 : (m == 2) = false := by simpa using m2
  by_cases m3 : m = 3
  case neg =>
    have e3 : (m == 3) = false := by simpa using m3
    have hR' : R = false := by rw [hR]; simp [*]
    have HR := Lib.hid hR'
    clear hR'
    clear hR
    go_enter Try.func22, Try.ntmps22
    go_wp2_with (fail)
    go_ret
    exact ⟨by rw [HR.out]; rfl, box_blk _ _ _⟩
  subst m3
  by_cases hta : tag = 2
  case neg =>
    have eta : (tag == 2) = false := by simp; omega
    have hR' : R = false := by rw [hR]; simp [*]
    have HR := Lib.hid hR'
    clear hR'
    clear hR
    go_enter Try.func22, Try.ntmps22
    go_wp2_with (fail)
    go_ret
    exact ⟨by rw [HR.out]; rfl, box_blk _ _ _⟩
  have eta : (tag == 2) = true := by simp; omega
  by_cases htb : (z : Int) ≤ s
  case neg =>
    have etb : decide ((z : Int) ≤ s) = false := decide_eq_false (by omega)
    have hR' : R = false := by rw [hR]; simp [*]
    have HR := Lib.hid hR'
    clear hR'
    clear hR
    go_enter Try.func22, Try.ntmps22
    go_wp2_with (fail)
    go_ret
    exact ⟨by rw [HR.out]; rfl, box_blk _ _ _⟩
  have etb : decide ((z : Int) ≤ s) = true := decide_eq_true (by omega)
  by_cases htc : n = 0
  case neg =>
    have etc : ((n : Int) == 0) = false := by simp; omega
    have hR' : R = false := by rw [hR]; simp [*]
    have HR := Lib.hid hR'
    clear hR'
    clear hR
    go_enter Try.func22, Try.ntmps22
    go_wp2_with (fail)
    go_ret
    exact ⟨by rw [HR.out]; rfl, box_blk _ _ _⟩
  have etc : ((n : Int) == 0) = true := by simp; omega
  have hR' : R = true := by rw [hR]; simp [*]
  have HR := Lib.hid hR'
  clear hR'
  clear hR
  go_enter Try.func22, Try.ntmps22
  go_wp2_with (fail)
  go_ret
  exact ⟨by rw [HR.out]; rfl, box_blk _ _ _⟩
end Go.Proofs.Ytaamlidflfdjkaa.obj
/-
  The contract of object.Same, and what lives.
-/
namespace Go.Proofs.Ytaamlidflfdjkaa.obj
open Go.RowKit law bytes nums ord
set_option linter.unusedVariables false

def Alike (l m : List Int) (k : Nat) : Prop := l.take k = m.take k
theorem Alike.zero {l m : List Int} : Alike l m 0 := by simp [Alike]
theorem Alike.step {l m : List Int} {k : Nat} (h : Alike l m k) (h1 : k < l.length) (h2 : k < m.length) (he : l[k] = m[k]) : Alike l m (k + 1) := by
  unfold Alike at *
  rw [List.take_succ_eq_append_getElem h1, List.take_succ_eq_append_getElem h2, h, he]
theorem Alike.all {l m : List Int} {k : Nat} (h : Alike l m k) (hl : m.length = l.length) (hk : l.length ≤ k) : l = m := by
  unfold Alike at h
  rwa [List.take_of_length_le hk, List.take_of_length_le (by omega)] at h
/-- a bool, and nothing but draws -/
def Tells (b : Bool) (w : World) (e : Ending) (w' : World) : Prop := e = .returned (.bool b) ∧ ∃ k, w' = w.drewN k

theorem two_box (w : World) (t : Nat) (a b : Array Value) : Below w.heap.size w ((w.alloc (.cells a t)).alloc (.cells b t)) ∧ Blk ((w.alloc (.cells a t)).alloc (.cells b t)) w.heap.size t a ∧ Blk ((w.alloc (.cells a t)).alloc (.cells b t)) (w.heap.size + 1) t b := by
  refine ⟨((Below.refl _ w).alloc (Nat.le_refl _) _).alloc (by simp) _, (Blk.new w t a).alloc _, ?_⟩
  have h := Blk.new (w.alloc (.cells a t)) t b
  rwa [show (w.alloc (.cells a t)).heap.size = w.heap.size + 1 from by simp] at h
theorem sameO_iff (x y : Thing) : sameO x y = true ↔ x.tag = y.tag ∧ x.str = y.str ∧ x.vec = y.vec := by
  unfold sameO
  rw [decide_eq_true_iff, cmpO_tot.zero]
  obtain ⟨a, b, c⟩ := x
  obtain ⟨a', b', c'⟩ := y
  simp only [Thing.mk.injEq]
  exact ⟨fun ⟨h1, h2, h3⟩ => ⟨h1, h3, h2⟩, fun ⟨h1, h2, h3⟩ => ⟨h1, h3, h2⟩⟩
theorem list_eq_iff (a b : ByteArray) : (a.toList == b.toList) = decide (a = b) := by
  rw [Bool.eq_iff_iff]
  simp only [beq_iff_eq, decide_eq_true_eq, Lib.toList_data]
  exact ⟨fun h => tl_inj h, fun h => by rw [h]⟩
end Go.Proofs.Ytaamlidflfdjkaa.obj
/-
  What lives (layer 5); calls inside regions, over a world that stays below.
-/
namespace Go.Proofs.Ytaamlidflfdjkaa.obj
open Go.RowKit law bytes nums ord
set_option linter.unusedVariables false

theorem on {P : Program} {f : FuncId} {args : Array Value} {V W : World} {v : Value} (hb : Below V.heap.size V W) (h : Calls P f args W (Gives v W)) : Calls P f args W fun e w' => e = .returned v ∧ Below V.heap.size V w' :=
  h.mono fun e w' ⟨he, h2⟩ => ⟨he, hb.trans (h2.mono hb.size)⟩
theorem add_zero_at (b j : Nat) : (⟨b, 0, none⟩ : Addr).add j = ⟨b, j, none⟩ := by
  unfold Addr.add
  by_cases hz : j = 0 <;> simp [hz]
theorem Sl.of_blk {w : World} {b t : Nat} {cs : Array Value} (h : Blk w b t cs) : Sl w w.heap.size (some ⟨b, 0, none⟩) cs.toList := fun j u hj => by
  refine ⟨_, rfl, h.lt, ?_⟩
  rw [add_zero_at, h.cell j]
  simpa using hj
def live : Thing := ⟨1, [3, -4], ⟨#[]⟩⟩
end Go.Proofs.Ytaamlidflfdjkaa.obj
