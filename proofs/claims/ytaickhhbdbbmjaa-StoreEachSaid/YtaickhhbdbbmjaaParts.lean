/-
  Program-free: parts, what they are written as, what reads of bytes tell, there and back.
-/
import Derived.Test.YtaickhhbdbbmjaaNums
namespace Go.Proofs.Ytaickhhbdbbmjaa.nums

structure Part where
  kind : Int
  n : Nat
  i : Int
  f : Bool
  t : ByteArray
  low : Int
  high : Int
  most : Int

def tl (s : ByteArray) : List UInt8 := s.data.toList
theorem tl_len (s : ByteArray) : (tl s).length = s.size := by simp only [tl, Array.length_toList]; rfl
theorem tl_mk (l : List UInt8) : tl ⟨l.toArray⟩ = l := by simp [tl]
theorem size_mk (l : List UInt8) : (⟨l.toArray⟩ : ByteArray).size = l.length := by simp [ByteArray.size]
theorem mk_tl (s : ByteArray) : (⟨(tl s).toArray⟩ : ByteArray) = s := by cases s; simp [tl]

def bit (f : Bool) : Nat := if f then 1 else 0
def encP (p : Part) : List UInt8 :=
  if p.kind = 0 then encB p.n else if p.kind = 1 then encB (encI p.i) else if p.kind = 2 then encB (bit p.f) else encB p.t.size ++ tl p.t
def encL (l : List Part) : List UInt8 := l.flatMap encP
theorem encL_append (l m : List Part) : encL (l ++ m) = encL l ++ encL m := by simp [encL]
theorem encL_one (p : Part) : encL [p] = encP p := by simp [encL]
theorem encL_snoc (l : List Part) (k : Nat) (h : k < l.length) : encL (l.take (k + 1)) = encL (l.take k) ++ encP l[k] := by
  rw [List.take_succ_eq_append_getElem h, encL_append, encL_one]

/-- what can be handed in -/
def Ok (p : Part) : Prop := p.n < 18446744073709551616 ∧ -9223372036854775808 ≤ p.i ∧ p.i ≤ 9223372036854775807
theorem encP_len {p : Part} (h : Ok p) (ht : p.t.size < 18446744073709551616) : (encP p).length ≤ 10 + p.t.size := by
  unfold encP
  split
  · have := encB_len h.1; omega
  · split
    · have := encB_len (encI_lt h.2.1 h.2.2); omega
    · split
      · have : bit p.f < 18446744073709551616 := by unfold bit; split <;> omega
        have := encB_len this; omega
      · rw [List.length_append, tl_len]; have := encB_len ht; omega

/-! ### a reader -/
structure St where
  b : List UInt8
  e : Int
def numS (s : St) (may : Nat → Bool) : Nat × St :=
  if s.e = 0 then
    if (first s.b).2.2 = 0 then
      if may (first s.b).1 = true then ((first s.b).1, ⟨s.b.drop (first s.b).2.1, 0⟩) else (0, ⟨[], 14⟩)
    else (0, ⟨[], (first s.b).2.2⟩)
  else (0, s)
def textS (s : St) (most : Int) : List UInt8 × St :=
  if (numS s fun n => decide (0 ≤ most) && decide ((n : Int) ≤ most)).2.b.length < (numS s fun n => decide (0 ≤ most) && decide ((n : Int) ≤ most)).1 then ([], ⟨[], 13⟩)
  else ((numS s fun n => decide (0 ≤ most) && decide ((n : Int) ≤ most)).2.b.take (numS s fun n => decide (0 ≤ most) && decide ((n : Int) ≤ most)).1,
    ⟨(numS s fun n => decide (0 ≤ most) && decide ((n : Int) ≤ most)).2.b.drop (numS s fun n => decide (0 ≤ most) && decide ((n : Int) ≤ most)).1, (numS s fun n => decide (0 ≤ most) && decide ((n : Int) ≤ most)).2.e⟩)
def mayN (most : Nat) (n : Nat) : Bool := decide (n ≤ most)
def mayI (low high : Int) (n : Nat) : Bool := decide (low ≤ decI n) && decide (decI n ≤ high)
def zeroP (kind : Int) : Part := ⟨kind, 0, 0, false, ⟨#[]⟩, 0, 0, 0⟩
def takeP (s : St) (p : Part) : Part × St :=
  if p.kind = 0 then ({ zeroP p.kind with n := (numS s (mayN p.n)).1 }, (numS s (mayN p.n)).2)
  else if p.kind = 1 then ({ zeroP p.kind with i := decI (numS s (mayI p.low p.high)).1 }, (numS s (mayI p.low p.high)).2)
  else if p.kind = 2 then ({ zeroP p.kind with f := decide ((numS s (mayN 1)).1 = 1) }, (numS s (mayN 1)).2)
  else ({ zeroP p.kind with t := ⟨(textS s p.most).1.toArray⟩ }, (textS s p.most).2)
def endP (s : St) : Int := if s.e = 0 then (if s.b.length = 0 then 0 else 12) else s.e

/-- a broken one has nothing left -/
def Clean (s : St) : Prop := s.e ≠ 0 → s.b = []
theorem numS_lt (s : St) (may : Nat → Bool) : (numS s may).1 < 18446744073709551616 := by
  unfold numS
  split
  · split
    · rename_i h
      split
      · exact (first_ok h).1
      · simp
    · simp
  · simp
theorem numS_len (s : St) (may : Nat → Bool) : (numS s may).2.b.length ≤ s.b.length := by
  unfold numS
  split
  · split
    · split
      · simp
      · simp
    · simp
  · simp
theorem numS_clean {s : St} (h : Clean s) (may : Nat → Bool) : Clean (numS s may).2 := by
  unfold numS
  split
  · split
    · split
      · intro h; exact absurd rfl h
      · intro _; rfl
    · intro _; rfl
  · exact h
theorem textS_len (s : St) (most : Int) : (textS s most).1.length + (textS s most).2.b.length ≤ s.b.length := by
  have h := numS_len s fun n => decide (0 ≤ most) && decide ((n : Int) ≤ most)
  unfold textS
  split
  · simp
  · simp; omega
theorem textS_clean {s : St} (h : Clean s) (most : Int) : Clean (textS s most).2 := by
  have h := numS_clean h fun n => decide (0 ≤ most) && decide ((n : Int) ≤ most)
  unfold textS
  split
  · intro _; rfl
  · intro he
    have := h he
    simp [this]
theorem takeP_clean {s : St} (h : Clean s) (p : Part) : Clean (takeP s p).2 := by
  unfold takeP
  split
  · exact numS_clean h _
  · split
    · exact numS_clean h _
    · split
      · exact numS_clean h _
      · exact textS_clean h _
theorem takeP_kind (s : St) (p : Part) : (takeP s p).1.kind = p.kind := by
  unfold takeP
  split
  · rfl
  · split
    · rfl
    · split <;> rfl
theorem takeP_len (s : St) (p : Part) : (takeP s p).1.t.size + (takeP s p).2.b.length ≤ s.b.length := by
  unfold takeP
  split
  · have := numS_len s (mayN p.n); simpa [zeroP, ByteArray.size] using this
  · split
    · have := numS_len s (mayI p.low p.high); simpa [zeroP, ByteArray.size] using this
    · split
      · have := numS_len s (mayN 1); simpa [zeroP, ByteArray.size] using this
      · simp only [size_mk]; exact textS_len s p.most
theorem takeP_ok (s : St) (p : Part) : Ok (takeP s p).1 := by
  unfold takeP
  split
  · have := numS_lt s (mayN p.n); exact ⟨this, by simp [zeroP], by simp [zeroP]⟩
  · split
    · have := decI_bd (numS_lt s (mayI p.low p.high)); exact ⟨by simp [zeroP], this.1, this.2⟩
    · split
      · exact ⟨by simp [zeroP], by simp [zeroP], by simp [zeroP]⟩
      · exact ⟨by simp [zeroP], by simp [zeroP], by simp [zeroP]⟩

/-! ### there and back -/
theorem numS_enc (n : Nat) (hn : n < 18446744073709551616) (r : List UInt8) (may : Nat → Bool) (hm : may n = true) : numS ⟨encB n ++ r, 0⟩ may = (n, ⟨r, 0⟩) := by
  unfold numS
  simp only [first_enc n hn r, if_true, hm, List.drop_left']
def narrow (p : Part) : Part := ⟨p.kind, p.n, 0, false, ⟨#[]⟩, p.i, p.i, p.t.size⟩
def agrees (p q : Part) : Prop := (p.kind = 0 → q.n = p.n) ∧ (p.kind = 1 → q.i = p.i) ∧ (p.kind = 2 → q.f = p.f) ∧ (p.kind < 0 ∨ 2 < p.kind → q.t = p.t)
theorem take_enc (p : Part) (h : Ok p) (ht : p.t.size < 18446744073709551616) (r : List UInt8) : (takeP ⟨encP p ++ r, 0⟩ (narrow p)).2 = ⟨r, 0⟩ ∧ agrees p (takeP ⟨encP p ++ r, 0⟩ (narrow p)).1 := by
  unfold agrees encP
  have hk : (narrow p).kind = p.kind := rfl
  by_cases h0 : p.kind = 0
  · unfold takeP
    rw [hk, if_pos h0, if_pos h0, numS_enc p.n h.1 r (mayN (narrow p).n) (by simp [mayN, narrow])]
    exact ⟨rfl, fun _ => rfl, by omega, by omega, by omega⟩
  rw [if_neg h0]
  by_cases h1 : p.kind = 1
  · unfold takeP
    rw [hk, if_neg h0, if_pos h1, if_pos h1, numS_enc (encI p.i) (encI_lt h.2.1 h.2.2) r (mayI (narrow p).low (narrow p).high) (by simp [mayI, narrow, decI_encI])]
    exact ⟨rfl, by omega, fun _ => decI_encI _, by omega, by omega⟩
  rw [if_neg h1]
  by_cases h2 : p.kind = 2
  · unfold takeP
    rw [hk, if_neg h0, if_neg h1, if_pos h2, if_pos h2, numS_enc (bit p.f) (by unfold bit; split <;> omega) r (mayN 1) (by unfold bit mayN; split <;> simp)]
    refine ⟨rfl, by omega, by omega, fun _ => ?_, by omega⟩
    cases p.f <;> simp [bit]
  rw [if_neg h2]
  unfold takeP
  rw [hk, if_neg h0, if_neg h1, if_neg h2]
  have e := numS_enc p.t.size ht (tl p.t ++ r) (fun n => decide (0 ≤ (narrow p).most) && decide ((n : Int) ≤ (narrow p).most)) (by simp [narrow])
  rw [← List.append_assoc] at e
  unfold textS
  rw [e, if_neg (by simp [tl_len])]
  refine ⟨?_, by omega, by omega, by omega, fun _ => ?_⟩
  · simp only
    rw [List.drop_left' (tl_len p.t)]
  · simp only
    rw [List.take_left' (tl_len p.t), mk_tl]
theorem numS_back {s : St} {may : Nat → Bool} (h : (numS s may).2.e = 0) : s.e = 0 ∧ encB (numS s may).1 ++ (numS s may).2.b = s.b ∧ may (numS s may).1 = true := by
  unfold numS at h ⊢
  by_cases h1 : s.e = 0
  · rw [if_pos h1] at h ⊢
    by_cases h2 : (first s.b).2.2 = 0
    · rw [if_pos h2] at h ⊢
      by_cases h3 : may (first s.b).1 = true
      · rw [if_pos h3]
        obtain ⟨_, _, _, he⟩ := first_ok h2
        exact ⟨h1, by simp only; rw [he, List.take_append_drop], h3⟩
      · rw [if_neg h3] at h
        simp at h
    · rw [if_neg h2] at h
      exact absurd h h2
  · rw [if_neg h1] at h
    exact absurd h h1
theorem take_back {s : St} {p : Part} (h : (takeP s p).2.e = 0) : s.e = 0 ∧ encP (takeP s p).1 ++ (takeP s p).2.b = s.b := by
  have hk := takeP_kind s p
  unfold encP
  rw [hk]
  unfold takeP at h ⊢
  by_cases h0 : p.kind = 0
  · rw [if_pos h0] at h ⊢
    rw [if_pos h0]
    obtain ⟨a, b, _⟩ := numS_back h
    exact ⟨a, b⟩
  rw [if_neg h0] at h ⊢
  rw [if_neg h0]
  by_cases h1 : p.kind = 1
  · rw [if_pos h1] at h ⊢
    rw [if_pos h1]
    obtain ⟨a, b, _⟩ := numS_back h
    exact ⟨a, by simp only; rw [encI_decI]; exact b⟩
  rw [if_neg h1] at h ⊢
  rw [if_neg h1]
  by_cases h2 : p.kind = 2
  · rw [if_pos h2] at h ⊢
    rw [if_pos h2]
    obtain ⟨a, b, c⟩ := numS_back h
    refine ⟨a, ?_⟩
    simp only
    have hc : (numS s (mayN 1)).1 ≤ 1 := of_decide_eq_true c
    have e : bit (decide ((numS s (mayN 1)).1 = 1)) = (numS s (mayN 1)).1 := by
      unfold bit
      by_cases hx : (numS s (mayN 1)).1 = 1
      · simp [hx]
      · simp [hx]; omega
    rw [e]
    exact b
  rw [if_neg h2] at h ⊢
  rw [if_neg h2]
  simp only [size_mk, tl_mk]
  unfold textS at h ⊢
  split at h
  · simp at h
  rename_i hl
  rw [if_neg hl]
  obtain ⟨a, b, _⟩ := numS_back h
  refine ⟨a, ?_⟩
  simp only
  rw [List.length_take, Nat.min_eq_left (by omega), List.append_assoc, List.take_append_drop]
  exact b

/-! ### many -/
def takes (s : St) (l : List Part) : List Part × St := l.foldl (fun x p => (x.1 ++ [(takeP x.2 p).1], (takeP x.2 p).2)) ([], s)
theorem takes_nil (s : St) : takes s [] = ([], s) := rfl
theorem takes_snoc (s : St) (l : List Part) (k : Nat) (h : k < l.length) :
    takes s (l.take (k + 1)) = ((takes s (l.take k)).1 ++ [(takeP (takes s (l.take k)).2 l[k]).1], (takeP (takes s (l.take k)).2 l[k]).2) := by
  unfold takes
  rw [List.take_succ_eq_append_getElem h, List.foldl_append]
  rfl
theorem takes_all (s : St) (l : List Part) (k : Nat) (hk : k ≤ l.length) : (takes s (l.take k)).1.length = k ∧ (∀ q ∈ (takes s (l.take k)).1, Ok q) ∧ (Clean s → Clean (takes s (l.take k)).2) ∧
    ((takes s (l.take k)).2.e = 0 → s.e = 0 ∧ encL (takes s (l.take k)).1 ++ (takes s (l.take k)).2.b = s.b) ∧
    ((takes s (l.take k)).1.map fun q => q.t.size).sum + (takes s (l.take k)).2.b.length ≤ s.b.length := by
  induction k with
  | zero => simp [takes_nil, encL]
  | succ k ih =>
    obtain ⟨h1, h2, h3, h4, h5⟩ := ih (by omega)
    rw [takes_snoc s l k (by omega)]
    refine ⟨by simp [h1], ?_, fun hc => takeP_clean (h3 hc) _, ?_, ?_⟩
    · intro q hq
      rcases List.mem_append.1 hq with hq | hq
      · exact h2 q hq
      · rw [List.mem_singleton.1 hq]
        exact takeP_ok _ _
    · intro he
      obtain ⟨a, b⟩ := take_back he
      obtain ⟨c, d⟩ := h4 a
      refine ⟨c, ?_⟩
      simp only
      rw [encL_append, encL_one, List.append_assoc, b, d]
    · have := takeP_len (takes s (l.take k)).2 l[k]
      simp only [List.map_append, List.sum_append, List.map_cons, List.map_nil, List.sum_cons, List.sum_nil]
      omega
theorem encL_len (l : List Part) (h : ∀ q ∈ l, Ok q) (B : Nat) (hs : (l.map fun q => q.t.size).sum ≤ B) (hB : B < 18446744073709551616) : (encL l).length ≤ 10 * l.length + (l.map fun q => q.t.size).sum := by
  induction l with
  | nil => simp [encL]
  | cons p r ih =>
    simp only [List.map_cons, List.sum_cons, List.length_cons] at hs ⊢
    have h1 := ih (fun q hq => h q (by simp [hq])) (by omega)
    have h2 := encP_len (h p (by simp)) (by omega)
    have e : encL (p :: r) = encP p ++ encL r := by simp [encL]
    rw [e, List.length_append]
    omega
/-- bytes that are read to the end are written as these bytes -/
theorem back (b : List UInt8) (l : List Part) (h : endP (takes ⟨b, 0⟩ l).2 = 0) : encL (takes ⟨b, 0⟩ l).1 = b := by
  have ht := (takes_all ⟨b, 0⟩ l l.length (Nat.le_refl _)).2.2.2.1
  rw [List.take_length] at ht
  unfold endP at h
  by_cases he : (takes ⟨b, 0⟩ l).2.e = 0
  · rw [if_pos he] at h
    by_cases hb : (takes ⟨b, 0⟩ l).2.b.length = 0
    · have := (ht he).2
      rw [List.eq_nil_of_length_eq_zero hb, List.append_nil] at this
      exact this
    · rw [if_neg hb] at h
      cases h
  · rw [if_neg he] at h
    exact absurd h he
end Go.Proofs.Ytaickhhbdbbmjaa.nums
