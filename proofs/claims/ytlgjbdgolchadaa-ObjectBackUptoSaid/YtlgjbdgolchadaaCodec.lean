/-
  Program-free: things as parts and as bytes, and back.
-/
import Derived.Test.YtlgjbdgolchadaaOrd
import Derived.Test.YtlgjbdgolchadaaTakeP
namespace Go.Proofs.Ytlgjbdgolchadaa.ord
open nums

/-! ### things as bytes -/
def partI (n : Int) : Part := ⟨1, 0, n, false, ⟨#[]⟩, 0, 0, 0⟩
def partN (n : Nat) : Part := ⟨0, n, 0, false, ⟨#[]⟩, 0, 0, 0⟩
def partT (s : ByteArray) : Part := ⟨3, 0, 0, false, s, 0, 0, 0⟩
def partsO (x : Thing) : List Part := partI x.tag :: (if x.tag = 1 then partN x.vec.length :: x.vec.map partI else if x.tag = 2 then [partT x.str] else [])
def encV (l : List Int) : List UInt8 := l.flatMap fun n => encB (encI n)
def encO (x : Thing) : List UInt8 := encB (encI x.tag) ++ (if x.tag = 1 then encB x.vec.length ++ encV x.vec else if x.tag = 2 then encB x.str.size ++ tl x.str else [])
theorem encL_map (l : List Int) : encL (l.map partI) = encV l := by
  induction l with
  | nil => rfl
  | cons a r ih =>
    have e : encL ((a :: r).map partI) = encP (partI a) ++ encL (r.map partI) := by simp [encL]
    rw [e, ih]
    simp [encV, encP, partI]
theorem encL_parts (x : Thing) : encL (partsO x) = encO x := by
  unfold partsO encO
  by_cases h1 : x.tag = 1
  · rw [if_pos h1, if_pos h1]
    have e : ∀ a b l, encL (a :: b :: l) = encP a ++ (encP b ++ encL l) := fun a b l => by simp [encL]
    rw [e, encL_map]
    rfl
  · rw [if_neg h1, if_neg h1]
    by_cases h2 : x.tag = 2
    · rw [if_pos h2, if_pos h2]
      have e : ∀ a b, encL [a, b] = encP a ++ encP b := fun a b => by simp [encL]
      rw [e]
      rfl
    · rw [if_neg h2, if_neg h2]
      have e : ∀ a, encL [a] = encP a ++ [] := fun a => by simp [encL]
      rw [e]
      rfl
theorem encV_take (l : List Int) (k : Nat) (h : k < l.length) : encV (l.take (k + 1)) = encV (l.take k) ++ encB (encI l[k]) := by
  unfold encV
  rw [List.take_succ_eq_append_getElem h, List.flatMap_append]
  simp
theorem encV_len {l : List Int} (h : ∀ n ∈ l, -2147483648 ≤ n ∧ n ≤ 2147483647) (k : Nat) : (encV (l.take k)).length ≤ 10 * k := by
  induction k with
  | zero => simp [encV]
  | succ k ih =>
    by_cases hk : k < l.length
    · rw [encV_take l k hk, List.length_append]
      have hb := h l[k] (List.getElem_mem hk)
      have := encB_len (encI_lt (i := l[k]) (by omega) (by omega))
      omega
    · rw [List.take_of_length_le (by omega)] at ih ⊢
      omega
theorem encO_len {x : Thing} (h : Okay x) (hv : x.vec.length ≤ 1048576) (hs : x.str.size ≤ 1048576) : (encO x).length ≤ 20 + 10 * x.vec.length + x.str.size := by
  unfold encO
  have h1 := encB_len (encI_lt h.1.1 h.1.2)
  have h2 := encB_len (n := x.vec.length) (by omega)
  have h3 := encB_len (n := x.str.size) (by omega)
  have h4 := encV_len h.2 x.vec.length
  rw [List.take_length] at h4
  have h5 := tl_len x.str
  rw [List.length_append]
  split
  · rw [List.length_append]; omega
  · split
    · rw [List.length_append]; omega
    · simp; omega
theorem parts_ok {x : Thing} (h : Okay x) (hv : x.vec.length ≤ 1048576) : ∀ q ∈ partsO x, Ok q := by
  have hI : ∀ n : Int, -9223372036854775808 ≤ n → n ≤ 9223372036854775807 → Ok (partI n) := fun n h1 h2 => ⟨by simp [partI], h1, h2⟩
  intro q hq
  unfold partsO at hq
  rcases List.mem_cons.1 hq with rfl | hq
  · exact hI _ h.1.1 h.1.2
  · split at hq
    · rcases List.mem_cons.1 hq with rfl | hq
      · exact ⟨by simp only [partN]; omega, by simp [partN], by simp [partN]⟩
      · obtain ⟨n, hn, rfl⟩ := List.mem_map.1 hq
        have := h.2 n hn
        exact hI n (by omega) (by omega)
    · split at hq
      · rw [List.mem_singleton.1 hq]
        exact ⟨by simp [partT], by simp [partT], by simp [partT]⟩
      · cases hq
theorem parts_bulk (x : Thing) : (partsO x).length + ((partsO x).map fun q => q.t.size).sum ≤ 2 + x.vec.length + x.str.size := by
  have hz : (⟨#[]⟩ : ByteArray).size = 0 := rfl
  have hm : ∀ l : List Int, ((l.map partI).map fun q => q.t.size).sum = 0 := fun l => by
    induction l with
    | nil => rfl
    | cons a r ih => simp only [List.map_cons, List.sum_cons, ih]; rfl
  unfold partsO
  split
  · have := hm x.vec
    simp only [List.length_cons, List.map_cons, List.sum_cons, List.length_map, this]
    simp only [partI, partN, hz]
    omega
  · split
    · simp only [List.length_cons, List.map_cons, List.sum_cons, List.map_nil, List.sum_nil, List.length_nil, partI, partT, hz]
      omega
    · simp only [List.length_cons, List.map_cons, List.sum_cons, List.map_nil, List.sum_nil, List.length_nil, partI, hz]
      omega

/-! ### and back -/
def m32 : Nat → Bool := mayI (-2147483648) 2147483647
def stN (s : St) : Nat → St
  | 0 => s
  | k + 1 => (numS (stN s k) m32).2
def valN (s : St) (k : Nat) : Int := decI (numS (stN s k) m32).1
def vals (s : St) (n : Nat) : List Int := (List.range n).map (valN s)
theorem vals_len (s : St) (n : Nat) : (vals s n).length = n := by simp [vals]
theorem vals_succ (s : St) (n : Nat) : vals s (n + 1) = vals s n ++ [valN s n] := by simp [vals, List.range_succ]
theorem numS_broken {s : St} (h : s.e ≠ 0) (may : Nat → Bool) : numS s may = (0, s) := by unfold numS; rw [if_neg h]
theorem numS_zero {s : St} {may : Nat → Bool} (h : (numS s may).2.e ≠ 0) : (numS s may).1 = 0 := by
  unfold numS at h ⊢
  split
  · rename_i h1
    rw [if_pos h1] at h
    split
    · rename_i h2
      rw [if_pos h2] at h
      split
      · rename_i h3
        rw [if_pos h3] at h
        exact absurd rfl h
      · rfl
    · rfl
  · rfl
theorem valN_bd (s : St) (k : Nat) : -2147483648 ≤ valN s k ∧ valN s k ≤ 2147483647 := by
  unfold valN
  by_cases h : (numS (stN s k) m32).2.e = 0
  · obtain ⟨_, _, h3⟩ := numS_back h
    unfold m32 mayI at h3
    rw [Bool.and_eq_true, decide_eq_true_eq, decide_eq_true_eq] at h3
    exact h3
  · rw [numS_zero h]
    simp [decI]
theorem vals_bd (s : St) (n : Nat) : ∀ v ∈ vals s n, -2147483648 ≤ v ∧ v ≤ 2147483647 := by
  intro v hv
  simp only [vals, List.mem_map] at hv
  obtain ⟨k, _, rfl⟩ := hv
  exact valN_bd s k
theorem stN_clean {s : St} (h : nums.Clean s) (k : Nat) : nums.Clean (stN s k) := by
  induction k with
  | zero => exact h
  | succ k ih => exact numS_clean ih _
theorem stN_len (s : St) (k : Nat) : (stN s k).b.length ≤ s.b.length := by
  induction k with
  | zero => exact Nat.le_refl _
  | succ k ih => exact Nat.le_trans (numS_len _ _) ih
theorem stN_stable {s : St} {k : Nat} (h : (stN s k).e ≠ 0) (n : Nat) (hn : k ≤ n) : stN s n = stN s k := by
  induction n with
  | zero => obtain rfl : k = 0 := by omega
            rfl
  | succ n ih =>
    by_cases hk : k ≤ n
    · have e := ih hk
      show (numS (stN s n) m32).2 = stN s k
      rw [e, numS_broken h]
    · obtain rfl : k = n + 1 := by omega
      rfl
theorem num_most (s : St) (m : Nat) : (numS s (mayN m)).1 ≤ m := by
  by_cases h : (numS s (mayN m)).2.e = 0
  · obtain ⟨_, _, h3⟩ := numS_back h
    simpa [mayN] using h3
  · rw [numS_zero h]; omega

/-- a thing is read -/
def tagS (s : St) : Int := decI (numS s (mayI 1 2)).1
def st1 (s : St) : St := (numS s (mayI 1 2)).2
def cnt (s : St) : Nat := (numS (st1 s) (mayN 65536)).1
def st2 (s : St) : St := (numS (st1 s) (mayN 65536)).2
def getO (s : St) : Thing × St :=
  if tagS s = 1 then (if (stN (st2 s) (cnt s)).e = 0 then ⟨1, vals (st2 s) (cnt s), ⟨#[]⟩⟩ else zeroO, stN (st2 s) (cnt s))
  else if tagS s = 2 then (if (textS (st1 s) 65536).2.e = 0 then ⟨2, [], ⟨(textS (st1 s) 65536).1.toArray⟩⟩ else zeroO, (textS (st1 s) 65536).2)
  else (zeroO, st1 s)
theorem tag_no {s : St} (h1 : tagS s ≠ 1) (h2 : tagS s ≠ 2) : (st1 s).e ≠ 0 := by
  intro h
  obtain ⟨_, _, h3⟩ := numS_back (s := s) (may := mayI 1 2) h
  have h4 : 1 ≤ tagS s ∧ tagS s ≤ 2 := by
    unfold mayI at h3
    rw [Bool.and_eq_true, decide_eq_true_eq, decide_eq_true_eq] at h3
    exact h3
  omega
theorem get_clean {s : St} (h : nums.Clean s) : nums.Clean (getO s).2 := by
  unfold getO
  have h1 : nums.Clean (st1 s) := numS_clean h _
  split
  · exact stN_clean (numS_clean h1 _) _
  · split
    · exact textS_clean h1 _
    · exact h1
theorem get_len (s : St) : (getO s).2.b.length ≤ s.b.length := by
  have h1 : (st1 s).b.length ≤ s.b.length := numS_len _ _
  unfold getO
  split
  · exact Nat.le_trans (stN_len _ _) (Nat.le_trans (numS_len _ _) h1)
  · split
    · have := textS_len (st1 s) 65536
      simp only
      omega
    · exact h1
theorem get_vec_len (s : St) : (getO s).1.vec.length ≤ 65536 := by
  unfold getO
  split
  · simp only
    split
    · simp only [vals_len]; exact num_most _ _
    · simp [zeroO]
  · split
    · simp only
      split <;> simp [zeroO]
    · simp [zeroO]

/-! ### there and back -/
/-- what comes back -/
def Whole (x : Thing) : Prop := (x.tag = 1 ∧ x.str = ⟨#[]⟩ ∧ x.vec.length ≤ 65536) ∨ (x.tag = 2 ∧ x.vec = [] ∧ x.str.size ≤ 65536)
theorem encV_drop (l : List Int) (k : Nat) (h : k < l.length) : encV (l.drop k) = encB (encI l[k]) ++ encV (l.drop (k + 1)) := by
  unfold encV
  rw [List.drop_eq_getElem_cons h, List.flatMap_cons]
theorem stN_enc {l : List Int} (hb : ∀ n ∈ l, -2147483648 ≤ n ∧ n ≤ 2147483647) (r : List UInt8) (k : Nat) (hk : k ≤ l.length) :
    stN ⟨encV l ++ r, 0⟩ k = ⟨encV (l.drop k) ++ r, 0⟩ ∧ vals ⟨encV l ++ r, 0⟩ k = l.take k := by
  induction k with
  | zero => exact ⟨rfl, rfl⟩
  | succ k ih =>
    obtain ⟨h1, h2⟩ := ih (by omega)
    have hlt : k < l.length := by omega
    have hx := hb l[k] (List.getElem_mem hlt)
    have e := numS_enc (encI l[k]) (encI_lt (by omega) (by omega)) (encV (l.drop (k + 1)) ++ r) m32 (by simp [m32, mayI, decI_encI]; omega)
    rw [← List.append_assoc, ← encV_drop l k hlt, ← h1] at e
    refine ⟨?_, ?_⟩
    · show (numS (stN ⟨encV l ++ r, 0⟩ k) m32).2 = _
      rw [e]
    · rw [vals_succ, h2, List.take_succ_eq_append_getElem hlt]
      unfold valN
      rw [e, decI_encI]
theorem get_enc {x : Thing} (hx : Okay x) (hw : Whole x) (r : List UInt8) : getO ⟨encO x ++ r, 0⟩ = (x, ⟨r, 0⟩) := by
  obtain ⟨tag, vec, str⟩ := x
  have h1 := numS_enc (encI tag) (encI_lt hx.1.1 hx.1.2)
  rcases hw with ⟨ht, hs, hv⟩ | ⟨ht, hv, hs⟩
  · simp only at ht hs hv
    subst ht hs
    have e : encO ⟨1, vec, ⟨#[]⟩⟩ ++ r = encB (encI 1) ++ (encB vec.length ++ (encV vec ++ r)) := by
      unfold encO
      simp only [if_true, List.append_assoc]
    rw [e]
    have hA := h1 (encB vec.length ++ (encV vec ++ r)) (mayI 1 2) (by rw [mayI, decI_encI]; decide)
    have hB := numS_enc vec.length (by omega) (encV vec ++ r) (mayN 65536) (by simp [mayN]; omega)
    have hT : tagS ⟨encB (encI 1) ++ (encB vec.length ++ (encV vec ++ r)), 0⟩ = 1 := by unfold tagS; rw [hA, decI_encI]
    have h2 : st1 ⟨encB (encI 1) ++ (encB vec.length ++ (encV vec ++ r)), 0⟩ = ⟨encB vec.length ++ (encV vec ++ r), 0⟩ := by unfold st1; rw [hA]
    have h3 : st2 ⟨encB (encI 1) ++ (encB vec.length ++ (encV vec ++ r)), 0⟩ = ⟨encV vec ++ r, 0⟩ := by unfold st2; rw [h2, hB]
    have h4 : cnt ⟨encB (encI 1) ++ (encB vec.length ++ (encV vec ++ r)), 0⟩ = vec.length := by unfold cnt; rw [h2, hB]
    obtain ⟨h5, h6⟩ := stN_enc hx.2 r vec.length (Nat.le_refl _)
    unfold getO
    rw [if_pos hT, h3, h4, h5, h6, if_pos rfl, List.take_length, List.drop_length]
    rfl
  · simp only at ht hs hv
    subst ht hv
    have e : encO ⟨2, [], str⟩ ++ r = encB (encI 2) ++ (encB str.size ++ (tl str ++ r)) := by
      unfold encO
      simp only [List.append_assoc]
      rw [if_neg (by decide), if_pos trivial, List.append_assoc]
    rw [e]
    have hA := h1 (encB str.size ++ (tl str ++ r)) (mayI 1 2) (by rw [mayI, decI_encI]; decide)
    have hT : tagS ⟨encB (encI 2) ++ (encB str.size ++ (tl str ++ r)), 0⟩ = 2 := by unfold tagS; rw [hA, decI_encI]
    have h2 : st1 ⟨encB (encI 2) ++ (encB str.size ++ (tl str ++ r)), 0⟩ = ⟨encB str.size ++ (tl str ++ r), 0⟩ := by unfold st1; rw [hA]
    have hB := numS_enc str.size (by omega) (tl str ++ r) (fun n => decide ((0 : Int) ≤ 65536) && decide ((n : Int) ≤ 65536)) (by simp; omega)
    have h3 : textS ⟨encB str.size ++ (tl str ++ r), 0⟩ 65536 = (tl str, ⟨r, 0⟩) := by
      unfold textS
      rw [hB, if_neg (by simp [tl_len])]
      simp only
      rw [List.drop_left' (tl_len str), List.take_left' (tl_len str)]
    unfold getO
    rw [if_neg (by rw [hT]; decide), if_pos hT, h2, h3, if_pos rfl, mk_tl]
theorem right_whole {x : Thing} {s : Int} (h : rightO x 1 (x.vec.length : Int) = true ∨ rightO x 3 s = true) : Whole x := by
  have hz : x.str.size = 0 → x.str = ⟨#[]⟩ := fun h => by
    have h1 := tl_len x.str
    have h2 : tl x.str = [] := List.eq_nil_of_length_eq_zero (by omega)
    have h3 := mk_tl x.str
    rw [h2] at h3
    exact h3.symm
  unfold rightO at h
  rcases h with h | h
  · left
    split at h
    · cases h
    · simp at h
      exact ⟨h.1, by first | exact hz h.2 | exact h.2, by omega⟩
  · right
    split at h
    · cases h
    · simp at h
      refine ⟨h.1.1, List.eq_nil_of_length_eq_zero (by simpa using h.2), by omega⟩
end Go.Proofs.Ytlgjbdgolchadaa.ord
