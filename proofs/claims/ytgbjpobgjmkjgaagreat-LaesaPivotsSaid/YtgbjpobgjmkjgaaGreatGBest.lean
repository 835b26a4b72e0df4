/-
  Several texts in one.
-/
import Derived.Test.YtgbjpobgjmkjgaaGreatGHeap
import Derived.Test.YtgbjpobgjmkjgaaGreatGHis
import Derived.Test.YtgbjpobgjmkjgaaGreatGHsoC
import Derived.Sort.LotA
import Derived.Test.YtgbjpobgjmkjgaaGreatGHsoA
import Derived.Test.YtgbjpobgjmkjgaaGreatGHit
set_option maxRecDepth 100000
/-
  The contract of Heap.All at hits: a sorted copy.
-/
namespace Go.Proofs.YtgbjpobgjmkjgaaGreat.best
open Go.RowKit law bytes only flat hit heapM hso Go.Sort Go.Shelf
set_option linter.unusedVariables false

/-! ### a slice of no length -/
set_option maxHeartbeats 1600000 in
theorem ins_none (A : Option Addr) (c : Nat) (fv : Value) (w : World) : Calls Tryz.prog 191 #[.slice A 0 c, .int .i64 0, .int .i64 0, fv] w fun e w' => e = .returned (.tuple #[]) ∧ w = w' := by
  go_enter Tryz.func191, Tryz.ntmps191
  go_wp2_with (fail)
  go_loopg [8, 9] 0 (fun gk s8 s9 wr => gk = 0 ∧ s8 = .int .i64 1 ∧ w = wr)
  case atStart => exact ⟨rfl, rfl, rfl⟩
  case round =>
    obtain ⟨rfl, rfl, rfl⟩ := hrel
    go_wp2_with (fail)
    go_end0
    exact ⟨rfl, rfl⟩
set_option maxRecDepth 100000 in
set_option maxHeartbeats 1600000 in
theorem pdq_none (A : Option Addr) (c : Nat) (lim : Int) (fv : Value) (w : World) : Calls Tryz.prog 174 #[.slice A 0 c, .int .i64 0, .int .i64 0, .int .i64 lim, fv] w fun e w' => e = .returned (.tuple #[]) ∧ w = w' := by
  have HI := Lib.hid (ins_none A c fv w)
  go_enter Tryz.func174, Tryz.ntmps174
  go_wp2_with (fail)
  go_loopg [1, 2, 3, 10, 11] 0 (fun gk s1 s2 s3 s10 s11 wr => gk = 0 ∧ s1 = .int .i64 0 ∧ s2 = .int .i64 0 ∧ s3 = .int .i64 lim ∧ w = wr)
  case atStart => exact ⟨rfl, rfl, rfl, rfl, rfl⟩
  case round =>
    obtain ⟨rfl, rfl, rfl, rfl, rfl⟩ := hrel
    go_wp2_with (fail)
    refine HI.out.mono ?_
    rintro e w' ⟨rfl, rfl⟩
    go_wp2_with (fail)
    refine bodyPost_ret (results_none rfl _ _ _) rfl ?_
    exact ⟨rfl, rfl⟩
set_option maxHeartbeats 1600000 in
theorem sort_none (A : Option Addr) (c : Nat) (fv : Value) (w : World) : Calls Tryz.prog 149 #[.slice A 0 c, fv] w fun e w' => e = .returned (.tuple #[]) ∧ w = w' := by
  have HP : Hid (∀ lim : Int, Calls Tryz.prog 174 #[.slice A 0 c, .int .i64 0, .int .i64 0, .int .i64 lim, fv] w fun e w' => e = .returned (.tuple #[]) ∧ w = w') := Lib.hid fun lim => pdq_none A c lim fv w
  have HL := Lib.hid (Tryz.bits_Len 0 w (by omega) (by omega))
  generalize Lib.bitLen (Int.toNat 0) = lim at HL
  go_enter Tryz.func149, Tryz.ntmps149
  go_wp2_with (fail)
  refine HL.out.mono ?_
  rintro e w' ⟨rfl, rfl⟩
  go_wp2_with (fail)
  refine (HP.out _).mono ?_
  rintro e w' ⟨rfl, rfl⟩
  go_wp2_with (fail)
  go_end0
  exact ⟨rfl, rfl⟩
/-- a sorted copy -/
def SortedH (cf : Hit → Hit → Int) (d : Array Hit) (w : World) (e : Ending) (w' : World) : Prop := ∃ A c R, e = .returned (.slice A d.size c) ∧ w'.ownsRow w.heap.size 80 2 (.slice A d.size c) d.size (hv R) ∧ PermIn 0 d.size d R.toArray ∧ SortedIn (lf cf) 0 d.size R.toArray ∧ Below w.heap.size w w'
set_option maxRecDepth 100000 in
set_option maxHeartbeats 1600000 in
theorem all_hit {base hb : Nat} {v : Value} {K : Nat} {d : Array Hit} (cf : Hit → Hit → Int) (hK : Enters Tryz.prog K) (hO : Ordr K tE cf) (hS : SWO (lf cf)) (w : World) (h : HHp w base hb v K d) (hsz : d.size * 16 ≤ 140737488355328) :
    Calls Tryz.prog 114 #[.pointer (some ⟨hb, 0, none⟩)] w (SortedH cf d w) := by
  have hmf : ∀ (fn : Fn) (first cap : Array Value) (w : World), (Instr.makeFunc fn first cap).run Tryz.prog w = .ok (.func fn first cap) w := fun _ _ _ _ => rfl
  have HC : ∀ W, Below w.heap.size w W → Cm hb K v cf W := fun W hW => ⟨h.1.below hW h.lt, hK, hO⟩
  have c1 : w.cell? ⟨hb, 1, none⟩ = some v := h.1.cell 1
  have hlt := h.lt
  obtain ⟨A, c, rfl⟩ := h.slice
  have HCL : Hid (Calls Tryz.prog 148 #[.slice A d.size c] w fun e w1 => ∃ A1 c1, e = .returned (.slice A1 d.size c1) ∧ Calls Tryz.prog 149 #[.slice A1 d.size c1, .func (.func 150) #[.pointer (some ⟨hb, 0, none⟩)] #[]] w1 fun e w' => e = .returned (.tuple #[]) ∧ SortedH cf d w (.returned (.slice A1 d.size c1)) w') := Lib.hid (by
    have hcl := clone_any A d.toList c w.heap.size w (by simpa using hsz) (Nat.le_refl _) (Sl.of_ownK h.2.1)
    simp only [Array.length_toList] at hcl
    refine hcl.mono fun e w1 ⟨A1, c1, he, ho, hb1⟩ => ⟨A1, c1, by simpa using he, ?_⟩
    simp only [Array.length_toList] at ho
    rcases Nat.eq_zero_or_pos d.size with h0 | h0
    · have hfin : SortedH cf d w (.returned (.slice A1 d.size c1)) w1 := ⟨A1, c1, d.toList, rfl, ho, permIn_refl _ _ _, (fun i j h1 h2 h3 => by omega), hb1⟩
      have HF := Lib.hid hfin
      clear hfin
      generalize d.size = n at h0 HF ⊢
      subst h0
      exact (sort_none A1 c1 _ w1).mono fun e w' ⟨he, hw⟩ => ⟨he, hw ▸ HF.out⟩
    · obtain ⟨g1, k1, e1, hgb, hgl, hk1⟩ := own_form ho h0
      injection e1 with e2 e3 e4
      subst e2 e4
      have hrow : HRow w1 w.heap.size g1 c1 d := ho
      refine (sort_any (HC w1 hb1) hrow (by omega) hS (by omega)).mono fun e w' ⟨he, ho2, R, p1, p2, p3⟩ => ⟨he, _, _, R.toList, rfl, ?_, p1, p2, hb1.trans (ho2.below hb1.size fun i e => by have h1 : i = g1 := e; omega)⟩
      unfold HRow FRow at p3
      rw [p1.1] at p3
      exact p3)
  clear hK hO hS HC h
  go_enter Tryz.func114, Tryz.ntmps114
  go_wp2_with (fail)
  refine HCL.out.mono ?_
  rintro e w1 ⟨A1, k1, rfl, hs⟩
  have HS := Lib.hid hs
  clear hs HCL
  go_wp2_with (fail)
  refine HS.out.mono ?_
  rintro e w2 ⟨rfl, hs2⟩
  have HS2 := Lib.hid hs2
  clear HS hs2
  go_wp2_with (fail)
  refine bodyPost_ret (v := .slice A1 d.size k1) (by simp [results, Tryz.results114, go_sem]) rfl ?_
  exact HS2.out
end Go.Proofs.YtgbjpobgjmkjgaaGreat.best
/-
  Program-free but for the order's name: the first k of hits, one more of them, how far one may be, a row turned round.
-/
namespace Go.Proofs.YtgbjpobgjmkjgaaGreat.best
open Go.RowKit law bytes only flat hit heapM Go.Sort Go.Shelf
set_option linter.unusedVariables false

/-- the first k of hits -/
def keep (k : Int) (l : List Hit) : List Hit := (sortH l).take k.toNat
/-- is one more of those that are kept? -/
def ad (k : Int) (l : List Hit) (h : Hit) : Bool := decide (keep k (l ++ [h]) ≠ keep k l)
/-- how far a hit may be -/
def bd (k : Int) (l : List Hit) : Int := if k < 1 then -1 else if ((keep k l).length : Int) < k then 1125899906842624 else (keep k l)[k.toNat - 1]!.2
theorem sortH_snoc (l : List Hit) (h : Hit) : sortH (l ++ [h]) = put h (sortH l) := by unfold sortH; rw [List.foldl_append]; rfl
theorem keep_length (k : Int) (l : List Hit) : (keep k l).length = min k.toNat l.length := by unfold keep; rw [List.length_take, sortH_length]
theorem keep_le (k : Int) (l : List Hit) : (keep k l).length ≤ l.length := by rw [keep_length]; omega
theorem keep_rises (k : Int) (l : List Hit) : Rises (keep k l) := (sortH_rises l).sublist (List.take_sublist _ _)
theorem keep_nil (k : Int) : keep k [] = [] := by unfold keep sortH; simp
theorem keep_of_perm (k : Int) {l m : List Hit} (h : l.Perm m) : keep k l = keep k m := by unfold keep; rw [sortH_of_perm h]
theorem bd_of_perm (k : Int) {l m : List Hit} (h : l.Perm m) : bd k l = bd k m := by unfold bd; rw [keep_of_perm k h]
theorem rises_at {S : List Hit} (hr : Rises S) {i j : Nat} (hi : i < S.length) (hj : j < S.length) (hij : i ≤ j) : lt S[j] S[i] = false := by
  rcases Nat.lt_or_eq_of_le hij with h | rfl
  · exact (List.pairwise_iff_getElem.1 hr) i j hi hj h
  · exact swo.irrefl _
theorem lt_le {x y z : Hit} (h1 : lt x y = true) (h2 : lt z y = false) : lt x z = true := by rw [lt_iff] at *; rw [nlt_iff] at h2; omega
theorem take_put (h : Hit) : ∀ (S : List Hit) (n : Nat) (hn : n < S.length), Rises S → (put h S).take (n + 1) = if lt h S[n] = true then put h (S.take n) else S.take (n + 1)
  | [], n, hn, _ => by simp at hn
  | x :: t, n, hn, hr => by
    obtain ⟨h1, h2⟩ := List.pairwise_cons.1 hr
    unfold put
    by_cases hl : lt h x = true
    · have hS : lt h (x :: t)[n] = true := lt_le hl (rises_at hr (i := 0) (by simp) hn (Nat.zero_le _))
      rw [if_pos hl, if_pos hS]
      cases n with
      | zero => rfl
      | succ m =>
        rw [List.take_succ_cons]
        show _ = put h (x :: t.take m)
        unfold put
        rw [if_pos hl]; rfl
    · rw [if_neg hl]
      cases n with
      | zero =>
        have hS : ¬ lt h (x :: t)[0] = true := hl
        rw [if_neg hS]; rfl
      | succ m =>
        have hm : m < t.length := by simpa using hn
        have ih := take_put h t m hm h2
        rw [List.take_succ_cons, ih]
        show _ = if lt h t[m] = true then put h (x :: t.take m) else x :: t.take (m + 1)
        by_cases hS : lt h t[m] = true
        · rw [if_pos hS, if_pos hS]
          show _ = if lt h x = true then _ else _
          rw [if_neg hl]
        · rw [if_neg hS, if_neg hS]
section
variable {k : Int} {l : List Hit} {h : Hit} {d d' : Array Hit}
theorem size_of (hp : d.toList.Perm (keep k l)) : d.size = (keep k l).length := by simpa using hp.length_eq
/-- there is room -/
theorem add_room (hk : ((keep k l).length : Int) < k) : ad k l h = true ∧ keep k (l ++ [h]) = put h (keep k l) := by
  have h1 := keep_length k l
  have e1 : keep k l = sortH l := by unfold keep; rw [List.take_of_length_le]; rw [sortH_length]; omega
  have e2 : keep k (l ++ [h]) = put h (sortH l) := by unfold keep; rw [sortH_snoc, List.take_of_length_le]; rw [put_length, sortH_length]; omega
  refine ⟨?_, by rw [e2, e1]⟩
  unfold ad
  rw [e1, e2]
  refine decide_eq_true fun e => ?_
  have := congrArg List.length e
  rw [put_length] at this
  omega
/-- none is kept -/
theorem add_none (hk : k < 1) : ad k l h = false ∧ keep k l = [] ∧ keep k (l ++ [h]) = [] := by
  have e : ∀ l, keep k l = [] := fun l => by unfold keep; rw [show k.toNat = 0 by omega]; rfl
  exact ⟨by unfold ad; rw [e, e]; simp, e _, e _⟩
/-- what a full one keeps: those ahead of the last one, and that -/
theorem keep_split {n : Nat} (hn : k.toNat = n + 1) (hl : n < l.length) : ∃ T x, keep k l = T ++ [x] ∧ T.length = n ∧
    keep k (l ++ [h]) = (if lt h x = true then put h T else T ++ [x]) ∧ ∀ y ∈ T ++ [x], lt x y = false := by
  have hl2 : n < (sortH l).length := by rw [sortH_length]; exact hl
  have e1 : keep k l = (sortH l).take n ++ [(sortH l)[n]] := by unfold keep; rw [hn, List.take_succ_eq_append_getElem hl2]
  refine ⟨(sortH l).take n, (sortH l)[n], e1, by rw [List.length_take]; omega, ?_, fun y hy => ?_⟩
  · unfold keep
    rw [sortH_snoc, hn, take_put h _ n hl2 (sortH_rises l), List.take_succ_eq_append_getElem hl2]
  · rw [← e1] at hy
    obtain ⟨i, hi, rfl⟩ := List.getElem_of_mem hy
    have hi2 : i < n + 1 := by have := keep_length k l; omega
    have e2 : (keep k l)[i] = (sortH l)[i]'(by omega) := by unfold keep; exact List.getElem_take ..
    rw [e2]
    exact rises_at (sortH_rises l) (by omega) hl2 (by omega)
/-- the heap's first one is the last one that is kept -/
theorem top_is {T : List Hit} {x : Hit} (hH : Heap (lf cB) d) (hp : d.toList.Perm (T ++ [x])) (hx : ∀ y ∈ T ++ [x], lt x y = false) : 0 < d.size ∧ d[0]! = x := by
  have h0 : 0 < d.size := by have := hp.length_eq; simp at this; omega
  refine ⟨h0, ?_⟩
  have hm : d[0]! ∈ d.toList := by rw [getElem!_pos d 0 h0]; exact Array.getElem_mem_toList _
  have hy : x ∈ d.toList := hp.symm.subset (by simp)
  obtain ⟨j, hj, e⟩ := List.getElem_of_mem hy
  have hj2 : j < d.size := by simpa using hj
  have h1 := hH.top cB_swo j j (Nat.le_refl _) hj2
  rw [cB_lt, getElem!_pos d j hj2] at h1
  simp only [Array.getElem_toList] at e
  rw [e] at h1
  exact anti h1 (hx _ (hp.subset hm))
theorem add_full {n : Nat} (hn : k.toNat = n + 1) (hl : n < l.length) (hH : Heap (lf cB) d) (hp : d.toList.Perm (keep k l)) : 0 < d.size ∧
    (lt h d[0]! = true → ad k l h = true ∧ ∀ d' d'' : Array Hit, (d[0]! :: d'.toList).Perm d.toList → d''.toList.Perm (h :: d'.toList) → d''.toList.Perm (keep k (l ++ [h]))) ∧
    (lt h d[0]! = false → ad k l h = false ∧ keep k (l ++ [h]) = keep k l) := by
  obtain ⟨T, x, e1, hT, e2, hx⟩ := keep_split (h := h) hn hl
  rw [e1] at hp
  obtain ⟨h0, ht⟩ := top_is hH hp hx
  refine ⟨h0, fun hlt => ?_, fun hlt => ?_⟩
  · rw [ht] at hlt
    rw [if_pos hlt] at e2
    refine ⟨?_, fun d' d'' p1 p2 => ?_⟩
    · unfold ad
      rw [e1, e2]
      refine decide_eq_true fun e => ?_
      have p : (h :: T).Perm (x :: T) := (put_perm h T).symm.trans ((List.Perm.of_eq e).trans (List.perm_append_comm (l₁ := T) (l₂ := [x])))
      have hm : h ∈ T ++ [x] := by
        rw [← e]; exact (put_perm h T).symm.subset (List.mem_cons_self ..)
      have hc := p.count_eq h
      have hxh : h ≠ x := fun e3 => by rw [e3, swo.irrefl] at hlt; cases hlt
      rw [List.count_cons_self, List.count_cons_of_ne (Ne.symm hxh)] at hc
      omega
    · rw [ht] at p1
      have p3 : (x :: d'.toList).Perm (x :: T) := p1.trans (hp.trans (List.perm_append_comm (l₁ := T) (l₂ := [x])))
      rw [e2]
      exact p2.trans ((List.Perm.cons h (List.Perm.cons_inv p3)).trans (put_perm h T).symm)
  · rw [ht] at hlt
    rw [if_neg (by rw [hlt]; simp)] at e2
    exact ⟨by unfold ad; rw [e1, e2]; simp, by rw [e1, e2]⟩
/-- how far one may be, as the heap tells it -/
theorem bd_room (hk : ((keep k l).length : Int) < k) : bd k l = 1125899906842624 := by
  unfold bd; rw [if_neg (by omega), if_pos hk]
theorem bd_none (hk : k < 1) : bd k l = -1 := by unfold bd; rw [if_pos hk]
theorem bd_full {n : Nat} (hn : k.toNat = n + 1) (hl : n < l.length) (hH : Heap (lf cB) d) (hp : d.toList.Perm (keep k l)) : bd k l = d[0]!.2 := by
  obtain ⟨T, x, e1, hT, e2, hx⟩ := keep_split (h := (0, 0)) hn hl
  have hlen := congrArg List.length e1
  rw [List.length_append, hT] at hlen
  simp only [List.length_singleton] at hlen
  unfold bd
  rw [if_neg (by omega), if_neg (by omega), e1]
  rw [e1] at hp
  rw [(top_is hH hp hx).2]
  have : (T ++ [x])[k.toNat - 1]! = x := by
    rw [getElem!_pos _ _ (by rw [List.length_append, hT]; simp; omega), List.getElem_append_right (by omega)]
    simp
  rw [this]
end
/-- a falling row of what is kept, turned round -/
theorem turned {k : Int} {l R : List Hit} {d : Array Hit} (hp : d.toList.Perm (keep k l)) (p1 : PermIn 0 d.size d R.toArray) (p2 : SortedIn (lf cB) 0 d.size R.toArray) : R.length = d.size ∧ R.reverse = keep k l := by
  have e0 : R.length = d.size := by simpa using p1.1
  refine ⟨e0, rise_eq _ _ ?_ ?_ (keep_rises k l)⟩
  · have h := p1.2.2
    have e1 : R.toArray.extract 0 d.size = R.toArray := by rw [← p1.1]; simp
    have e2 : d.extract 0 d.size = d := by simp
    rw [e1, e2] at h
    exact (List.reverse_perm R).trans ((by simpa using h : R.Perm d.toList).trans hp)
  · unfold Rises
    rw [List.pairwise_reverse, List.pairwise_iff_getElem]
    intro i j hi hj hij
    have h := p2 i j (Nat.zero_le _) hij (by omega)
    rw [cB_lt, getElem!_pos R.toArray i (by simpa using hi), getElem!_pos R.toArray j (by simpa using hj)] at h
    simpa using h
/-! ### a row turned round, pair by pair -/
def Rvd (d : Array Hit) (i : Nat) (d' : Array Hit) : Prop := d'.size = d.size ∧ ∀ t, t < d.size → d'[t]! = if t < i ∨ d.size - 1 - t < i then d[d.size - 1 - t]! else d[t]!
theorem Rvd.start (d : Array Hit) : Rvd d 0 d := ⟨rfl, fun t ht => by rw [if_neg (by omega)]⟩
theorem Rvd.step {d d' : Array Hit} {i j : Nat} (h : Rvd d i d') (hij : i + j + 1 = d.size) (hlt : i < j) : Rvd d (i + 1) (swp d' i j) := by
  refine ⟨by rw [size_swp]; exact h.1, fun t ht => ?_⟩
  have hi := h.2 i (by omega)
  have hj := h.2 j (by omega)
  rw [if_neg (by omega)] at hi hj
  have hs := h.1
  by_cases h1 : t = i
  · subst h1
    rw [swp_left _ _ _ (by omega) (by omega), hj, if_pos (by omega), show d.size - 1 - t = j by omega]
  · by_cases h2 : t = j
    · subst h2
      rw [swp_right _ _ _ (by omega), hi, if_pos (by omega), show d.size - 1 - t = i by omega]
    · rw [swp_other _ _ _ _ h1 h2, h.2 t ht]
      by_cases h3 : t < i ∨ d.size - 1 - t < i
      · rw [if_pos h3, if_pos (by omega)]
      · rw [if_neg h3, if_neg (by omega)]
theorem Rvd.done {d d' : Array Hit} {i j : Nat} (h : Rvd d i d') (hij : i + j + 1 = d.size) (hge : ¬ i < j) : d'.toList = d.toList.reverse := by
  have hs := h.1
  refine List.ext_getElem (by simp [hs]) fun t h1 h2 => ?_
  have ht : t < d.size := by simpa [hs] using h1
  have e := h.2 t ht
  rw [List.getElem_reverse]
  simp only [Array.getElem_toList, Array.length_toList]
  rw [← getElem!_pos d' t (by omega), ← getElem!_pos d (d.size - 1 - t) (by omega), e]
  by_cases h3 : t < i ∨ d.size - 1 - t < i
  · rw [if_pos h3]
  · rw [if_neg h3, show d.size - 1 - t = t by omega]
end Go.Proofs.YtgbjpobgjmkjgaaGreat.best
/-
  The contract of slices.Reverse at hits.
-/
namespace Go.Proofs.YtgbjpobgjmkjgaaGreat.best
open Go.RowKit law bytes only flat hit heapM hso Go.Sort Go.Shelf
set_option linter.unusedVariables false

set_option maxRecDepth 100000 in
set_option maxHeartbeats 1600000 in
theorem rev_none (A : Option Addr) (c : Nat) (w : World) : Calls Tryz.prog 115 #[.slice A 0 c] w fun e w' => e = .returned (.tuple #[]) ∧ w = w' := by
  go_enter Tryz.func115, Tryz.ntmps115
  go_wp2_with (fail)
  go_loopg [2, 3] 0 (fun gk s2 s3 wr => gk = 0 ∧ s2 = .int .i64 0 ∧ s3 = .int .i64 (-1) ∧ w = wr)
  case atStart => exact ⟨rfl, rfl, by go_num, rfl⟩
  case round =>
    obtain ⟨rfl, rfl, rfl, rfl⟩ := hrel
    go_wp2_with (fail)
    go_end0
    exact ⟨rfl, rfl⟩
set_option maxRecDepth 100000 in
set_option maxHeartbeats 3200000 in
theorem rev_row {base g c : Nat} {d : Array Hit} {w : World} (hr : HRow w base g c d) (h0 : 0 < d.size) (hsz : d.size < 2305843009213693952) :
    Calls Tryz.prog 115 #[.slice (some ⟨g, 0, none⟩) d.size c] w fun e w' =>
      e = .returned (.tuple #[]) ∧ Only (· = g) w w' ∧ ∃ d' : Array Hit, d'.toList = d.toList.reverse ∧ HRow w' base g c d' := by
  have i0 : IntKind.i64.wrap ((d.size : Int) - 1) = ((d.size - 1 : Nat) : Int) := w64 (by omega) (by omega) (by omega)
  go_enter Tryz.func115, Tryz.ntmps115
  go_wp2_with (fail)
  go_loopg [2, 3] (d.size - 1) (fun gk s2 s3 wr => ∃ (i j : Nat) (d' : Array Hit), gk = j - i ∧ s2 = .int .i64 i ∧ s3 = .int .i64 j ∧ i + j + 1 = d.size ∧ i ≤ j + 1 ∧ Rvd d i d' ∧ HRow wr base g c d' ∧ Only (· = g) w wr)
  case atStart => exact ⟨0, d.size - 1, d, rfl, rfl, rfl, by omega, by omega, Rvd.start d, hr, Only.refl _ _⟩
  case round =>
    clear hr
    obtain ⟨i, j, d', rfl, rfl, rfl, hij, hle, hrv, hr, ho⟩ := hrel
    by_cases hlt : i < j
    · have i1 : (i : Int) < (j : Int) := by omega
      have i2 : (i : Int) < (d.size : Int) := by omega
      have i3 : (j : Int) < (d.size : Int) := by omega
      have i4 : IntKind.i64.wrap ((i : Int) + 1) = ((i + 1 : Nat) : Int) := w64 (by omega) (by omega) (by omega)
      have i5 : IntKind.i64.wrap ((j : Int) - 1) = ((j - 1 : Nat) : Int) := w64 (by omega) (by omega) (by omega)
      have HV := Lib.hid (hrv.step hij hlt)
      obtain ⟨q0, q1, q2, q3, ⟨fz0, fz1, fz2, fz3⟩, ⟨u, uu, q4, q5, q6⟩, HRS, HOS⟩ := swap_step hr i j (by have := hrv.1; omega) (by have := hrv.1; omega) ho rfl rfl
      generalize d'[i]! = x at q0 q1 q2 q3 q4 q5 q6 HRS HOS
      generalize d'[j]! = y at q0 q1 q2 q3 q4 q5 q6 HRS HOS
      have HIJ := Lib.hid hij
      clear hrv hr ho hij
      go_wp2_with (fail)
      go_region
      go_wp2_with (fail)
      go_roundg (j - 1 - (i + 1))
      case measure => omega
      case rel => exact ⟨i + 1, j - 1, swp d' i j, rfl, rfl, rfl, by have := HIJ.out; omega, by omega, HV.out, HRS.out, HOS.out⟩
    · have i1 : ¬ (i : Int) < (j : Int) := by omega
      have HR := Lib.hid hr
      have HO := Lib.hid ho
      have HD := Lib.hid (hrv.done hij hlt)
      clear hr ho hrv
      go_wp2_with (fail)
      go_end0
      exact ⟨rfl, HO.out, d', HD.out, HR.out⟩
/-- a row of the call's own, turned round -/
theorem reverse_any (A : Option Addr) (R : List Hit) (c base : Nat) (w : World) (hsz : R.length * 16 ≤ 140737488355328) (ho : w.ownsRow base 80 2 (.slice A R.length c) R.length (hv R)) :
    Calls Tryz.prog 115 #[.slice A R.length c] w fun e w' =>
      e = .returned (.tuple #[]) ∧ Only (fun i => (Value.slice A R.length c).ownBlock = some i) w w' ∧ w'.ownsRow base 80 2 (.slice A R.length c) R.length (hv R.reverse) := by
  rcases Nat.eq_zero_or_pos R.length with h0 | h0
  · obtain rfl := List.eq_nil_of_length_eq_zero h0
    exact (rev_none A c w).mono fun e w' ⟨he, hw⟩ => ⟨he, hw ▸ Only.refl _ _, hw ▸ ho⟩
  · obtain ⟨g1, k1, e1, hgb, hgl, hk1⟩ := own_form ho h0
    injection e1 with e2 e3 e4
    subst e2 e4
    have hrow : HRow w base g1 c R.toArray := ho
    have h := rev_row hrow (by simpa using h0) (by simp; omega)
    simp only [List.size_toArray] at h
    refine h.mono fun e w' ⟨he, ho2, d', hd, hr⟩ => ⟨he, ho2.mono (fun i e => .inl (by rw [e]; rfl)), ?_⟩
    unfold HRow FRow at hr
    have hs : d'.size = R.length := by have := congrArg List.length hd; simpa using this
    rw [hs, hd] at hr
    exact hr
end Go.Proofs.YtgbjpobgjmkjgaaGreat.best
/-
  A Best in memory; the contracts of New, Full, Len, last, Bound, List.
-/
namespace Go.Proofs.YtgbjpobgjmkjgaaGreat.best
open Go.RowKit law bytes only flat hit heapM hso Go.Sort Go.Shelf
set_option linter.unusedVariables false

/-- a Best at block bb, its heap at block hb -/
structure Bx (w : World) (base bb hb : Nat) (v : Value) (k : Int) (d : Array Hit) : Prop where
  blk : Blk w bb 168 #[.int .i64 k, .pointer (some ⟨hb, 0, none⟩)]
  hp : HHp w base hb v 107 d
  ne : bb ≠ hb
  nv : v.ownBlock ≠ some bb
  bb : base ≤ bb
  hb : base ≤ hb
section
variable {w w' : World} {base bb hb : Nat} {v : Value} {k : Int} {d : Array Hit}
theorem Bx.below {B : Nat} (h : Bx w base bb hb v k d) (o : Below B w w') (hB : w.heap.size ≤ B) : Bx w' base bb hb v k d := ⟨h.blk.below o (Nat.lt_of_lt_of_le h.blk.lt hB), h.hp.below o hB, h.ne, h.nv, h.bb, h.hb⟩
theorem Bx.only {S : Nat → Prop} (h : Bx w base bb hb v k d) (o : Only S w w') (h1 : ¬ S bb) (h2 : ∀ i, Mine hb v i → ¬ S i) : Bx w' base bb hb v k d := ⟨Blk.only h.blk o h1, h.hp.only o h2, h.ne, h.nv, h.bb, h.hb⟩
end
theorem heap_empty : Heap (lf cB) (#[] : Array Hit) := fun i h0 hi => by simp at hi
set_option maxRecDepth 100000 in
set_option maxHeartbeats 1600000 in
theorem newx_any (k : Int) (w : World) : Calls Tryz.prog 74 #[.int .i64 k] w fun e w' => ∃ bb hb, e = .returned (.pointer (some ⟨bb, 0, none⟩)) ∧ Below w.heap.size w w' ∧ Bx w' w.heap.size bb hb (.slice none 0 0) k #[] := by
  have hmf : ∀ (fn : Fn) (first cap : Array Value) (w : World), (Instr.makeFunc fn first cap).run Tryz.prog w = .ok (.func fn first cap) w := fun _ _ _ _ => rfl
  have HN := Lib.hid (new_hit 107 w.heap.size w (Nat.le_refl _))
  go_enter Tryz.func74, Tryz.ntmps74
  go_wp2_with (fail)
  refine HN.out.mono ?_
  rintro e w1 ⟨rfl, hb1, hp⟩
  have HX : Hid (Below w.heap.size w (w1.alloc (.cells #[.int .i64 k, .pointer (some ⟨w.heap.size, 0, none⟩)] 168)) ∧ Bx (w1.alloc (.cells #[.int .i64 k, .pointer (some ⟨w.heap.size, 0, none⟩)] 168)) w.heap.size w1.heap.size w.heap.size (.slice none 0 0) k #[]) := Lib.hid
    ⟨hb1.alloc hb1.size _, Blk.new w1 _ _, hp.below ((Below.refl _ _).alloc (Nat.le_refl _) _) (Nat.le_refl _), by have := hp.lt; omega, by simp [Value.ownBlock], hb1.size, Nat.le_refl _⟩
  clear hb1 hp HN
  go_wp2_with (fail)
  go_ret
  exact ⟨_, _, rfl, HX.out.1, HX.out.2⟩
set_option maxRecDepth 100000 in
set_option maxHeartbeats 1600000 in
theorem fullx_any {w : World} {base bb hb : Nat} {v : Value} {k : Int} {d : Array Hit} (h : Bx w base bb hb v k d) : Calls Tryz.prog 80 #[.pointer (some ⟨bb, 0, none⟩)] w fun e w' => e = .returned (.bool (decide (k ≤ (d.size : Int)))) ∧ Below w.heap.size w w' := by
  have HS : Hid (∀ W, Below w.heap.size w W → W.cell? ⟨bb, 0, none⟩ = some (.int .i64 k) ∧ W.cell? ⟨bb, 1, none⟩ = some (.pointer (some ⟨hb, 0, none⟩))) := Lib.hid fun W hW => ⟨(h.below hW (Nat.le_refl _)).blk.cell 0, (h.below hW (Nat.le_refl _)).blk.cell 1⟩
  have HL : Hid (∀ W, Below w.heap.size w W → Calls Tryz.prog 116 #[.pointer (some ⟨hb, 0, none⟩)] W fun e w' => e = .returned (.int .i64 d.size) ∧ Below w.heap.size w w') := Lib.hid fun W hW => (len_hit (h.below hW (Nat.le_refl _)).hp).mono fun e w' ⟨he, hw⟩ => ⟨he, hw ▸ hW⟩
  obtain ⟨q0, q1⟩ := HS.out w (Below.refl _ _)
  obtain ⟨n, hn⟩ : ∃ n : Int, (d.size : Int) = n := ⟨_, rfl⟩
  rw [hn] at HL ⊢
  clear h hn
  obtain ⟨o, hd⟩ : ∃ o, decide (k ≤ n) = o := ⟨_, rfl⟩
  rw [hd]
  go_enter Tryz.func80, Tryz.ntmps80
  go_wp2_with (fail)
  go_region_held3 (fun W => W.cell? ⟨bb, 0, none⟩ = some (.int .i64 k) ∧ W.cell? ⟨bb, 1, none⟩ = some (.pointer (some ⟨hb, 0, none⟩))) ((refine HS.out _ ?_; repeat' (first | (with_reducible exact Below.refl _ _) | (with_reducible assumption) | (with_reducible refine Below.drew ?_) | (with_reducible refine below_drewN' ?_ _))))
    (first
      | (go_at_call 116; (with_reducible refine (HL.out _ (by repeat' (first | (with_reducible exact Below.refl _ _) | (with_reducible assumption) | (with_reducible refine Below.drew ?_) | (with_reducible refine below_drewN' ?_ _)))).mono ?_); rintro e w2 ⟨rfl, hb2⟩))
  go_wp2_with (fail)
  go_ret
  exact ⟨rfl, by repeat' (first | (with_reducible assumption) | (with_reducible refine Below.drew ?_) | (with_reducible refine below_drewN' ?_ _))⟩
set_option maxRecDepth 100000 in
set_option maxHeartbeats 1600000 in
theorem lenx_any {w : World} {base bb hb : Nat} {v : Value} {k : Int} {d : Array Hit} (h : Bx w base bb hb v k d) : Calls Tryz.prog 228 #[.pointer (some ⟨bb, 0, none⟩)] w fun e w' => e = .returned (.int .i64 d.size) ∧ w = w' := by
  have HL := Lib.hid (len_hit h.hp)
  have q1 : w.cell? ⟨bb, 1, none⟩ = some (.pointer (some ⟨hb, 0, none⟩)) := h.blk.cell 1
  clear h
  go_enter Tryz.func228, Tryz.ntmps228
  go_wp2_with (fail)
  refine HL.out.mono ?_
  rintro e w' ⟨rfl, rfl⟩
  go_wp2_with (fail)
  go_ret
  exact ⟨rfl, rfl⟩
theorem topH_form (d : Array Hit) : ∃ (x : Hit) (ok : Bool), topH d = .tuple #[.agg #[.int .u64 x.1, .int .i64 x.2], .bool ok] ∧ (d.size = 0 → ok = false) ∧ (0 < d.size → ok = true ∧ d[0]! = x) := by
  unfold topH tE
  by_cases h0 : d.size = 0
  · rw [if_pos h0]; exact ⟨(0, 0), false, rfl, fun _ => rfl, fun h => by omega⟩
  · rw [if_neg h0]; exact ⟨d[0]!, true, rfl, fun h => by omega, fun _ => ⟨rfl, rfl⟩⟩
set_option maxRecDepth 100000 in
set_option maxHeartbeats 1600000 in
theorem lastx_any {w : World} {base bb hb : Nat} {v : Value} {k : Int} {d : Array Hit} (h : Bx w base bb hb v k d) (x : Hit) (ok : Bool) (hx : topH d = .tuple #[.agg #[.int .u64 x.1, .int .i64 x.2], .bool ok]) :
    Calls Tryz.prog 111 #[.pointer (some ⟨bb, 0, none⟩)] w fun e w' => e = .returned (.tuple #[.agg #[.int .u64 x.1, .int .i64 x.2], .bool ok]) ∧ Below w.heap.size w w' := by
  have hb1 : Below w.heap.size w (w.alloc (.cells #[.int .u64 0, .int .i64 0] 80)) := (Below.refl _ _).alloc (Nat.le_refl _) _
  have h1 := h.below hb1 (Nat.le_refl _)
  have ht := top_hit h1.hp
  rw [hx] at ht
  have HT := Lib.hid ht
  have c1 : (w.alloc (.cells #[.int .u64 0, .int .i64 0] 80)).cell? ⟨bb, 1, none⟩ = some (.pointer (some ⟨hb, 0, none⟩)) := h1.blk.cell 1
  clear h h1 ht
  go_enter Tryz.func111, Tryz.ntmps111
  go_wp2_with (fail)
  refine HT.out.mono ?_
  rintro e w2 ⟨rfl, hb2⟩
  have hbl : Blk w2 w.heap.size 80 #[.int .u64 0, .int .i64 0] := (Blk.new w _ _).below hb2 (by simp)
  have z0 := hbl.cell 0
  have z1 := hbl.cell 1
  have f0 := hbl.frozen 0
  have f1 := hbl.frozen 1
  simp only [List.getElem?_toArray, List.getElem?_cons_succ, List.getElem?_cons_zero] at z0 z1
  have b6 := (hbl.set_ 0 (.int .u64 x.1)).set_ 1 (.int .i64 x.2)
  have w0 : ((w2.setCell ⟨w.heap.size, 0, none⟩ (.int .u64 x.1)).setCell ⟨w.heap.size, 1, none⟩ (.int .i64 x.2)).cell? ⟨w.heap.size, 0, none⟩ = some (.int .u64 x.1) := b6.cell 0
  have w1' : ((w2.setCell ⟨w.heap.size, 0, none⟩ (.int .u64 x.1)).setCell ⟨w.heap.size, 1, none⟩ (.int .i64 x.2)).cell? ⟨w.heap.size, 1, none⟩ = some (.int .i64 x.2) := b6.cell 1
  have KK := Lib.hid (And.intro ((((hb1.trans (hb2.mono (by simp))).setCell (p := ⟨w.heap.size, 0, none⟩) (Nat.le_refl _) (.int .u64 x.1)).setCell (p := ⟨w.heap.size, 1, none⟩) (Nat.le_refl _) (.int .i64 x.2))) (And.intro w0 w1'))
  clear b6 w0 w1' hbl hb1 hb2 HT c1
  go_wp2_with (fail)
  obtain ⟨V6, hV6⟩ : ∃ V6, V6 = ((w2.setCell ⟨w.heap.size, 0, none⟩ (.int .u64 x.1)).setCell ⟨w.heap.size, 1, none⟩ (.int .i64 x.2)) := ⟨_, rfl⟩
  rw [← hV6] at KK ⊢
  clear hV6
  obtain ⟨o6, w0, w1'⟩ := KK.out
  refine bodyPost_ret (v := .tuple #[.agg #[.int .u64 x.1, .int .i64 x.2], .bool ok]) (by simp [results, Tryz.results111, go_sem, w0, w1']) rfl ?_
  exact ⟨rfl, o6⟩
/-- how far one may be, as the heap tells it -/
def bdx (k : Int) (d : Array Hit) : Int := if k ≤ (d.size : Int) then (if d.size = 0 then -1 else d[0]!.2) else 1125899906842624
set_option maxRecDepth 100000 in
set_option maxHeartbeats 1600000 in
theorem boundx_any {w : World} {base bb hb : Nat} {v : Value} {k : Int} {d : Array Hit} (h : Bx w base bb hb v k d) : Calls Tryz.prog 78 #[.pointer (some ⟨bb, 0, none⟩)] w fun e w' => e = .returned (.int .i64 (bdx k d)) ∧ Below w.heap.size w w' := by
  obtain ⟨x, ok, hx, k0, k1⟩ := topH_form d
  have HF := Lib.hid (fullx_any h)
  have HT : Hid (∀ W, Below w.heap.size w W → Calls Tryz.prog 111 #[.pointer (some ⟨bb, 0, none⟩)] W fun e w' => e = .returned (.tuple #[.agg #[.int .u64 x.1, .int .i64 x.2], .bool ok]) ∧ Below w.heap.size w w') := Lib.hid fun W hW =>
    (lastx_any (h.below hW (Nat.le_refl _)) x ok hx).mono fun e w' ⟨he, hb⟩ => ⟨he, hW.trans (hb.mono hW.size)⟩
  clear h hx
  by_cases hf : k ≤ (d.size : Int)
  · rw [decide_eq_true hf] at HF
    have HB : Hid (bdx k d = if ok = true then x.2 else -1) := Lib.hid (by
      unfold bdx
      rw [if_pos hf]
      by_cases h0 : d.size = 0
      · rw [if_pos h0, k0 h0]; simp
      · obtain ⟨e1, e2⟩ := k1 (by omega)
        rw [if_neg h0, e1, e2]; simp)
    clear k0 k1 hf
    go_enter Tryz.func78, Tryz.ntmps78
    go_wp2_with (fail)
    refine HF.out.mono ?_
    rintro e w1 ⟨rfl, hb1⟩
    have HT1 := Lib.hid (HT.out w1 hb1)
    clear HT HF hb1
    go_wp2_with (fail)
    refine HT1.out.mono ?_
    rintro e w2 ⟨rfl, hb2⟩
    have HB2 := Lib.hid (hb2.alloc hb2.size (.cells #[.int .u64 x.1, .int .i64 x.2] 80))
    clear hb2 HT1
    cases ok with
    | true =>
      go_wp2_with (fail)
      go_ret
      exact ⟨by rw [HB.out]; rfl, HB2.out⟩
    | false =>
      go_wp2_with (fail)
      go_ret
      exact ⟨by rw [HB.out]; rfl, HB2.out⟩
  · rw [decide_eq_false hf] at HF
    have HB : Hid (bdx k d = 1125899906842624) := Lib.hid (by unfold bdx; rw [if_neg hf])
    clear k0 k1 hf
    go_enter Tryz.func78, Tryz.ntmps78
    go_wp2_with (fail)
    refine HF.out.mono ?_
    rintro e w1 ⟨rfl, hb1⟩
    have HB1 := Lib.hid hb1
    clear HT HF hb1
    go_wp2_with (fail)
    go_ret
    exact ⟨by rw [HB.out]; rfl, HB1.out⟩
set_option maxRecDepth 100000 in
set_option maxHeartbeats 1600000 in
theorem listx_any {w : World} {base bb hb : Nat} {v : Value} {k : Int} {d : Array Hit} {l : List Hit} (h : Bx w base bb hb v k d) (hp : d.toList.Perm (keep k l)) (hsz : d.size * 16 ≤ 140737488355328) :
    Calls Tryz.prog 77 #[.pointer (some ⟨bb, 0, none⟩)] w (Own (keep k l) w) := by
  have q1 : w.cell? ⟨bb, 1, none⟩ = some (.pointer (some ⟨hb, 0, none⟩)) := h.blk.cell 1
  have HA : Hid (Calls Tryz.prog 114 #[.pointer (some ⟨hb, 0, none⟩)] w fun e w1 => ∃ A c, e = .returned (.slice A d.size c) ∧ Calls Tryz.prog 115 #[.slice A d.size c] w1 fun e w' => e = .returned (.tuple #[]) ∧ Own (keep k l) w (.returned (.slice A d.size c)) w') := Lib.hid ((all_hit cB border_enters border_tells cB_swo w h.hp hsz).mono fun e w1 ⟨A, c, R, he, ho, p1, p2, hb⟩ => by
    obtain ⟨e1, e2⟩ := turned hp p1 p2
    refine ⟨A, c, he, ?_⟩
    rw [← e1] at ho ⊢
    refine (reverse_any A R c _ w1 (by omega) ho).mono fun e w' ⟨he, ho2, hr⟩ => ⟨he, Own.mk hr e2 (hb.trans (ho2.below hb.size fun i e3 => (own_lt ho e3).1))⟩)
  clear h hp
  go_enter Tryz.func77, Tryz.ntmps77
  go_wp2_with (fail)
  refine HA.out.mono ?_
  rintro e w1 ⟨A, c, rfl, hr⟩
  have HR := Lib.hid hr
  clear hr HA
  go_wp2_with (fail)
  refine HR.out.mono ?_
  rintro e w2 ⟨rfl, ho⟩
  have HO := Lib.hid ho
  clear ho HR
  go_wp2_with (fail)
  refine bodyPost_ret (v := .slice A d.size c) (by simp [results, Tryz.results77, go_sem]) rfl ?_
  exact HO.out
end Go.Proofs.YtgbjpobgjmkjgaaGreat.best
/-
  The contract of Best.Add; a Best by what it keeps, away from what others turn.
-/
namespace Go.Proofs.YtgbjpobgjmkjgaaGreat.best
open Go.RowKit law bytes only flat hit heapM hso Go.Sort Go.Shelf
set_option linter.unusedVariables false

/-- what an Add leaves: a Best that keeps one more, in the same memory or new one -/
def Added (w : World) (base bb hb : Nat) (v : Value) (k : Int) (l : List Hit) (h : Hit) (e : Ending) (w' : World) : Prop :=
  e = .returned (.bool (ad k l h)) ∧ Only (Mine hb v) w w' ∧ ∃ v' d', Bx w' base bb hb v' k d' ∧ Heap (lf cB) d' ∧ d'.toList.Perm (keep k (l ++ [h])) ∧ Moved w v v'
theorem moved_ne {w : World} {base bb hb : Nat} {v v' : Value} {k : Int} {d : Array Hit} (h : Bx w base bb hb v k d) (hm : Moved w v v') : v'.ownBlock ≠ some bb := fun e => by
  rcases hm with e1 | ⟨g, e1, hg⟩
  · exact h.nv (e1.symm.trans e)
  · rw [e1] at e
    injection e with e
    have := h.blk.lt
    omega
theorem not_mine {w : World} {base bb hb : Nat} {v : Value} {k : Int} {d : Array Hit} (h : Bx w base bb hb v k d) : ¬ Mine hb v bb := fun e => by
  rcases e with e | e
  · exact h.ne e
  · exact h.nv e
/-- behind a Push -/
theorem Bx.pushed {w w' : World} {base bb hb : Nat} {v v' : Value} {k : Int} {d d' : Array Hit} (h : Bx w base bb hb v k d) (o : Only (Mine hb v) w w') (hp : HHp w' base hb v' 107 d') (hm : Moved w v v') : Bx w' base bb hb v' k d' :=
  ⟨Blk.only h.blk o (not_mine h), hp, h.ne, moved_ne h hm, h.bb, h.hb⟩
theorem ge_lt (x y : Hit) : decide (0 ≤ cf x y) = !lt x y := by
  rw [← cf_lt]
  by_cases h : cf x y < 0
  · simp [h]
  · simp [h]; omega
/-- what Add's last call reads -/
def Cs (n bb hb : Nat) (x : Hit) (W : World) : Prop := W.cell? ⟨n, 0, none⟩ = some (.int .u64 x.1) ∧ W.cell? ⟨n, 1, none⟩ = some (.int .i64 x.2) ∧ W.cell? ⟨bb, 1, none⟩ = some (.pointer (some ⟨hb, 0, none⟩))
/-- what the Push at the end comes to -/
theorem push_end {w : World} {base bb hb : Nat} {v : Value} {k : Int} {d : Array Hit} {l : List Hit} (w0 : World) (v0 : Value) (h : Bx w base bb hb v k d) (hH : Heap (lf cB) d) (x : Hit) (hB : base ≤ w.heap.size) (hsz : (d.size + 1) * 16 ≤ 140737488355328)
    (ho : Only (Mine hb v0) w0 w) (hv : v.ownBlock = v0.ownBlock) (hfin : ∀ d' : Array Hit, d'.toList.Perm (x :: d.toList) → d'.toList.Perm (keep k (l ++ [x]))) (ha : ad k l x = true)
    (n : Nat) (hx : Blk w n 80 #[.int .u64 x.1, .int .i64 x.2]) (hn : ¬ Mine hb v n) :
    Calls Tryz.prog 113 #[.pointer (some ⟨hb, 0, none⟩), .agg #[.int .u64 x.1, .int .i64 x.2]] w fun e w' => e = .returned (.tuple #[]) ∧ Added w0 base bb hb v0 k l x (.returned (.bool true)) w' ∧ Cs n bb hb x w' :=
  (push_hit cB border_enters border_tells cB_swo x w h.hp hH hB hsz).mono fun e w' ⟨he, ho2, v', d', hp, hH', hpe, hm⟩ =>
    ⟨he, ⟨by rw [ha], ho.trans ho2 (fun i e => .inl (by rcases e with e | e; exact .inl e; exact .inr (by rw [← hv]; exact e))), v', d', h.pushed ho2 hp hm, hH', hfin d' hpe, by
      rcases hm with e1 | ⟨g, e1, hg⟩
      · exact .inl (e1.trans hv)
      · exact .inr ⟨g, e1, Nat.le_trans ho.size hg⟩⟩, (Blk.only hx ho2 hn).cell 0, (Blk.only hx ho2 hn).cell 1, (h.pushed ho2 hp hm).blk.cell 1⟩
set_option maxRecDepth 100000 in
set_option maxHeartbeats 3200000 in
theorem addx_any {w : World} {base bb hb : Nat} {v : Value} {k : Int} {d : Array Hit} {l : List Hit} (h : Bx w base bb hb v k d) (hH : Heap (lf cB) d) (hp : d.toList.Perm (keep k l)) (x : Hit) (hB : base ≤ w.heap.size) (hsz : (l.length + 1) * 16 ≤ 140737488355328) :
    Calls Tryz.prog 76 #[.pointer (some ⟨bb, 0, none⟩), .agg #[.int .u64 x.1, .int .i64 x.2]] w (Added w base bb hb v k l x) := by
  have hds := size_of hp
  have hle := keep_le k l
  have hlen := keep_length k l
  have hall : Below w.heap.size w (w.alloc (.cells #[.int .u64 x.1, .int .i64 x.2] 80)) := (Below.refl _ _).alloc (Nat.le_refl _) _
  have hx0 : Blk (w.alloc (.cells #[.int .u64 x.1, .int .i64 x.2] 80)) w.heap.size 80 #[.int .u64 x.1, .int .i64 x.2] := Blk.new w _ _
  obtain ⟨V, hV⟩ : ∃ V, V = w.alloc (.cells #[.int .u64 x.1, .int .i64 x.2] 80) := ⟨_, rfl⟩
  rw [← hV] at hall hx0
  have hb1 := h.below hall (Nat.le_refl _)
  have hBV : base ≤ V.heap.size := Nat.le_trans hB hall.size
  have HF := Lib.hid (fullx_any hb1)
  have HO : Hid (∀ W, Below V.heap.size V W → Only (Mine hb v) w W) := Lib.hid fun W hW => (Only.of_below hall (Nat.le_refl _) _).on hW
  have HQ : Hid (∀ W, Below V.heap.size V W → W.cell? ⟨w.heap.size, 0, none⟩ = some (.int .u64 x.1) ∧ W.cell? ⟨w.heap.size, 1, none⟩ = some (.int .i64 x.2) ∧ W.cell? ⟨bb, 1, none⟩ = some (.pointer (some ⟨hb, 0, none⟩))) := Lib.hid fun W hW =>
    ⟨(hx0.below hW hx0.lt).cell 0, (hx0.below hW hx0.lt).cell 1, (hb1.below hW (Nat.le_refl _)).blk.cell 1⟩
  by_cases hf : k ≤ (d.size : Int)
  · -- full
    rw [decide_eq_true hf] at HF
    obtain ⟨t, ok, ht, k0, k1⟩ := topH_form d
    have HT : Hid (∀ W, Below V.heap.size V W → Calls Tryz.prog 111 #[.pointer (some ⟨bb, 0, none⟩)] W fun e w' => e = .returned (.tuple #[.agg #[.int .u64 t.1, .int .i64 t.2], .bool ok]) ∧ Below V.heap.size V w') := Lib.hid fun W hW =>
      (lastx_any (hb1.below hW (Nat.le_refl _)) t ok ht).mono fun e w' ⟨he, hb⟩ => ⟨he, hW.trans (hb.mono hW.size)⟩
    have HSAME : Hid (ad k l x = false → keep k (l ++ [x]) = keep k l → ∀ W, Below V.heap.size V W → Added w base bb hb v k l x (.returned (.bool false)) W) := Lib.hid fun h1 h2 W hW =>
      ⟨by rw [h1], HO.out W hW, v, d, hb1.below hW (Nat.le_refl _), hH, by rw [h2]; exact hp, .inl rfl⟩
    by_cases hk1 : k < 1
    · -- none
      obtain ⟨a1, a2, a3⟩ := add_none (l := l) (h := x) hk1
      have hd0 : d.size = 0 := by rw [hds, a2]; rfl
      have hok := k0 hd0
      subst hok
      have HE := Lib.hid (HSAME.out a1 (by rw [a3, a2]))
      clear a1 a2 a3 hd0 k0 k1 ht hk1 hf HSAME hb1 h hH hp hds hle hlen hx0
      go_enter Tryz.func76, Tryz.ntmps76
      go_wp2_with (fail)
      rw [← hV]
      refine HF.out.mono ?_
      rintro e w1 ⟨rfl, hb1⟩
      have HT1 := Lib.hid (HT.out w1 hb1)
      clear HF HT hb1
      go_wp2_with (fail)
      refine HT1.out.mono ?_
      rintro e w2 ⟨rfl, hb2⟩
      have HA := Lib.hid (HE.out _ (hb2.alloc hb2.size (.cells #[.int .u64 t.1, .int .i64 t.2] 80)))
      clear HT1 hb2 HE
      go_wp2_with (fail)
      refine bodyPost_ret (v := .bool false) (by simp [results, Tryz.results76, go_sem]) rfl ?_
      exact HA.out
    · obtain ⟨n, hn⟩ : ∃ n, k.toNat = n + 1 := ⟨k.toNat - 1, by omega⟩
      have hnl : n < l.length := by omega
      obtain ⟨h0, f1, f2⟩ := add_full (h := x) hn hnl hH hp
      obtain ⟨hok, htx⟩ := k1 h0
      subst hok
      rw [htx] at f1 f2
      have HC : Hid (∀ W, Below V.heap.size V W → Calls Tryz.prog 108 #[.agg #[.int .u64 x.1, .int .i64 x.2], .agg #[.int .u64 t.1, .int .i64 t.2]] W fun e w' => e = .returned (.int .i64 (cf x t)) ∧ Below V.heap.size V w') := Lib.hid fun W hW =>
        (cmp_any x t W).mono fun e w' ⟨he, hb⟩ => ⟨he, hW.trans (hb.mono hW.size)⟩
      have hge := ge_lt x t
      have hP : ∀ W, Below V.heap.size V W → lt x t = true → Calls Tryz.prog 112 #[.pointer (some ⟨hb, 0, none⟩)] W fun e w' => e = .returned (.tuple #[.agg #[.int .u64 t.1, .int .i64 t.2], .bool true]) ∧
          (w'.cell? ⟨w.heap.size, 0, none⟩ = some (.int .u64 x.1) ∧ w'.cell? ⟨w.heap.size, 1, none⟩ = some (.int .i64 x.2) ∧ w'.cell? ⟨bb, 1, none⟩ = some (.pointer (some ⟨hb, 0, none⟩))) ∧
          (∀ W2, Below w'.heap.size w' W2 → W2.cell? ⟨w.heap.size, 0, none⟩ = some (.int .u64 x.1) ∧ W2.cell? ⟨w.heap.size, 1, none⟩ = some (.int .i64 x.2) ∧ W2.cell? ⟨bb, 1, none⟩ = some (.pointer (some ⟨hb, 0, none⟩))) ∧
          ∀ W2, Below w'.heap.size w' W2 → Calls Tryz.prog 113 #[.pointer (some ⟨hb, 0, none⟩), .agg #[.int .u64 x.1, .int .i64 x.2]] W2 fun e w3 => e = .returned (.tuple #[]) ∧ Added w base bb hb v k l x (.returned (.bool true)) w3 ∧ Cs w.heap.size bb hb x w3 := fun W hW hlt => by
        have hbW := hb1.below hW (Nat.le_refl _)
        have hpop := pop_hit cB border_enters border_tells cB_swo W hbW.hp hH h0 (by omega)
        rw [htx] at hpop
        refine hpop.mono fun e w' ⟨he, ho, v', d', hp', hH', hpe, hv'⟩ => ?_
        obtain ⟨a1, a2⟩ := f1 hlt
        have hbx : Bx w' base bb hb v' k d' := hbW.pushed ho hp' (.inl hv')
        have hnm0 : ¬ Mine hb v w.heap.size := fun e => by
          rcases e with e | e
          · have := h.hp.lt; omega
          · have := (own_lt h.hp.2.1 e).2; omega
        have hnm : ¬ Mine hb v' w.heap.size := fun e => hnm0 (by rcases e with e | e; exact .inl e; exact .inr (by rw [← hv']; exact e))
        have hxW : Blk w' w.heap.size 80 #[.int .u64 x.1, .int .i64 x.2] := Blk.only (hx0.below hW hx0.lt) ho hnm0
        have hcell : ∀ W2, Below w'.heap.size w' W2 → W2.cell? ⟨w.heap.size, 0, none⟩ = some (.int .u64 x.1) ∧ W2.cell? ⟨w.heap.size, 1, none⟩ = some (.int .i64 x.2) ∧ W2.cell? ⟨bb, 1, none⟩ = some (.pointer (some ⟨hb, 0, none⟩)) := fun W2 h2 =>
          ⟨(hxW.below h2 hxW.lt).cell 0, (hxW.below h2 hxW.lt).cell 1, (hbx.below h2 (Nat.le_refl _)).blk.cell 1⟩
        refine ⟨he, hcell w' (Below.refl _ _), hcell, fun W2 h2 => ?_⟩
        have hd' : d'.size + 1 = d.size := by have := hpe.length_eq; simpa using this
        exact push_end w v (hbx.below h2 (Nat.le_refl _)) hH' x (Nat.le_trans hBV (Nat.le_trans hW.size (Nat.le_trans ho.size h2.size))) (by omega) (((HO.out W hW).trans ho fun i e => .inl e).on h2) hv' (fun d2 p2 => a2 d' d2 hpe p2) a1 w.heap.size (hxW.below h2 hxW.lt) hnm
      have HP := Lib.hid hP
      have HE : Hid (lt x t = false → ∀ W, Below V.heap.size V W → Added w base bb hb v k l x (.returned (.bool false)) W) := Lib.hid fun e => HSAME.out (f2 e).1 (f2 e).2
      have hnot : (!false) = true := rfl
      clear k0 k1 ht hk1 hf HSAME hb1 h hH hp hds hle hlen hx0 hn hnl h0 f1 f2 htx hP
      obtain ⟨r, hr⟩ : ∃ r, cf x t = r := ⟨_, rfl⟩
      rw [hr] at HC hge
      cases hl : lt x t with
      | true =>
        rw [hl] at hge
        have hd : decide (0 ≤ r) = false := hge
        have HP1 : Hid (∀ W, Below V.heap.size V W → _) := Lib.hid fun W hW => HP.out W hW hl
        clear hr hl hge HP HE
        go_enter Tryz.func76, Tryz.ntmps76
        go_wp2_with (fail)
        rw [← hV]
        refine HF.out.mono ?_
        rintro e w1 ⟨rfl, hb1⟩
        have HT1 := Lib.hid (HT.out w1 hb1)
        clear HF HT hb1
        go_wp2_with (fail)
        refine HT1.out.mono ?_
        rintro e w2 ⟨rfl, hb2⟩
        have hb3 := hb2.alloc hb2.size (.cells #[.int .u64 t.1, .int .i64 t.2] 80)
        obtain ⟨q0, q1, q2⟩ := HQ.out _ hb3
        have t0 : (w2.alloc (.cells #[.int .u64 t.1, .int .i64 t.2] 80)).cell? ⟨w2.heap.size, 0, none⟩ = some (.int .u64 t.1) := (Blk.new w2 _ _).cell 0
        have t1 : (w2.alloc (.cells #[.int .u64 t.1, .int .i64 t.2] 80)).cell? ⟨w2.heap.size, 1, none⟩ = some (.int .i64 t.2) := (Blk.new w2 _ _).cell 1
        have HC1 := Lib.hid (HC.out _ hb3)
        clear HT1 hb2 hb3 HC
        go_wp2_with (fail)
        refine HC1.out.mono ?_
        rintro e w3 ⟨rfl, hb4⟩
        obtain ⟨q0, q1, q2⟩ := HQ.out w3 hb4
        have HP2 := Lib.hid (HP1.out w3 hb4)
        clear HC1 hb4 HP1 t0 t1
        go_wp2_with (fail)
        refine HP2.out.mono ?_
        rintro e w4 ⟨rfl, ⟨q0, q1, q2⟩, hcell, hpush⟩
        have HCE := Lib.hid hcell
        have HPU := Lib.hid hpush
        clear HP2 hcell hpush
        go_wp2_with (fail)
        go_region_held3 (fun W => W.cell? ⟨w.heap.size, 0, none⟩ = some (.int .u64 x.1) ∧ W.cell? ⟨w.heap.size, 1, none⟩ = some (.int .i64 x.2) ∧ W.cell? ⟨bb, 1, none⟩ = some (.pointer (some ⟨hb, 0, none⟩))) ((first | exact hcs | (refine HCE.out _ ?_); repeat' (first | (with_reducible exact Below.refl _ _) | (with_reducible assumption) | (with_reducible refine Below.drew ?_) | (with_reducible refine below_drewN' ?_ _))))
          (first
            | (go_at_call 113; (with_reducible refine (HPU.out _ (by repeat' (first | (with_reducible exact Below.refl _ _) | (with_reducible assumption) | (with_reducible refine Below.drew ?_) | (with_reducible refine below_drewN' ?_ _)))).mono ?_); rintro e w5 ⟨rfl, hadd, hcs⟩))
        go_wp2_with (fail)
        refine bodyPost_ret (v := .bool true) (by simp [results, Tryz.results76, go_sem]) rfl ?_
        exact hadd
      | false =>
        rw [hl] at hge
        have hd : decide (0 ≤ r) = true := hge
        have HE1 := Lib.hid (HE.out hl)
        clear hr hl hge HP HE
        go_enter Tryz.func76, Tryz.ntmps76
        go_wp2_with (fail)
        rw [← hV]
        refine HF.out.mono ?_
        rintro e w1 ⟨rfl, hb1⟩
        have HT1 := Lib.hid (HT.out w1 hb1)
        clear HF HT hb1
        go_wp2_with (fail)
        refine HT1.out.mono ?_
        rintro e w2 ⟨rfl, hb2⟩
        have hb3 := hb2.alloc hb2.size (.cells #[.int .u64 t.1, .int .i64 t.2] 80)
        obtain ⟨q0, q1, q2⟩ := HQ.out _ hb3
        have t0 : (w2.alloc (.cells #[.int .u64 t.1, .int .i64 t.2] 80)).cell? ⟨w2.heap.size, 0, none⟩ = some (.int .u64 t.1) := (Blk.new w2 _ _).cell 0
        have t1 : (w2.alloc (.cells #[.int .u64 t.1, .int .i64 t.2] 80)).cell? ⟨w2.heap.size, 1, none⟩ = some (.int .i64 t.2) := (Blk.new w2 _ _).cell 1
        have HC1 := Lib.hid (HC.out _ hb3)
        clear HT1 hb2 hb3 HC
        go_wp2_with (fail)
        refine HC1.out.mono ?_
        rintro e w3 ⟨rfl, hb4⟩
        have HA := Lib.hid (HE1.out w3 hb4)
        clear HC1 hb4 HE1
        go_wp2_with (fail)
        refine bodyPost_ret (v := .bool false) (by simp [results, Tryz.results76, go_sem]) rfl ?_
        exact HA.out
  · -- there is room
    rw [decide_eq_false hf] at HF
    obtain ⟨a1, a2⟩ := add_room (l := l) (h := x) (k := k) (by omega)
    have hnm0 : ¬ Mine hb v w.heap.size := fun e => by
      rcases e with e | e
      · have := h.hp.lt; omega
      · have := (own_lt h.hp.2.1 e).2; omega
    have HPU : Hid (∀ W, Below V.heap.size V W → Calls Tryz.prog 113 #[.pointer (some ⟨hb, 0, none⟩), .agg #[.int .u64 x.1, .int .i64 x.2]] W fun e w3 => e = .returned (.tuple #[]) ∧ Added w base bb hb v k l x (.returned (.bool true)) w3 ∧ Cs w.heap.size bb hb x w3) := Lib.hid fun W hW =>
      push_end w v (hb1.below hW (Nat.le_refl _)) hH x (Nat.le_trans hBV hW.size) (by omega) (HO.out W hW) rfl (fun d' p => by rw [a2]; exact p.trans ((List.Perm.cons x hp).trans (put_perm x _).symm)) a1 w.heap.size (hx0.below hW hx0.lt) hnm0
    clear a1 a2 hf hb1 h hH hp hds hle hlen hx0 hnm0
    go_enter Tryz.func76, Tryz.ntmps76
    go_wp2_with (fail)
    rw [← hV]
    refine HF.out.mono ?_
    rintro e w1 ⟨rfl, hb1⟩
    obtain ⟨q0, q1, q2⟩ := HQ.out w1 hb1
    have HCE : Hid (∀ W2, Below w1.heap.size w1 W2 → W2.cell? ⟨w.heap.size, 0, none⟩ = some (.int .u64 x.1) ∧ W2.cell? ⟨w.heap.size, 1, none⟩ = some (.int .i64 x.2) ∧ W2.cell? ⟨bb, 1, none⟩ = some (.pointer (some ⟨hb, 0, none⟩))) := Lib.hid fun W2 h2 => HQ.out W2 (hb1.trans (h2.mono hb1.size))
    have HP1 : Hid (∀ W2, Below w1.heap.size w1 W2 → Calls Tryz.prog 113 #[.pointer (some ⟨hb, 0, none⟩), .agg #[.int .u64 x.1, .int .i64 x.2]] W2 fun e w3 => e = .returned (.tuple #[]) ∧ Added w base bb hb v k l x (.returned (.bool true)) w3 ∧ Cs w.heap.size bb hb x w3) := Lib.hid fun W2 h2 => HPU.out W2 (hb1.trans (h2.mono hb1.size))
    clear HF hb1 HPU HQ
    go_wp2_with (fail)
    go_region_held3 (fun W => W.cell? ⟨w.heap.size, 0, none⟩ = some (.int .u64 x.1) ∧ W.cell? ⟨w.heap.size, 1, none⟩ = some (.int .i64 x.2) ∧ W.cell? ⟨bb, 1, none⟩ = some (.pointer (some ⟨hb, 0, none⟩))) ((first | exact hcs | (refine HCE.out _ ?_); repeat' (first | (with_reducible exact Below.refl _ _) | (with_reducible assumption) | (with_reducible refine Below.drew ?_) | (with_reducible refine below_drewN' ?_ _))))
      (first
        | (go_at_call 113; (with_reducible refine (HP1.out _ (by repeat' (first | (with_reducible exact Below.refl _ _) | (with_reducible assumption) | (with_reducible refine Below.drew ?_) | (with_reducible refine below_drewN' ?_ _)))).mono ?_); rintro e w5 ⟨rfl, hadd, hcs⟩))
    go_wp2_with (fail)
    refine bodyPost_ret (v := .bool true) (by simp [results, Tryz.results76, go_sem]) rfl ?_
    exact hadd
end Go.Proofs.YtgbjpobgjmkjgaaGreat.best
/-
  The contracts of the document's First, Same (of any two rows), Keep and Bound.
-/
namespace Go.Proofs.YtgbjpobgjmkjgaaGreat.best
open Go.RowKit law bytes only flat hit heapM Go.Sort Go.Shelf
set_option linter.unusedVariables false

set_option maxRecDepth 100000 in
set_option maxHeartbeats 3200000 in
theorem first_any (A : Option Addr) (l : List Hit) (c B : Nat) (k : Int) (w : World) (hm : l.length * 16 ≤ 140737488355328) (hB : B ≤ w.heap.size) (hs : Sl w B A (hv l)) :
    Calls Tryz.prog 50 #[.slice A l.length c, .int .i64 k] w (Own (l.take k.toNat) w) := by
  have HS := Lib.hid hs
  clear hs
  go_enter Tryz.func50, Tryz.ntmps50
  go_wp2_with (fail)
  go_loopg [5, 6] l.length (fun gk s5 s6 wr => ∃ (i c' : Nat) (A' : Option Addr), gk = l.length - i ∧ i ≤ l.length ∧ i ≤ k.toNat ∧ s5 = .slice A' i c' ∧ s6 = .int .i64 i ∧ wr.ownsRow w.heap.size 80 2 (.slice A' i c') i (hv (l.take i)) ∧ Below w.heap.size w wr)
  case atStart => exact ⟨0, 0, none, rfl, Nat.zero_le _, Nat.zero_le _, rfl, rfl, by rw [List.take_zero]; exact World.ownsRow_nil _ _ _ _, Below.refl _ _⟩
  case round =>
    obtain ⟨i, c', A', rfl, hi, hik, rfl, rfl, hown, hb⟩ := hrel
    by_cases hlt : i < l.length
    · have z1 : decide (i < l.length) = true := decide_eq_true hlt
      have z2 : decide ((i : Int) < (l.length : Int)) = true := decide_eq_true (by omega)
      have z3 : (i : Int) < (l.length : Int) := by omega
      by_cases hk : (i : Int) < k
      · have z4 : decide ((i : Int) < k) = true := decide_eq_true hk
        obtain ⟨b, o, rfl, hb1, hc0, hc1⟩ := Sl.hitAt ((HS.out.more hB).below hb) hlt
        have HT : Hid (hv (l.take (i + 1)) = hv (l.take i) ++ [.int .u64 l[i].1, .int .i64 l[i].2]) := Lib.hid (by rw [List.take_succ_eq_append_getElem hlt]; exact hv_snoc _ _ _)
        obtain ⟨⟨x, y⟩, hx⟩ : ∃ x, l[i] = x := ⟨_, rfl⟩
        rw [hx] at hc0 hc1 HT
        dsimp only at hc0 hc1 HT
        have hsz := hb.size
        clear hx
        go_wp2_with (at_builtin
                     refine wpList_append_slk _ rfl (.tmp 18) (.tmp 23) _ rfl w.heap.size 80 2 16 Tryz.underlying72 hitE (by omega) (.slice A' i c') i (hv (l.take i)) rfl (World.ownsRow.alloc (w := wr) hown _) _ _ 1 1 [.int .u64 x, .int .i64 y] rfl (Sl.lit wr _ _) rfl (hc_oneOf _ _) (by omega) (by unfold maxLen; omega) (by simp; omega) ?_
                     intro v4 w4 hown4 hg4 hat4
                     obtain ⟨A4, c4, rfl, hc4⟩ := own_slice hown4)
        go_roundg (l.length - (i + 1))
        case measure => omega
        case rel => exact ⟨i + 1, c4, A4, rfl, by omega, by omega, rfl, by go_num, by rw [HT.out]; exact hown4, below_appendK1 hb hsz _ hown (Nat.le_refl _) hg4⟩
      · have z4 : decide ((i : Int) < k) = false := decide_eq_false hk
        have HE : Hid (Own (l.take k.toNat) w (.returned (.slice A' i c')) wr) := Lib.hid (Own.mk hown (by rw [show i = k.toNat by omega]) hb)
        clear hown hb
        go_wp2_with (fail)
        go_ret
        exact HE.out
    · obtain rfl : i = l.length := by omega
      have z1 : decide (l.length < l.length) = false := decide_eq_false (by omega)
      have z2 : decide ((l.length : Int) < (l.length : Int)) = false := decide_eq_false (by omega)
      have z3 : ¬ (l.length : Int) < (l.length : Int) := by omega
      have HE : Hid (Own (l.take k.toNat) w (.returned (.slice A' l.length c')) wr) := Lib.hid (Own.mk hown (by rw [List.take_length, List.take_of_length_le hik]) hb)
      clear hown hb
      go_wp2_with (fail)
      go_ret
      exact HE.out

theorem take_more {xs ys : List Hit} {k : Nat} (h : xs.take k = ys.take k) (h1 : k < xs.length) (h2 : k < ys.length) (e : xs[k] = ys[k]) : xs.take (k + 1) = ys.take (k + 1) := by
  rw [List.take_succ_eq_append_getElem h1, List.take_succ_eq_append_getElem h2, h, e]
theorem ne_at {xs ys : List Hit} {k : Nat} (h1 : k < xs.length) (h2 : k < ys.length) (e : xs[k] ≠ ys[k]) : decide (xs = ys) = false := decide_eq_false fun h => e (by subst h; rfl)
set_option maxRecDepth 100000 in
set_option maxHeartbeats 3200000 in
/-- are two rows alike? -/
theorem same2_any (A A' : Option Addr) (xs ys : List Hit) (c c' B B' : Nat) (w : World) (hm : xs.length ≤ 281474976710656) (hm' : ys.length ≤ 281474976710656) (hs : Sl w B A (hv xs)) (hs' : Sl w B' A' (hv ys)) :
    Calls Tryz.prog 30 #[.slice A xs.length c, .slice A' ys.length c'] w fun e w' => e = .returned (.bool (decide (xs = ys))) ∧ Below w.heap.size w w' := by
  have HS := Lib.hid hs
  have HS' := Lib.hid hs'
  clear hs hs'
  by_cases hl : xs.length = ys.length
  · have d0 : ((xs.length : Int) != (xs.length : Int)) = false := by simp
    rw [← hl]
    have HL := Lib.hid hl
    obtain ⟨n, hn⟩ : ∃ n, xs.length = n := ⟨_, rfl⟩
    rw [hn] at d0 ⊢
    have HN := Lib.hid hn
    have hn2 : n ≤ 281474976710656 := by omega
    clear hl hn hm hm'
    go_enter Tryz.func30, Tryz.ntmps30
    go_wp2_with (fail)
    go_loopg [5] n (fun gk i wr => ∃ k : Nat, gk = n - k ∧ k ≤ n ∧ i = .int .i64 k ∧ xs.take k = ys.take k ∧ Below w.heap.size w wr ∧ Sl wr B A (hv xs) ∧ Sl wr B' A' (hv ys))
    case atStart => exact ⟨0, rfl, Nat.zero_le _, rfl, rfl, Below.refl _ _, HS.out, HS'.out⟩
    case round =>
      clear HS HS'
      obtain ⟨k, rfl, hk, rfl, htk, hb, hs, hs'⟩ := hrel
      by_cases hlt : k < n
      · have h1 : k < xs.length := by have := HN.out; omega
        have h2 : k < ys.length := by have := HN.out; have := HL.out; omega
        obtain ⟨b, o, rfl, hb1, hc0, hc1⟩ := Sl.hitAt hs h1
        obtain ⟨b', o', rfl, hb2, hd0, hd1⟩ := Sl.hitAt hs' h2
        have HM : Hid (∀ x y, xs[k] = x → ys[k] = y → (x = y → xs.take (k + 1) = ys.take (k + 1)) ∧ (x ≠ y → decide (xs = ys) = false)) := Lib.hid fun x y e1 e2 => ⟨fun e => take_more htk h1 h2 (by rw [e1, e2, e]), fun e => ne_at h1 h2 (by rw [e1, e2]; exact e)⟩
        obtain ⟨⟨x1, x2⟩, hx⟩ : ∃ x, xs[k] = x := ⟨_, rfl⟩
        obtain ⟨⟨y1, y2⟩, hy⟩ : ∃ y, ys[k] = y := ⟨_, rfl⟩
        have HMM := Lib.hid (HM.out _ _ hx hy)
        rw [hx] at hc0 hc1
        rw [hy] at hd0 hd1
        dsimp only at hc0 hc1 hd0 hd1
        have i1 : (k : Int) < (n : Int) := by omega
        have HB := Lib.hid (And.intro hb.drew (And.intro (hs.drewN 1) (hs'.drewN 1)))
        obtain ⟨o1, e1⟩ : ∃ o1, (x1 == y1) = o1 := ⟨_, rfl⟩
        obtain ⟨o2, e2⟩ : ∃ o2, (x2 == y2) = o2 := ⟨_, rfl⟩
        have HQ : Hid ((o1 = true → o2 = true → (x1, x2) = (y1, y2)) ∧ (o1 = false ∨ o2 = false → (x1, x2) ≠ (y1, y2))) := Lib.hid (by
          subst e1 e2
          refine ⟨fun p q => by simp at p q; rw [p, q], fun p e => ?_⟩
          injection e with p1 p2
          subst p1 p2
          simp at p)
        have HO1 := Lib.hid e1
        have HO2 := Lib.hid e2
        clear hs hs' hx hy hb htk HM h1 h2
        by_cases ho : o1 = true ∧ o2 = true
        · obtain ⟨rfl, rfl⟩ := ho
          go_wp2_with (fail)
          go_region
          go_wp2_with (fail)
          go_roundg (n - (k + 1))
          case measure => omega
          case rel => exact ⟨k + 1, rfl, by omega, by go_num, HMM.out.1 (HQ.out.1 (by simp) (by simp)), HB.out.1, HB.out.2.1, HB.out.2.2⟩
        · have HF : Hid (decide (xs = ys) = false) := Lib.hid (HMM.out.2 (HQ.out.2 (by cases o1 <;> cases o2 <;> simp_all)))
          cases o1 <;> cases o2
          case true.true => exact absurd ⟨rfl, rfl⟩ ho
          all_goals
            clear ho HMM HQ
            go_wp2_with (fail)
            go_region
            go_wp2_with (fail)
            go_ret
            exact ⟨by rw [HF.out]; rfl, HB.out.1⟩
      · have i1 : ¬ (k : Int) < (n : Int) := by omega
        have HB := Lib.hid hb
        have HT : Hid (decide (xs = ys) = true) := Lib.hid (decide_eq_true (by
          have h1 := HN.out
          have h2 := HL.out
          rw [List.take_of_length_le (by omega), List.take_of_length_le (by omega)] at htk
          exact htk))
        clear hs hs' hb htk
        go_wp2_with (fail)
        go_ret
        exact ⟨by rw [HT.out]; rfl, HB.out⟩
  · have d0 : ((xs.length : Int) != (ys.length : Int)) = true := by rw [bne_iff_ne]; omega
    have d1 : ((xs.length : Int) == (ys.length : Int)) = false := by rw [beq_eq_false_iff_ne]; omega
    have HF : Hid (decide (xs = ys) = false) := Lib.hid (decide_eq_false fun e => hl (by rw [e]))
    have hne : ¬ (xs.length : Int) = (ys.length : Int) := by omega
    go_enter Tryz.func30, Tryz.ntmps30
    go_wp2_with (fail)
    go_ret
    exact ⟨by rw [HF.out]; rfl, Below.refl _ _⟩

end Go.Proofs.YtgbjpobgjmkjgaaGreat.best
/-
  A Best by what it keeps: the contracts of its methods, of a nil one's, and what lives.
-/
namespace Go.Proofs.YtgbjpobgjmkjgaaGreat.best
open Go.RowKit law bytes only flat hit heapM hso Go.Sort Go.Shelf
set_option linter.unusedVariables false

/-- a Best at block bb that keeps the first k of l; T is all that it may turn -/
def Be (w : World) (base bb : Nat) (T : Nat → Prop) (k : Int) (l : List Hit) : Prop :=
  ∃ hb v d, Bx w base bb hb v k d ∧ Heap (lf cB) d ∧ d.toList.Perm (keep k l) ∧ (∀ i, T i ↔ (i = bb ∨ Mine hb v i))
section
variable {w w' : World} {base bb : Nat} {T S : Nat → Prop} {k : Int} {l : List Hit}
theorem Be.low (h : Be w base bb T k l) {i : Nat} (hi : T i) : base ≤ i ∧ i < w.heap.size := by
  obtain ⟨hb, v, d, hx, _, _, hT⟩ := h
  rcases (hT i).1 hi with rfl | rfl | e
  · exact ⟨hx.bb, hx.blk.lt⟩
  · exact ⟨hx.hb, hx.hp.lt⟩
  · exact own_lt hx.hp.2.1 e
theorem Be.below {B : Nat} (h : Be w base bb T k l) (o : Below B w w') (hB : w.heap.size ≤ B) : Be w' base bb T k l := by
  obtain ⟨hb, v, d, hx, hH, hp, hT⟩ := h
  exact ⟨hb, v, d, hx.below o hB, hH, hp, hT⟩
theorem Be.only (h : Be w base bb T k l) (o : Only S w w') (hS : ∀ i, T i → ¬ S i) : Be w' base bb T k l := by
  obtain ⟨hb, v, d, hx, hH, hp, hT⟩ := h
  exact ⟨hb, v, d, hx.only o (hS _ ((hT _).2 (.inl rfl))) (fun i e => hS _ ((hT _).2 (.inr e))), hH, hp, hT⟩
end
theorem new_any (k : Int) (w : World) : Calls Tryz.prog 74 #[.int .i64 k] w fun e w' => ∃ bb T, e = .returned (.pointer (some ⟨bb, 0, none⟩)) ∧ Below w.heap.size w w' ∧ Be w' w.heap.size bb T k [] :=
  (newx_any k w).mono fun e w' ⟨bb, hb, he, hbl, hx⟩ => ⟨bb, fun i => i = bb ∨ Mine hb (.slice none 0 0) i, he, hbl, hb, _, #[], hx, heap_empty, by rw [keep_nil], fun i => Iff.rfl⟩
/-- what an Add leaves -/
def AddedB (w : World) (base bb : Nat) (T : Nat → Prop) (k : Int) (l : List Hit) (x : Hit) (e : Ending) (w' : World) : Prop :=
  e = .returned (.bool (ad k l x)) ∧ Only T w w' ∧ ∃ T', Be w' base bb T' k (l ++ [x]) ∧ ∀ i, T' i → T i ∨ w.heap.size ≤ i
section
variable {w w' : World} {base bb : Nat} {T : Nat → Prop} {k : Int} {l : List Hit}
theorem add_any (h : Be w base bb T k l) (x : Hit) (hB : base ≤ w.heap.size) (hsz : (l.length + 1) * 16 ≤ 140737488355328) :
    Calls Tryz.prog 76 #[.pointer (some ⟨bb, 0, none⟩), .agg #[.int .u64 x.1, .int .i64 x.2]] w (AddedB w base bb T k l x) := by
  obtain ⟨hb, v, d, hx, hH, hp, hT⟩ := h
  exact (addx_any hx hH hp x hB hsz).mono fun e w' ⟨he, ho, v', d', hx', hH', hp', hm⟩ =>
    ⟨he, ho.mono (fun i e => .inl ((hT i).2 (.inr e))), fun i => i = bb ∨ Mine hb v' i, ⟨hb, v', d', hx', hH', hp', fun i => Iff.rfl⟩, fun i e => by
      rcases e with e | e | e
      · exact .inl ((hT i).2 (.inl e))
      · exact .inl ((hT i).2 (.inr (.inl e)))
      · rcases hm with e1 | ⟨g, e1, hg⟩
        · exact .inl ((hT i).2 (.inr (.inr (e1.symm.trans e))))
        · rw [e1] at e
          injection e with e
          exact .inr (by omega)⟩
theorem full_any (h : Be w base bb T k l) : Calls Tryz.prog 80 #[.pointer (some ⟨bb, 0, none⟩)] w fun e w' => e = .returned (.bool (decide (k ≤ ((keep k l).length : Int)))) ∧ Below w.heap.size w w' := by
  obtain ⟨hb, v, d, hx, hH, hp, hT⟩ := h
  rw [← size_of hp]
  exact fullx_any hx
theorem len_any (h : Be w base bb T k l) : Calls Tryz.prog 228 #[.pointer (some ⟨bb, 0, none⟩)] w fun e w' => e = .returned (.int .i64 ((keep k l).length : Int)) ∧ Below w.heap.size w w' := by
  obtain ⟨hb, v, d, hx, hH, hp, hT⟩ := h
  rw [← size_of hp]
  exact (lenx_any hx).mono fun e w' ⟨he, hw⟩ => ⟨he, hw ▸ Below.refl _ _⟩
theorem bound_any (h : Be w base bb T k l) : Calls Tryz.prog 78 #[.pointer (some ⟨bb, 0, none⟩)] w fun e w' => e = .returned (.int .i64 (bd k l)) ∧ Below w.heap.size w w' := by
  obtain ⟨hb, v, d, hx, hH, hp, hT⟩ := h
  have e : bdx k d = bd k l := by
    have h1 := size_of hp
    have h2 := keep_length k l
    unfold bdx
    by_cases hf : k ≤ (d.size : Int)
    · rw [if_pos hf]
      by_cases hk : k < 1
      · rw [bd_none hk, if_pos (by omega)]
      · obtain ⟨n, hn⟩ : ∃ n, k.toNat = n + 1 := ⟨k.toNat - 1, by omega⟩
        rw [if_neg (by omega), bd_full hn (by omega) hH hp]
    · rw [if_neg hf, bd_room (by omega)]
  rw [← e]
  exact boundx_any hx
theorem list_any (h : Be w base bb T k l) (hsz : l.length * 16 ≤ 140737488355328) : Calls Tryz.prog 77 #[.pointer (some ⟨bb, 0, none⟩)] w (Own (keep k l) w) := by
  obtain ⟨hb, v, d, hx, hH, hp, hT⟩ := h
  have h1 := size_of hp
  have h2 := keep_le k l
  exact listx_any hx hp (by omega)
end
/-! ### of nil -/
theorem full_none (w : World) : Calls Tryz.prog 80 #[.pointer none] w fun e w' => e = .returned (.bool true) ∧ Below w.heap.size w w' := by
  go_enter Tryz.func80, Tryz.ntmps80
  go_wp2_with (fail)
  go_region
  go_wp2_with (fail)
  go_ret
  exact ⟨rfl, by repeat' (first | (with_reducible exact Below.refl _ _) | (with_reducible refine Below.drew ?_) | (with_reducible refine below_drewN' ?_ _))⟩
theorem len_none (w : World) : Calls Tryz.prog 228 #[.pointer none] w fun e w' => e = .returned (.int .i64 0) ∧ w = w' := by
  go_enter Tryz.func228, Tryz.ntmps228
  go_wp2_with (fail)
  go_ret
  exact ⟨rfl, rfl⟩
theorem list_none (w : World) : Calls Tryz.prog 77 #[.pointer none] w fun e w' => e = .returned (.slice none 0 0) ∧ w = w' := by
  go_enter Tryz.func77, Tryz.ntmps77
  go_wp2_with (fail)
  refine bodyPost_ret (v := .slice none 0 0) (by simp [results, Tryz.results77, go_sem]) rfl ?_
  exact ⟨rfl, rfl⟩
set_option maxRecDepth 100000 in
set_option maxHeartbeats 1600000 in
theorem last_none (w : World) : Calls Tryz.prog 111 #[.pointer none] w fun e w' => e = .returned (.tuple #[.agg #[.int .u64 0, .int .i64 0], .bool false]) ∧ Below w.heap.size w w' := by
  have HB : Hid (Below w.heap.size w (w.alloc (.cells #[.int .u64 0, .int .i64 0] 80))) := Lib.hid ((Below.refl _ _).alloc (Nat.le_refl _) _)
  go_enter Tryz.func111, Tryz.ntmps111
  go_wp2_with (fail)
  refine bodyPost_ret (v := .tuple #[.agg #[.int .u64 0, .int .i64 0], .bool false]) (by simp [results, Tryz.results111, go_sem]) rfl ?_
  exact ⟨rfl, HB.out⟩
set_option maxHeartbeats 1600000 in
theorem bound_none (w : World) : Calls Tryz.prog 78 #[.pointer none] w fun e w' => e = .returned (.int .i64 (-1)) ∧ Below w.heap.size w w' := by
  have HF := Lib.hid (full_none w)
  have HT : Hid (∀ W, Below w.heap.size w W → Calls Tryz.prog 111 #[.pointer none] W fun e w' => e = .returned (.tuple #[.agg #[.int .u64 0, .int .i64 0], .bool false]) ∧ Below w.heap.size w w') := Lib.hid fun W hW =>
    (last_none W).mono fun e w' ⟨he, hb⟩ => ⟨he, hW.trans (hb.mono hW.size)⟩
  go_enter Tryz.func78, Tryz.ntmps78
  go_wp2_with (fail)
  refine HF.out.mono ?_
  rintro e w1 ⟨rfl, hb1⟩
  have HT1 := Lib.hid (HT.out w1 hb1)
  clear HT HF hb1
  go_wp2_with (fail)
  refine HT1.out.mono ?_
  rintro e w2 ⟨rfl, hb2⟩
  have HB2 := Lib.hid (hb2.alloc hb2.size (.cells #[.int .u64 0, .int .i64 0] 80))
  clear hb2 HT1
  go_wp2_with (fail)
  go_ret
  exact ⟨rfl, HB2.out⟩
set_option maxHeartbeats 1600000 in
theorem add_none_any (x : Hit) (w : World) : Calls Tryz.prog 76 #[.pointer none, .agg #[.int .u64 x.1, .int .i64 x.2]] w fun e w' => e = .returned (.bool false) ∧ Below w.heap.size w w' := by
  obtain ⟨V, hV⟩ : ∃ V, V = w.alloc (.cells #[.int .u64 x.1, .int .i64 x.2] 80) := ⟨_, rfl⟩
  have hall : Below w.heap.size w V := by rw [hV]; exact (Below.refl _ _).alloc (Nat.le_refl _) _
  have HF := Lib.hid (full_none V)
  have HT : Hid (∀ W, Below V.heap.size V W → Calls Tryz.prog 111 #[.pointer none] W fun e w' => e = .returned (.tuple #[.agg #[.int .u64 0, .int .i64 0], .bool false]) ∧ Below w.heap.size w w') := Lib.hid fun W hW =>
    (last_none W).mono fun e w' ⟨he, hb⟩ => ⟨he, (hall.trans (hW.mono hall.size)).trans (hb.mono (Nat.le_trans hall.size hW.size))⟩
  clear hall
  go_enter Tryz.func76, Tryz.ntmps76
  go_wp2_with (fail)
  rw [← hV]
  refine HF.out.mono ?_
  rintro e w1 ⟨rfl, hb1⟩
  have HT1 := Lib.hid (HT.out w1 hb1)
  clear HF HT hb1
  go_wp2_with (fail)
  refine HT1.out.mono ?_
  rintro e w2 ⟨rfl, hb2⟩
  have HB2 := Lib.hid (hb2.alloc hb2.size (.cells #[.int .u64 0, .int .i64 0] 80))
  clear HT1 hb2
  go_wp2_with (fail)
  refine bodyPost_ret (v := .bool false) (by simp [results, Tryz.results76, go_sem]) rfl ?_
  exact ⟨rfl, HB2.out⟩
end Go.Proofs.YtgbjpobgjmkjgaaGreat.best
