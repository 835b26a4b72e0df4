/-
  The contracts of lev.Least and of the document's own count and Least; lev.Upto.
-/
import Derived.Test.YtdfakjpchgomdaaDst
namespace Go.Proofs.Ytdfakjpchgomdaa.lev
open Go.RowKit law bytes
set_option linter.unusedVariables false

/-- block g holds just n ints -/
def IRow (w : World) (g n : Nat) (f : Nat → Nat) : Prop := ∃ (t : TypeId) (cs : Array Value), Blk w g t cs ∧ cs.size = n ∧ ∀ i, i < n → cs[i]? = some (.int .i64 (f i : Nat))
section
variable {w w' : World} {g n : Nat} {f f' : Nat → Nat}
theorem IRow.lt (h : IRow w g n f) : g < w.heap.size := by obtain ⟨t, cs, h, _⟩ := h; exact h.lt
theorem IRow.cell (h : IRow w g n f) {i : Nat} (hi : i < n) : w.cell? ⟨g, i, none⟩ = some (.int .i64 (f i : Nat)) := by
  obtain ⟨t, cs, h, hs, hc⟩ := h; exact (h.cell i).trans (hc i hi)
theorem IRow.frozen (h : IRow w g n f) (i : Nat) : w.frozen? ⟨g, i, none⟩ = false := by obtain ⟨t, cs, h, _⟩ := h; exact h.frozen i
theorem IRow.congr (h : IRow w g n f) (hf : ∀ i, i < n → f i = f' i) : IRow w g n f' := by
  obtain ⟨t, cs, h, hs, hc⟩ := h; exact ⟨t, cs, h, hs, fun i hi => by rw [← hf i hi]; exact hc i hi⟩
theorem IRow.set_ (h : IRow w g n f) {i : Nat} (hi : i < n) (x : Nat) (hf : ∀ k, k ≠ i → f' k = f k) (hx : f' i = x) (v : Value) (hv : v = .int .i64 (x : Int)) : IRow (w.setCell ⟨g, i, none⟩ v) g n f' := by
  subst hv
  obtain ⟨t, cs, h, hs, hc⟩ := h
  refine ⟨t, _, h.set_ i _, by simpa using hs, fun k hk => ?_⟩
  rw [Array.getElem?_setIfInBounds]
  by_cases e : i = k
  · subst e; rw [if_pos rfl, if_pos (by omega), hx]
  · rw [if_neg e, hf k (fun h => e h.symm)]; exact hc k hk
end
theorem bl_take_succ (s : ByteArray) (k : Nat) (h : k < s.size) : (bl s).take (k + 1) = (bl s).take k ++ [s[k]'h] := by
  rw [List.take_succ_eq_append_getElem (by rw [bl_len]; exact h)]; rfl
theorem ct_le (c : Nat) (l : List UInt8) : ct c l ≤ l.length := by
  induction l with
  | nil => simp [ct]
  | cons x l ih => rw [ct, List.length_cons]; split <;> omega
theorem ct_take (c k : Nat) (s : ByteArray) : ct c ((bl s).take k) ≤ k := Nat.le_trans (ct_le _ _) (List.length_take_le _ _)
def zci : Array Value := Array.replicate 256 (.int .i64 0)
theorem zero_ci : (Try.prog.info? 68).map (fun i => (i.zero, i.size)) = some (some (.agg zci), 256) := by kernel_rfl
theorem zci_row (w : World) (t : TypeId) : IRow (w.alloc (.cells zci t)) w.heap.size 256 (fun _ => 0) := by
  refine ⟨t, zci, Blk.new w t zci, by simp [zci], fun i hi => ?_⟩
  unfold zci
  rw [Array.getElem?_replicate, if_pos hi]
  rfl

set_option maxHeartbeats 1600000 in
theorem least_any (a b : ByteArray) (ha : a.size ≤ 1048576) (hb : b.size ≤ 1048576) (w : World) :
    Calls Try.prog 32 #[.string a, .string b] w (Tells (.int .i64 (least (bl a) (bl b))) w) := by
  have hrow0 := zci_row w 68
  obtain ⟨zc, hzc⟩ : ∃ zc, zc = zci := ⟨_, rfl⟩
  have hz := (zero_of_info zero_ci).1
  rw [← hzc] at hz hrow0
  have HR0 := Lib.hid hrow0
  clear hzc hrow0
  go_enter Try.func32, Try.ntmps32
  go_wp2_with (fail)
  go_loopw [11] (fun i wr => ∃ k : Nat, k ≤ a.size ∧ i = .int .i64 k ∧ IRow wr w.heap.size 256 (fun c => ct c ((bl a).take k)) ∧ Below w.heap.size w wr) (fun i _ => a.size - (intOf i).toNat)
  case atStart => exact ⟨0, Nat.zero_le _, rfl, HR0.out, (Below.refl _ _).alloc (Nat.le_refl _) _⟩
  case round =>
    obtain ⟨k, hk, rfl, hrow, hB⟩ := hrel
    by_cases hlt : k < a.size
    · have hc : (a[k]'hlt).toNat < 256 := (a[k]'hlt).toNat_lt
      have hcell := hrow.cell hc
      have hfr := hrow.frozen
      have hx := ct_take (a[k]'hlt).toNat k a
      have hsn : ∀ c, ct c ((bl a).take (k + 1)) = ct c ((bl a).take k) + if (a[k]'hlt).toNat = c then 1 else 0 := fun c => by rw [bl_take_succ a k hlt, ct_snoc]
      have HS := Lib.hid hsn
      have HR := Lib.hid hrow
      clear hsn hrow hz
      generalize hxx : ct (a[k]'hlt).toNat ((bl a).take k) = x at *
      have HX := Lib.hid hxx
      clear hxx
      go_wp2_with (fail)
      go_roundw
      case rel => exact ⟨k + 1, by omega, by go_num, HR.out.set_ hc (x + 1) (fun c hc => by rw [HS.out, if_neg (fun e => hc e.symm)]; rfl) (by rw [HS.out, if_pos rfl, HX.out]) _ (by go_num), hB.setCell (Nat.le_refl _) _⟩
      case measure => simp [intOf]; omega
    · obtain rfl : k = a.size := by omega
      have hrow1 : IRow wr w.heap.size 256 (fun c => ct c (bl a) - ct c ((bl b).take 0)) := hrow.congr fun c _ => by rw [List.take_of_length_le (by rw [bl_len]; exact Nat.le_refl _)]; rfl
      have HR1 := Lib.hid hrow1
      clear hrow hrow1 hz
      go_wp2_with (fail)
      go_loopw [7, 24] (fun n i wr => ∃ (k q : Nat), k ≤ b.size ∧ q ≤ k ∧ i = .int .i64 k ∧ n = .int .i64 q ∧ Hid (q = both (bl a) ((bl b).take k)) ∧ IRow wr w.heap.size 256 (fun c => ct c (bl a) - ct c ((bl b).take k)) ∧ Below w.heap.size w wr) (fun _ i _ => b.size - (intOf i).toNat)
      case atStart => exact ⟨0, 0, Nat.zero_le _, Nat.le_refl _, rfl, rfl, Lib.hid (by rw [List.take_zero]; exact (S_zero (fun c _ => by rw [ct]; omega)).symm), HR1.out, hB⟩
      case round =>
        obtain ⟨k, q, hk, hq, rfl, rfl, HQ, hrow, hB⟩ := hrel
        by_cases hlt : k < b.size
        · have hc : (b[k]'hlt).toNat < 256 := (b[k]'hlt).toNat_lt
          have hcell := hrow.cell hc
          have hfr := hrow.frozen
          have hsn : ∀ c, ct c ((bl b).take (k + 1)) = ct c ((bl b).take k) + if (b[k]'hlt).toNat = c then 1 else 0 := fun c => by rw [bl_take_succ b k hlt, ct_snoc]
          have hbs : both (bl a) ((bl b).take (k + 1)) = both (bl a) ((bl b).take k) + if ct (b[k]'hlt).toNat ((bl b).take k) < ct (b[k]'hlt).toNat (bl a) then 1 else 0 := by rw [bl_take_succ b k hlt, both_snoc]
          have HS := Lib.hid hsn
          have HBS := Lib.hid hbs
          have HR := Lib.hid hrow
          have hxb : ct (b[k]'hlt).toNat (bl a) - ct (b[k]'hlt).toNat ((bl b).take k) ≤ a.size := by have := ct_le (b[k]'hlt).toNat (bl a); rw [bl_len] at this; omega
          clear hsn hbs hrow
          generalize hxx : ct (b[k]'hlt).toNat (bl a) - ct (b[k]'hlt).toNat ((bl b).take k) = x at *
          have HX := Lib.hid hxx
          clear hxx
          by_cases h0 : 0 < x
          · have d0 : decide ((0 : Nat) < x) = true := decide_eq_true h0
            go_wp2_with (fail)
            go_roundw
            case rel =>
              have hx := HX.out
              have hl2 : ct (b[k]'hlt).toNat ((bl b).take k) < ct (b[k]'hlt).toNat (bl a) := by omega
              have hq2 : q + 1 = both (bl a) ((bl b).take (k + 1)) := by rw [HBS.out, if_pos hl2, HQ.out]
              refine ⟨k + 1, q + 1, by omega, by omega, by go_num, by go_num, Lib.hid hq2, HR.out.set_ hc (x - 1) (fun c hc => by show ct c (bl a) - ct c ((bl b).take (k + 1)) = ct c (bl a) - ct c ((bl b).take k); rw [HS.out, if_neg (fun e => hc e.symm), Nat.add_zero]) (by show ct _ (bl a) - ct _ ((bl b).take (k + 1)) = _; rw [HS.out, if_pos rfl]; omega) _ ?_, hB.setCell (Nat.le_refl _) _⟩
              congr 1; omega
            case measure => simp [intOf]; omega
          · have d0 : decide ((0 : Nat) < x) = false := decide_eq_false h0
            go_wp2_with (fail)
            go_roundw
            case rel =>
              have hx := HX.out
              exact ⟨k + 1, q, by omega, by omega, by go_num, rfl, Lib.hid (by rw [HBS.out, if_neg (by omega), Nat.add_zero]; exact HQ.out), HR.out.congr (fun c _ => by
                rw [HS.out]
                by_cases e : (b[k]'hlt).toNat = c
                · subst e; rw [if_pos rfl]; omega
                · rw [if_neg e]; rfl), hB⟩
            case measure => simp [intOf]; omega
        · obtain rfl : k = b.size := by omega
          have hfin : least (bl a) (bl b) = max a.size b.size - q := by rw [HQ.out, List.take_of_length_le (by rw [bl_len]; exact Nat.le_refl _)]; unfold least; rw [bl_len, bl_len]
          have hle := both_le (bl a) (bl b)
          have hq2 : q ≤ max a.size b.size := by rw [HQ.out, List.take_of_length_le (by rw [bl_len]; exact Nat.le_refl _)]; rw [bl_len, bl_len] at hle; omega
          have HF := Lib.hid hfin
          clear hfin hle hrow
          go_wp2_with (fail)
          all_goals
            go_ret
            exact ⟨ret_int (by rw [HF.out]; omega), hB⟩

theorem upto_yes (a b : ByteArray) (ha : a.size ≤ 1048576) (hb : b.size ≤ 1048576) (most : Int) (hm : (L (bl a) (bl b) : Int) ≤ most) (w : World) :
    Calls Try.prog 25 #[.string a, .string b, .int .i64 most] w (Tells (.tuple #[.int .i64 (L (bl a) (bl b)), .bool true]) w) := by
  have h1 := least_any a b ha hb w
  have h2 := fun W => dist_any a b ha hb W
  have hle := least_le (bl a) (bl b)
  generalize least (bl a) (bl b) = x at *
  generalize L (bl a) (bl b) = y at *
  have hxm : (x : Int) ≤ most := by omega
  have d1 : decide (most < (x : Int)) = false := decide_eq_false (by omega)
  have d2 : decide (most < (y : Int)) = false := decide_eq_false (by omega)
  have H1 := Lib.hid h1
  have H2 := Lib.hid h2
  clear h1 h2 hle
  go_enter Try.func25, Try.ntmps25
  go_wp2_with (fail)
  refine H1.out.mono ?_
  rintro e w1 ⟨rfl, hb1⟩
  go_wp2_with (fail)
  refine (H2.out w1).mono ?_
  rintro e w2 ⟨rfl, hb2⟩
  go_wp2_with (fail)
  refine bodyPost_ret (v := .tuple #[.int .i64 y, .bool true]) (by simp [results, Try.results25, go_sem]) rfl ?_
  exact ⟨rfl, hb1.trans (hb2.mono hb1.size)⟩
theorem upto_no (a b : ByteArray) (ha : a.size ≤ 1048576) (hb : b.size ≤ 1048576) (most : Int) (hm : most < (L (bl a) (bl b) : Int)) (w : World) :
    Calls Try.prog 25 #[.string a, .string b, .int .i64 most] w (Tells (.tuple #[.int .i64 0, .bool false]) w) := by
  have h1 := least_any a b ha hb w
  have h2 := fun W => dist_any a b ha hb W
  generalize least (bl a) (bl b) = x at *
  generalize L (bl a) (bl b) = y at *
  have H1 := Lib.hid h1
  have H2 := Lib.hid h2
  clear h1 h2
  have d2 : decide (most < (y : Int)) = true := decide_eq_true hm
  by_cases hx : most < (x : Int)
  · have d1 : decide (most < (x : Int)) = true := decide_eq_true hx
    go_enter Try.func25, Try.ntmps25
    go_wp2_with (fail)
    refine H1.out.mono ?_
    rintro e w1 ⟨rfl, hb1⟩
    go_wp2_with (fail)
    refine bodyPost_ret (v := .tuple #[.int .i64 0, .bool false]) (by simp [results, Try.results25, go_sem]) rfl ?_
    exact ⟨rfl, hb1⟩
  · have d1 : decide (most < (x : Int)) = false := decide_eq_false hx
    go_enter Try.func25, Try.ntmps25
    go_wp2_with (fail)
    refine H1.out.mono ?_
    rintro e w1 ⟨rfl, hb1⟩
    go_wp2_with (fail)
    refine (H2.out w1).mono ?_
    rintro e w2 ⟨rfl, hb2⟩
    go_wp2_with (fail)
    refine bodyPost_ret (v := .tuple #[.int .i64 0, .bool false]) (by simp [results, Try.results25, go_sem]) rfl ?_
    exact ⟨rfl, hb1.trans (hb2.mono hb1.size)⟩

/-! ### the document's own -/
set_option maxHeartbeats 800000 in
theorem count_any (s : ByteArray) (hs : s.size ≤ 1048576) (c : Nat) (w : World) :
    Calls Try.prog 44 #[.string s, .int .i64 c] w fun e w' => e = .returned (.int .i64 (ct c (bl s))) ∧ w = w' := by
  go_enter Try.func44, Try.ntmps44
  go_wp2_with (fail)
  go_loop [5, 6] (fun n i => ∃ (k q : Nat), k ≤ s.size ∧ q ≤ k ∧ i = .int .i64 k ∧ n = .int .i64 q ∧ Hid (q = ct c ((bl s).take k))) (fun _ i => s.size - (intOf i).toNat)
  case atStart => exact ⟨0, 0, Nat.zero_le _, Nat.le_refl _, rfl, rfl, Lib.hid rfl⟩
  case round =>
    obtain ⟨k, q, hk, hq, rfl, rfl, HQ⟩ := hrel
    by_cases hlt : k < s.size
    · have hs := bl_take_succ s k hlt
      have hu8 : ((s[k]'hlt).toNat : Int) ≤ 255 := by have := (s[k]'hlt).toNat_lt; omega
      by_cases he : (s[k]'hlt).toNat = c
      · have d0 : (((s[k]'hlt).toNat : Int) == (c : Int)) = true := by rw [he]; simp
        have hn : q + 1 = ct c ((bl s).take (k + 1)) := by rw [hs, ct_snoc, if_pos he, HQ.out]
        have HN := Lib.hid hn
        clear hn hs he
        go_wp2_with (fail)
        go_round
        case rel => exact ⟨k + 1, q + 1, by omega, by omega, by go_num, by go_num, HN⟩
        case measure => simp [intOf]; omega
      · have d0 : (((s[k]'hlt).toNat : Int) == (c : Int)) = false := by simp; omega
        have hn : q = ct c ((bl s).take (k + 1)) := by rw [hs, ct_snoc, if_neg he, HQ.out, Nat.add_zero]
        have HN := Lib.hid hn
        clear hn hs he
        go_wp2_with (fail)
        go_round
        case rel => exact ⟨k + 1, q, by omega, by omega, by go_num, rfl, HN⟩
        case measure => simp [intOf]; omega
    · have hn : q = ct c (bl s) := by rw [HQ.out, List.take_of_length_le (by rw [bl_len]; omega)]
      have HN := Lib.hid hn
      clear hn
      go_wp2_with (fail)
      go_ret
      exact ⟨ret_int (by rw [HN.out]), rfl⟩
end Go.Proofs.Ytdfakjpchgomdaa.lev
