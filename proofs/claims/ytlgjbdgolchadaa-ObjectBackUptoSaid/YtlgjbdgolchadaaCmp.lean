/-
  The contracts of object.Cmp, object.Clone, and the document's own order.
-/
import Derived.Test.YtlgjbdgolchadaaLive5
import Derived.Test.YtlgjbdgolchadaaShelf
namespace Go.Proofs.Ytlgjbdgolchadaa.obj
open Go.RowKit law bytes nums ord
set_option linter.unusedVariables false

theorem cmp64_any (x y : Int) (w : World) : Calls Try.prog 29 #[.int .i64 x, .int .i64 y] w fun e w' => e = .returned (.int .i64 (cmpI x y)) ∧ w = w' :=
  (Try.cmp_Compare_int x y w).mono fun e w' ⟨he, hw⟩ => ⟨he, hw.symm⟩
theorem nan32_any (x : Int) (w : World) : Calls Try.prog 59 #[.int .i32 x] w fun e w' => e = .returned (.bool false) ∧ w = w' := by
  go_enter Try.func59, Try.ntmps59
  go_wp2
  go_ret
  exact ⟨ret_bool (by simp), rfl⟩
theorem cmp32_any (x y : Int) (w : World) : Calls Try.prog 47 #[.int .i32 x, .int .i32 y] w fun e w' => e = .returned (.int .i64 (cmpI x y)) ∧ w = w' := by
  have hC : cmpI x y = if x < y then -1 else if x > y then 1 else 0 := rfl
  by_cases h1 : x < y
  · rw [if_pos h1] at hC
    have HC := Lib.hid hC
    have d1 : decide (x < y) = true := decide_eq_true h1
    clear hC h1
    go_enter Try.func47, Try.ntmps47
    go_wp2_with (go_at_call 59; (with_reducible refine (nan32_any _ _).mono ?_); rintro e w' ⟨rfl, rfl⟩)
    go_ret
    exact ⟨by rw [HC.out]; rfl, rfl⟩
  rw [if_neg h1] at hC
  have d1 : decide (x < y) = false := decide_eq_false h1
  by_cases h2 : y < x
  · rw [if_pos h2] at hC
    have HC := Lib.hid hC
    have d2 : decide (y < x) = true := decide_eq_true h2
    clear hC h1 h2
    go_enter Try.func47, Try.ntmps47
    go_wp2_with (go_at_call 59; (with_reducible refine (nan32_any _ _).mono ?_); rintro e w' ⟨rfl, rfl⟩)
    go_ret
    exact ⟨by rw [HC.out]; rfl, rfl⟩
  rw [if_neg h2] at hC
  have HC := Lib.hid hC
  have d2 : decide (y < x) = false := decide_eq_false h2
  clear hC h1 h2
  go_enter Try.func47, Try.ntmps47
  go_wp2_with (go_at_call 59; (with_reducible refine (nan32_any _ _).mono ?_); rintro e w' ⟨rfl, rfl⟩)
  go_ret
  exact ⟨by rw [HC.out]; rfl, rfl⟩
set_option maxHeartbeats 800000 in
theorem compare_any (A A' : Option Addr) (l m : List Int) (c c' B B' : Nat) (w : World) (hl : m.length = l.length) (hm : l.length ≤ 281474976710656) (hs : Sl w B A (iv l)) (hs' : Sl w B' A' (iv m)) :
    Calls Try.prog 30 #[.slice A l.length c, .slice A' l.length c'] w fun e w' => e = .returned (.int .i64 (cmpL cmpI l m)) ∧ w = w' := by
  have HL := Lib.hid hl
  clear hl
  go_enter Try.func30, Try.ntmps30
  go_wp2
  go_loopw [11] (fun i wr => ∃ k : Nat, k ≤ l.length ∧ i = .int .i64 k ∧ Alike l m k ∧ wr = w) (fun i _ => l.length - (intOf i).toNat)
  case atStart => exact ⟨0, Nat.zero_le _, rfl, Alike.zero, rfl⟩
  case round =>
    obtain ⟨k, hk, rfl, HT, rfl⟩ := hrel
    by_cases hlt : k < l.length
    · have hlm : k < m.length := by have := HL.out; omega
      obtain ⟨ad, rfl, hb, hc⟩ := Sl.num hs hlt
      obtain ⟨ad', rfl, hb', hc'⟩ := Sl.num hs' hlm
      have hx := cmp32_any l[k] m[k] wr
      by_cases he : l[k] = m[k]
      · have HE := Lib.hid he
        rw [(cmpI_tot.zero _ _).2 he] at hx
        clear he hs hs'
        go_wp2_with (go_at_call 47; (with_reducible refine hx.mono ?_); rintro e w' ⟨rfl, rfl⟩)
        go_roundw
        case rel => exact ⟨k + 1, by omega, by go_num, HT.step hlt hlm HE.out, trivial⟩
        case measure => simp [intOf]; omega
      · have hne : cmpI l[k] m[k] ≠ 0 := fun h => he ((cmpI_tot.zero _ _).1 h)
        have hC := cmpL_at cmpI_tot l m k hlt hlm HT hne
        have h1 : (cmpI l[k] m[k] == 0) = false := by simpa using hne
        have h2 : (cmpI l[k] m[k] != 0) = true := by simpa using hne
        generalize cmpI l[k] m[k] = r at hx hC h1 h2
        have HC := Lib.hid hC
        clear he hs hs' hne hC
        go_wp2_with (go_at_call 47; (with_reducible refine hx.mono ?_); rintro e w' ⟨rfl, rfl⟩)
        go_ret
        exact ⟨by rw [HC.out]; rfl, rfl⟩
    · go_wp2
      go_ret
      have e := HT.all HL.out (by omega)
      exact ⟨by rw [(cmpL_tot cmpI_tot).zero _ _ |>.2 e]; rfl, rfl⟩
theorem scompare_any (a b : ByteArray) (w : World) : Calls Try.prog 31 #[.string a, .string b] w fun e w' => e = .returned (.int .i64 (cmpL cmpC (tl a) (tl b))) ∧ w = w' := by
  have h := Try.strings_Compare a b w
  rw [cmpL_lib] at h
  exact h.mono fun e w' ⟨he, hw⟩ => ⟨he, hw.symm⟩

theorem int32E : Elem Try.prog 21 (.int .i32 0) 4 := elem_mk (by kernel_rfl) rfl
theorem sclone_any (s : ByteArray) (w : World) (hl : s.size ≤ 281474976710656) : Calls Try.prog 34 #[.string s] w (Gives (.string s) w) := by
  have h := Try.stringslite_Clone s w hl
  go_enter Try.func34, Try.ntmps34
  go_wp2_with (go_at_call 49; (with_reducible refine h.mono ?_); rintro e w' ⟨rfl, hb⟩)
  go_ret
  exact ⟨rfl, hb⟩
theorem vclone_any (A : Option Addr) (l : List Int) (c B : Nat) (w : World) (hm : l.length * 4 ≤ 140737488355328) (hB : B ≤ w.heap.size) (hs : Sl w B A (iv l)) :
    Calls Try.prog 33 #[.slice A l.length c] w (Made 21 (iv l) w) := by
  have heq := fun (W : World) (a : Option Addr) (n c : Nat) => Lib.run_eql_slice_nil (P := Try.prog) W 22 21 a n c 0 0 Try.underlying22
  rcases A with _ | a
  · obtain rfl : l = [] := by
      rcases l with _ | ⟨x, r⟩
      · rfl
      · obtain ⟨ad, h, _⟩ := hs 0 _ rfl
        cases h
    go_enter Try.func33, Try.ntmps33
    go_wp2
    go_ret
    exact ⟨none, 0, rfl, World.ownsRow_nil _ _ _ _, Below.refl _ _⟩
  · go_enter Try.func33, Try.ntmps33
    go_wp2_with (first
      | (at_builtin
         refine wpList_append_sl _ rfl (.tmp 5) (.tmp 6) _ rfl w.heap.size 21 _ 4 Try.underlying22 int32E (.slice (some ⟨w.heap.size, 0, none⟩) 0 0) 0 [] rfl (World.ownsRow_lit w #[] 0 (Nat.le_refl _) (by unfold maxLen; omega) rfl) _ (some a) l.length c (iv l) rfl (hs.alloc hB _) (iv_length _) (iv_one _) (by omega) (by unfold maxLen; omega) (by simp) ?_
         intro v1 w1 hown1 hg1 hat1
         have hb1 : Below w.heap.size w w1 := ((Below.refl _ w).alloc (Nat.le_refl _) _).grown hg1 (by simp) (by simp [Value.ownBlock])
         simp only [Nat.zero_add, List.nil_append] at hown1
         obtain ⟨A1, c1, rfl, hc1⟩ := own_slice hown1))
    go_ret
    exact Made.mk hown1 rfl hb1

set_option maxHeartbeats 800000 in
theorem cmp_any (A A' : Option Addr) (c c' B B' : Nat) (x y : Thing) (w : World) (hx : x.vec.length ≤ 281474976710656) (hB : B ≤ w.heap.size) (hB' : B' ≤ w.heap.size) (hs : Sl w B A (iv x.vec)) (hs' : Sl w B' A' (iv y.vec)) :
    Calls Try.prog 11 #[.agg #[.int .i64 x.tag, .slice A x.vec.length c, .string x.str], .agg #[.int .i64 y.tag, .slice A' y.vec.length c', .string y.str]] w (Gives (.int .i64 (cmpO x y)) w) := by
  have hO : cmpO x y = thn (cmpI x.tag y.tag) (thn (cmpN x.vec.length y.vec.length) (thn (cmpL cmpI x.vec y.vec) (cmpL cmpC (tl x.str) (tl y.str)))) := rfl
  obtain ⟨hb, -, -⟩ := two_box w 24 #[.int .i64 x.tag, .slice A x.vec.length c, .string x.str] #[.int .i64 y.tag, .slice A' y.vec.length c', .string y.str]
  have hq := fun (hl : y.vec.length = x.vec.length) => compare_any A A' x.vec y.vec c c' B B' ((w.alloc (.cells #[.int .i64 x.tag, .slice A x.vec.length c, .string x.str] 24)).alloc (.cells #[.int .i64 y.tag, .slice A' y.vec.length c', .string y.str] 24)) hl hx ((hs.alloc hB _).alloc (by simp; omega) _) ((hs'.alloc hB' _).alloc (by simp; omega) _)
  have h1 := fun W => cmp64_any x.tag y.tag W
  have h2 : ∀ W, Calls Try.prog 29 #[.int .i64 (x.vec.length : Int), .int .i64 (y.vec.length : Int)] W fun e w' => e = .returned (.int .i64 (cmpN x.vec.length y.vec.length)) ∧ W = w' := fun W => cmp64_any _ _ W
  have h4 := fun W => scompare_any x.str y.str W
  have H4 := Lib.hid h4
  clear h4
  by_cases z1 : cmpI x.tag y.tag = 0
  case neg =>
    have hR : cmpO x y = cmpI x.tag y.tag := by rw [hO]; unfold thn; rw [if_neg z1]
    rw [← hR] at h1 z1
    generalize cmpO x y = R at h1 z1 ⊢
    have d : (R == 0) = false := by simpa using z1
    have d' : (R != 0) = true := by simpa using z1
    have H1 := Lib.hid h1
    clear hR h1 h2 hq hO z1
    go_enter Try.func11, Try.ntmps11
    go_wp2_with (fail)
    refine (H1.out _).mono ?_
    rintro e w1 ⟨rfl, rfl⟩
    go_wp2_with (fail)
    go_ret
    exact ⟨rfl, hb⟩
  rw [z1] at h1 hO
  have H1 := Lib.hid h1
  clear h1 z1
  by_cases z2 : cmpN x.vec.length y.vec.length = 0
  case neg =>
    have hR : cmpO x y = cmpN x.vec.length y.vec.length := by rw [hO]; unfold thn; rw [if_pos rfl, if_neg z2]
    rw [← hR] at h2 z2
    generalize cmpO x y = R at h2 z2 ⊢
    have d : (R == 0) = false := by simpa using z2
    have d' : (R != 0) = true := by simpa using z2
    have H2 := Lib.hid h2
    clear hR h2 hq hO z2
    go_enter Try.func11, Try.ntmps11
    go_wp2_with (fail)
    refine (H1.out _).mono ?_
    rintro e w1 ⟨rfl, rfl⟩
    go_wp2_with (fail)
    refine (H2.out _).mono ?_
    rintro e w1 ⟨rfl, rfl⟩
    go_wp2_with (fail)
    go_ret
    exact ⟨rfl, hb⟩
  have hl : y.vec.length = x.vec.length := ((cmpN_tot.zero _ _).1 z2).symm
  have hq := hq hl
  rw [z2] at h2 hO
  rw [hl] at h2 ⊢
  have H2 := Lib.hid h2
  rw [hl] at hb hq
  clear h2 z2
  by_cases z3 : cmpL cmpI x.vec y.vec = 0
  case neg =>
    have hR : cmpO x y = cmpL cmpI x.vec y.vec := by rw [hO]; unfold thn; rw [if_pos rfl, if_pos rfl, if_neg z3]
    rw [← hR] at hq z3
    generalize cmpO x y = R at hq z3 ⊢
    have d : (R == 0) = false := by simpa using z3
    have d' : (R != 0) = true := by simpa using z3
    have HQ := Lib.hid hq
    clear hR hq hO z3 hl
    go_enter Try.func11, Try.ntmps11
    go_wp2_with (fail)
    refine (H1.out _).mono ?_
    rintro e w1 ⟨rfl, rfl⟩
    go_wp2_with (fail)
    refine (H2.out _).mono ?_
    rintro e w1 ⟨rfl, rfl⟩
    go_wp2_with (fail)
    refine HQ.out.mono ?_
    rintro e w1 ⟨rfl, rfl⟩
    go_wp2_with (fail)
    go_ret
    exact ⟨rfl, hb⟩
  have hR : cmpO x y = cmpL cmpC (tl x.str) (tl y.str) := by rw [hO]; unfold thn; rw [if_pos rfl, if_pos rfl, if_pos z3]
  rw [z3] at hq
  have HQ := Lib.hid hq
  have HR := Lib.hid hR
  clear hR hq hO z3 hl
  go_enter Try.func11, Try.ntmps11
  go_wp2_with (fail)
  refine (H1.out _).mono ?_
  rintro e w1 ⟨rfl, rfl⟩
  go_wp2_with (fail)
  refine (H2.out _).mono ?_
  rintro e w1 ⟨rfl, rfl⟩
  go_wp2_with (fail)
  refine HQ.out.mono ?_
  rintro e w1 ⟨rfl, rfl⟩
  go_wp2_with (fail)
  refine (H4.out _).mono ?_
  rintro e w1 ⟨rfl, rfl⟩
  go_wp2_with (fail)
  go_ret
  rw [HR.out]
  exact ⟨rfl, hb⟩
end Go.Proofs.Ytlgjbdgolchadaa.obj
