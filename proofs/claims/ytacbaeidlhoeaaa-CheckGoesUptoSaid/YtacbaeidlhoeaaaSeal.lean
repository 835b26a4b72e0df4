/-
  The contracts of check.Seal, check.Open and of the document's own Seal and Open.
-/
import Derived.Test.YtacbaeidlhoeaaaCheck
namespace Go.Proofs.Ytacbaeidlhoeaaa.check
open Go.RowKit law bytes sum
set_option linter.unusedVariables false

theorem byteE : Elem Try.prog 5 (.int .u8 0) 1 := elem_mk (by kernel_rfl) rfl
theorem make_run (n : Nat) (hn : n ≤ 140737488355300) (u : World) : (Instr.makeSlice 34 (.int .i64 0) (.int .i64 ((n : Int) + 8))).run Try.prog u =
    .ok (.slice (some ⟨u.heap.size, 0, none⟩) 0 (n + 8)) (u.alloc (.cells (madeCells #[.int .u8 0] (n + 8)) 5)) := by
  obtain ⟨i, hi, hz, hsz, hby, hzs⟩ := byteE
  have h := run_make (P := Try.prog) u 34 5 i (.int .u8 0) Try.underlying34 hi hz .i64 .i64 0 ((n : Int) + 8) (by omega) (by omega) (by rw [hby]; omega) (by omega)
  have e : ((n : Int) + 8).toNat = n + 8 := by omega
  rw [e] at h
  simpa [hsz, Value.cells] using h
theorem made_row (n : Nat) (hn : n ≤ 140737488355300) (u : World) (B : Nat) (hB : B ≤ u.heap.size) : (u.alloc (.cells (madeCells #[.int .u8 0] (n + 8)) 5)).ownsRow B 5 1 (.slice (some ⟨u.heap.size, 0, none⟩) 0 (n + 8)) 0 [] :=
  World.ownsRow_made u _ _ hB (by unfold maxLen; omega) (by rw [size_madeCells]; omega)

theorem bv_step (l : List UInt8) (v k : Nat) (hk : k < 8) : bv (l ++ (le8 v).take k) ++ [.int .u8 ((v : Int) / 2 ^ (8 * k) % 256)] = bv (l ++ (le8 v).take (k + 1)) := by
  rw [le8_snoc v k hk, ← List.append_assoc, bv_append (l ++ (le8 v).take k)]
  congr 1
  simp only [bv, List.map_cons, List.map_nil, Lib.toUInt8_mod]
  congr 2
  have hp : (256 : Nat) ^ k = 2 ^ (8 * k) := by rw [Nat.pow_mul]
  rw [hp]
  simp
set_option maxHeartbeats 800000 in
theorem seal_any (A : Option Addr) (l : List UInt8) (n c : Nat) (w : World) (hn : l.length = n) (hm : n ≤ 140737488355300) (hs : Sl w w.heap.size A (bv l)) :
    Calls Try.prog 25 #[.slice A n c] w (Made 5 (bv (seal_ l)) w) := by
  subst hn
  have hmk := make_run l.length hm
  go_enter Try.func25, Try.ntmps25
  go_wp2_with (first
    | (at_builtin
       refine wpList_append_sl _ rfl (.tmp 10) (.tmp 11) _ rfl w.heap.size 5 _ 1 Try.underlying34 byteE (.slice (some ⟨w.heap.size, 0, none⟩) 0 (l.length + 8)) 0 [] rfl (made_row l.length hm w _ (Nat.le_refl _)) w.heap.size A l.length c (bv l) rfl (hs.alloc (Nat.le_refl _) _) (bv_length l) (bv_one l) (by omega) (by unfold maxLen; omega) (by simp) ?_
       intro v1 w1 hown1 hg1 hat1
       have hb1 : Below w.heap.size w w1 := ((Below.refl _ w).alloc (Nat.le_refl _) _).grown hg1 (by simp) (by simp [Value.ownBlock])
       simp only [Nat.zero_add, List.nil_append] at hown1)
    | (go_at_call 22; refine (of_any A l l.length c w.heap.size _ rfl (by omega) (hs.below hb1)).mono ?_; rintro e w' ⟨rfl, rfl⟩))
  have HO := Lib.hid hown1
  clear hown1 hat1 hg1
  go_loopw [3, 15] (fun v i wr => ∃ k : Nat, k ≤ 8 ∧ i = .int .i64 k ∧ wr.ownsRow w.heap.size 5 1 v (l.length + k) (bv (l ++ (le8 (sum l)).take k)) ∧ Below w.heap.size w wr) (fun _ i _ => 8 - (intOf i).toNat)
  case atStart => exact ⟨0, Nat.zero_le _, rfl, by simpa using HO.out, hb1⟩
  case round =>
    obtain ⟨k, hk, rfl, hown, hb⟩ := hrel
    have hb0 : w.heap.size ≤ wr.heap.size := hb.size
    by_cases hlt : k < 8
    · have H1 := Lib.hid (le8_snoc (sum l) k hlt)
      go_wp2_with
       (at_builtin
        refine wpList_append_sl _ rfl (.tmp 18) (.tmp 24) _ rfl w.heap.size 5 _ 1 Try.underlying34 byteE u3 (l.length + k) (bv (l ++ (le8 (sum l)).take k)) rfl (hown.alloc _) _ _ 1 1 _ rfl (Sl.one _ _ _) rfl ?_ (by omega) (by unfold maxLen; omega) ?_ ?_
        · intro u hu; simp only [List.mem_singleton] at hu; subst hu; rfl
        · simp; omega
        intro v2 w2 hown2 hg2 hat2)
      go_roundw
      case rel => exact ⟨k + 1, by omega, by go_num, by rw [← bv_step l _ k hlt]; exact hown2, below_append hb hb0 _ hown (Nat.le_refl _) hg2⟩
      case measure => simp [intOf]; omega
    · go_wp2
      go_ret
      exact Made.mk hown (by obtain rfl : k = 8 := by omega
                             rw [List.take_of_length_le (by rw [le8_length]; omega)]; rfl) hb
def hat (v k : Nat) : Nat := v / 256 ^ k
theorem hat_zero (v : Nat) : hat v 0 = v := by simp [hat]
theorem bv_step2 (l : List UInt8) (v k : Nat) (hk : k < 8) : bv (l ++ (le8 v).take k) ++ [.int .u8 ((hat v k : Int) % 256)] = bv (l ++ (le8 v).take (k + 1)) := by
  rw [le8_snoc v k hk, ← List.append_assoc, bv_append (l ++ (le8 v).take k)]
  congr 1
  simp only [bv, List.map_cons, List.map_nil, Lib.toUInt8_mod, hat]
  congr 2
theorem hat_step (v k : Nat) (hv : U64 v) : IntKind.u64.wrap ((hat v k : Int) / 256) = (hat v (k + 1) : Int) := by
  have : hat v k ≤ v := Nat.div_le_self _ _
  unfold U64 at hv
  have e : hat v (k + 1) = hat v k / 256 := by unfold hat; rw [Nat.pow_succ, ← Nat.div_div_eq_div_mul]
  rw [e, IntKind.wrap_u64]
  omega
set_option maxHeartbeats 800000 in
theorem rseal_any (A : Option Addr) (l : List UInt8) (n c : Nat) (w : World) (hn : l.length = n) (hm : n ≤ 140737488355300) (hs : Sl w w.heap.size A (bv l)) :
    Calls Try.prog 26 #[.slice A n c] w (Made 5 (bv (seal_ l)) w) := by
  subst hn
  go_enter Try.func26, Try.ntmps26
  go_wp2_with (first
    | (at_builtin
       refine wpList_append_sl _ rfl (.const (.slice none 0 0)) (.tmp 6) _ rfl w.heap.size 5 _ 1 Try.underlying34 byteE (.slice none 0 0) 0 [] rfl (World.ownsRow_nil _ _ _ _) w.heap.size A l.length c (bv l) rfl hs (bv_length l) (bv_one l) (by omega) (by unfold maxLen; omega) (by simp) ?_
       intro v1 w1 hown1 hg1 hat1
       have hb1 : Below w.heap.size w w1 := (Below.refl _ w).grown hg1 (by simp) (by simp [Value.ownBlock])
       simp only [Nat.zero_add, List.nil_append] at hown1)
    | (go_at_call 23; refine (rof_any A l l.length c w.heap.size _ rfl (by omega) (hs.below hb1)).mono ?_; rintro e w' ⟨rfl, rfl⟩))
  have HO := Lib.hid hown1
  clear hown1 hat1 hg1
  go_loopw [3, 4, 5] (fun v h i wr => ∃ k : Nat, k ≤ 8 ∧ i = .int .i64 k ∧ h = .int .u64 (hat (sum l) k) ∧ wr.ownsRow w.heap.size 5 1 v (l.length + k) (bv (l ++ (le8 (sum l)).take k)) ∧ Below w.heap.size w wr) (fun _ _ i _ => 8 - (intOf i).toNat)
  case atStart => exact ⟨0, Nat.zero_le _, rfl, by rw [hat_zero], by simpa using HO.out, hb1⟩
  case round =>
    obtain ⟨k, hk, rfl, rfl, hown, hb⟩ := hrel
    have hb0 : w.heap.size ≤ wr.heap.size := hb.size
    by_cases hlt : k < 8
    · go_wp2_with
       (at_builtin
        refine wpList_append_sl _ rfl (.tmp 14) (.tmp 18) _ rfl w.heap.size 5 _ 1 Try.underlying34 byteE u3 (l.length + k) (bv (l ++ (le8 (sum l)).take k)) rfl (hown.alloc _) _ _ 1 1 _ rfl (Sl.one _ _ _) rfl ?_ (by omega) (by unfold maxLen; omega) ?_ ?_
        · intro u hu; simp only [List.mem_singleton] at hu; subst hu; rfl
        · simp; omega
        intro v2 w2 hown2 hg2 hat2)
      go_roundw
      case rel =>
        exact ⟨k + 1, by omega, by go_num, by rw [← hat_step _ _ (sum_u l)], by rw [← bv_step2 l _ k hlt]; exact hown2, below_append hb hb0 _ hown (Nat.le_refl _) hg2⟩
      case measure => simp [intOf]; omega
    · go_wp2
      go_ret
      exact Made.mk hown (by obtain rfl : k = 8 := by omega
                             rw [List.take_of_length_le (by rw [le8_length]; omega)]; rfl) hb
/-- what Open tells: bytes that can be read, and a bool; all that there was is as it was -/
def Opens (b : Bool) (l : List UInt8) (w : World) (e : Ending) (w' : World) : Prop :=
  ∃ A c, e = .returned (.tuple #[.slice A l.length c, .bool b]) ∧ Sl w' w'.heap.size A (bv l) ∧ Below w.heap.size w w'

set_option maxHeartbeats 800000 in
theorem open_short (A : Option Addr) (n c : Nat) (w : World) (hn : n < 8) : Calls Try.prog 18 #[.slice A n c] w (Opens false [] w) := by
  go_enter Try.func18, Try.ntmps18
  go_wp2
  go_ret2
  exact ⟨none, 0, rfl, Sl.nil, Below.refl _ _⟩
theorem Opens.of {b b' : Bool} {l l' : List UInt8} {w w' : World} {e : Ending} (h : Opens b l w e w') (hb : b = b') (hl : l = l') : Opens b' l' w e w' := by subst hb; subst hl; exact h
set_option maxHeartbeats 800000 in
theorem open_long (A : Option Addr) (l : List UInt8) (n c : Nat) (w : World) (hn : l.length = n) (h8 : 8 ≤ n) (hm : n ≤ 140737488355300) (hs : Sl w w.heap.size A (bv l)) (hc : n ≤ c) :
    Calls Try.prog 18 #[.slice A n c] w (Opens (openedB l) (opened l) w) := by
  subst hn
  have hsb : Sl w w.heap.size A (bv (body l)) := by unfold body; rw [bv_take]; exact hs.take _
  have hst : Sl w w.heap.size (A.map (·.add (l.length - 8))) (bv (tail l)) := by unfold tail; rw [bv_drop]; exact hs.drop _
  have hx : openedB l = decide (sum (body l) = Lib.leNat (tail l)) := by simp [openedB, h8]
  by_cases hq : sum (body l) = Lib.leNat (tail l)
  · have HX : Hid (openedB l = true) := Lib.hid (by rw [hx]; exact decide_eq_true hq)
    have h1 : ((sum (body l) : Int) == (Lib.leNat (tail l) : Int)) = true := by simp; omega
    have h2 : ((sum (body l) : Int) != (Lib.leNat (tail l) : Int)) = false := by simp; omega
    clear hx hq
    go_enter Try.func18, Try.ntmps18
    go_wp2
    go_quiet (fail)
    go_wp2_with (first
      | (go_at_call 22; refine (of_any _ (body l) _ _ w.heap.size _ (body_length l) (by omega) (hsb.drewN _)).mono ?_; rintro e w' ⟨rfl, rfl⟩)
      | (go_at_call 29; refine (number_any _ (tail l) _ _ w.heap.size _ (by omega) (by rw [tail_length l h8]; omega) (hst.drewN _)).mono ?_; rintro e w' ⟨rfl, rfl⟩)
      | (at_builtin
         refine wpList_append_sl _ rfl (.const (.slice none 0 0)) (.tmp 24) _ rfl w.heap.size 5 _ 1 Try.underlying34 byteE (.slice none 0 0) 0 [] rfl (World.ownsRow_nil _ _ _ _) w.heap.size A (l.length - 8) c (bv (body l)) rfl (hsb.drewN _) ((bv_length _).trans (body_length l)) (bv_one _) (by omega) (by unfold maxLen; omega) (by simp) ?_
         intro v1 w1 hown1 hg1 hat1
         obtain ⟨A1, c1, rfl, hc1⟩ := own_slice hown1
         simp only [Nat.zero_add, List.nil_append] at hown1))
    go_ret2
    have hb1 : Below w.heap.size w w1 := (below_drewN (Below.refl _ w) nq).grown hg1 (by simp) (by simp [Value.ownBlock])
    have e : body l = opened l := by unfold opened; rw [if_pos HX.out]
    refine Opens.of ⟨A1, c1, ?_, Sl.of_own hown1, hb1⟩ HX.out.symm e
    rw [body_length]
    rfl
  · have HX : Hid (openedB l = false) := Lib.hid (by rw [hx]; exact decide_eq_false hq)
    have h1 : ((sum (body l) : Int) == (Lib.leNat (tail l) : Int)) = false := by simp; omega
    have h2 : ((sum (body l) : Int) != (Lib.leNat (tail l) : Int)) = true := by simp; omega
    clear hx hq
    go_enter Try.func18, Try.ntmps18
    go_wp2
    go_quiet (fail)
    go_wp2_with (first
      | (go_at_call 22; refine (of_any _ (body l) _ _ w.heap.size _ (body_length l) (by omega) (hsb.drewN _)).mono ?_; rintro e w' ⟨rfl, rfl⟩)
      | (go_at_call 29; refine (number_any _ (tail l) _ _ w.heap.size _ (by omega) (by rw [tail_length l h8]; omega) (hst.drewN _)).mono ?_; rintro e w' ⟨rfl, rfl⟩))
    go_ret2
    have e : [] = opened l := by unfold opened; rw [if_neg (by rw [HX.out]; decide)]
    exact Opens.of ⟨none, 0, rfl, Sl.nil, below_drewN (Below.refl _ w) nq⟩ HX.out.symm e
theorem open_any (A : Option Addr) (l : List UInt8) (n c : Nat) (w : World) (hn : l.length = n) (hm : n ≤ 140737488355300) (hs : Sl w w.heap.size A (bv l)) (hc : n ≤ c) :
    Calls Try.prog 18 #[.slice A n c] w (Opens (openedB l) (opened l) w) := by
  by_cases h8 : 8 ≤ n
  · exact open_long A l n c w hn h8 hm hs hc
  · have hb : openedB l = false := by simp [openedB]; omega
    have he : opened l = [] := by simp [opened, hb]
    rw [hb, he]
    exact open_short A n c w (by omega)

set_option maxHeartbeats 800000 in
theorem ropen_any (A : Option Addr) (l : List UInt8) (n c : Nat) (w : World) (hn : l.length = n) (hm : n ≤ 140737488355300) (hs : Sl w w.heap.size A (bv l)) (hc : n ≤ c) :
    Calls Try.prog 19 #[.slice A n c] w (Opens (openedB l) (opened l) w) := by
  subst hn
  have hsb : Sl w w.heap.size A (bv (body l)) := by unfold body; rw [bv_take]; exact hs.take _
  by_cases h8 : 8 ≤ l.length
  · have hx : openedB l = decide (sum (body l) = Lib.leNat (tail l)) := by simp [openedB, h8]
    rw [← seal_iff l h8] at hx
    have hlen : (seal_ (body l)).length = l.length - 8 + 8 := by rw [seal_length, body_length]
    by_cases hq : seal_ (body l) = l
    · have HX : Hid (openedB l = true) := Lib.hid (by rw [hx]; exact decide_eq_true hq)
      have hd : decide (seal_ (body l) = l) = true := decide_eq_true hq
      have HL := Lib.hid hlen
      clear hx hq hlen
      go_enter Try.func19, Try.ntmps19
      go_wp2_with (first
        | (go_at_call 26; refine (rseal_any A (body l) _ _ _ (body_length l) (by omega) hsb).mono ?_
           rintro e w1 ⟨A1, c1, rfl, hown1, hb1⟩)
        | (go_at_call 24; refine (same_any A1 A _ l _ _ _ _ _ w.heap.size _ (bv_length _).symm rfl (by rw [bv_length, HL.out]; omega) (Sl.of_own hown1) (hs.below hb1)).mono ?_
           rintro e w2 ⟨rfl, j, rfl⟩))
      go_ret2
      have e : body l = opened l := by unfold opened; rw [if_pos HX.out]
      refine Opens.of ⟨A, c, ?_, ((hsb.below hb1).more hb1.size).drewN _, below_drewN hb1 j⟩ HX.out.symm e
      rw [body_length]
      rfl
    · have HX : Hid (openedB l = false) := Lib.hid (by rw [hx]; exact decide_eq_false hq)
      have hd : decide (seal_ (body l) = l) = false := decide_eq_false hq
      have HL := Lib.hid hlen
      clear hx hq hlen
      go_enter Try.func19, Try.ntmps19
      go_wp2_with (first
        | (go_at_call 26; refine (rseal_any A (body l) _ _ _ (body_length l) (by omega) hsb).mono ?_
           rintro e w1 ⟨A1, c1, rfl, hown1, hb1⟩)
        | (go_at_call 24; refine (same_any A1 A _ l _ _ _ _ _ w.heap.size _ (bv_length _).symm rfl (by rw [bv_length, HL.out]; omega) (Sl.of_own hown1) (hs.below hb1)).mono ?_
           rintro e w2 ⟨rfl, j, rfl⟩))
      go_ret2
      have e : [] = opened l := by unfold opened; rw [if_neg (by rw [HX.out]; decide)]
      exact Opens.of ⟨none, 0, rfl, Sl.nil, below_drewN hb1 j⟩ HX.out.symm e
  · have hb : openedB l = false := by simp [openedB]; omega
    have he : opened l = [] := by simp [opened, hb]
    rw [hb, he]
    clear hb he
    go_enter Try.func19, Try.ntmps19
    go_wp2
    go_ret2
    exact ⟨none, 0, rfl, Sl.nil, Below.refl _ _⟩
end Go.Proofs.Ytacbaeidlhoeaaa.check
