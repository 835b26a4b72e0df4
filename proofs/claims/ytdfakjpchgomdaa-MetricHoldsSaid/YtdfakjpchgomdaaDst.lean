/-
  The contract of lev.Dist.
-/
import Derived.Test.YtdfakjpchgomdaaTrim
import Derived.Test.YtdfakjpchgomdaaRep
namespace Go.Proofs.Ytdfakjpchgomdaa.lev
open Go.RowKit law bytes
set_option linter.unusedVariables false

theorem sm_bd (l b : List UInt8) (k : Nat) : -(k : Int) ≤ sm (dl l b) k ∧ sm (dl l b) k ≤ k := by
  induction k with
  | zero => simp [sm]
  | succ k ih => have h := dl_bd l b k; rw [sm]; omega
/-- a value; all that there was is as it was -/
def Tells (v : Value) (w : World) (e : Ending) (w' : World) : Prop := e = .returned v ∧ Below w.heap.size w w'
theorem pt_size (a : ByteArray) (p : Nat) (hp : p * 64 < a.size) : 0 < (pt a p).size ∧ (pt a p).size ≤ 64 := by
  unfold pt; rw [ByteArray.size_extract]; omega
theorem pt_bl (a : ByteArray) (p : Nat) : bl (pt a p) ++ (bl a).drop ((p + 1) * 64) = (bl a).drop (p * 64) := by
  unfold pt
  rw [bl_extract]
  by_cases h : (p + 1) * 64 ≤ a.size
  · rw [Nat.min_eq_left h, show (bl a).drop ((p + 1) * 64) = ((bl a).drop ((p + 1) * 64)).drop 0 from rfl]
    rw [List.drop_take, List.drop_zero]
    have e : (bl a).drop ((p + 1) * 64) = ((bl a).drop (p * 64)).drop 64 := by rw [List.drop_drop]; congr 1; omega
    rw [e, show (p + 1) * 64 - p * 64 = 64 from by omega, List.take_append_drop]
  · rw [Nat.min_eq_right (by omega), List.take_of_length_le (by rw [bl_len]; exact Nat.le_refl _), drop_nil (s := a) (k := (p + 1) * 64) (by omega), List.append_nil]

set_option maxHeartbeats 1600000 in
theorem dist_any (a b : ByteArray) (ha : a.size ≤ 1048576) (hb : b.size ≤ 1048576) (w : World) :
    Calls Try.prog 29 #[.string a, .string b] w (Tells (.int .i64 (L (bl a) (bl b))) w) := by
  have htr := trim_any a b (by omega) (by omega) w
  have hL := L_tr (bl a) (bl b)
  obtain ⟨hl1, hl2⟩ := tr_len (bl a) (bl b)
  rw [bl_len] at hl1 hl2
  obtain ⟨D, hD⟩ : ∃ D, D = L (bl a) (bl b) := ⟨_, rfl⟩
  rw [← hD] at hL ⊢
  generalize tr (bl a) (bl b) = T at *
  have hs1 : (of T.1).size = T.1.length := of_size _
  have hs2 : (of T.2).size = T.2.length := of_size _
  have hLL : L (bl (of T.1)) (bl (of T.2)) = D := hL
  generalize of T.1 = s at *
  generalize of T.2 = t at *
  have hsa : s.size ≤ 1048576 := by omega
  have hta : t.size ≤ 1048576 := by omega
  have HT := Lib.hid htr
  have HL := Lib.hid hLL
  clear htr hL hLL hD hs1 hs2 hl1 hl2
  go_enter Try.func29, Try.ntmps29
  go_wp2_with (fail)
  refine HT.out.mono ?_
  rintro e w1 ⟨rfl, n1, rfl⟩
  clear HT
  by_cases hlt : s.size < t.size
  · have d0 : decide (s.size < t.size) = true := decide_eq_true hlt
    have HLX : Hid (L (bl t) (bl s) = D) := Lib.hid ((L_symm _ _).trans HL.out)
    have hlast := last_any s (by omega) (w.drewN n1)
    have hparts := fun W => parts_any t (by omega) W
    obtain ⟨P, hP⟩ : ∃ P, P = (t.size + 63) / 64 := ⟨_, rfl⟩
    rw [← hP] at hparts
    have hP1 : P * 64 ≤ t.size + 63 := by omega
    have hP2 : t.size ≤ P * 64 := by omega
    have HLAST := Lib.hid hlast
    have HPARTS := Lib.hid hparts
    clear hlast hparts hP HL
    go_wp2_with (fail)
    refine HLAST.out.mono ?_
    rintro e w2 ⟨g, rfl, hg, hrow, hb2⟩
    have hB2 : Below w.heap.size w w2 := (below_drewN' (Below.refl _ _) n1).trans hb2
    have hrow2 : Row w2 g s.size (dl ((bl t).drop (P * 64)) (bl s)) := hrow.congr fun i hi => by rw [drop_nil hP2, dl_nil _ _ (by rw [bl_len]; exact hi)]
    have hgw : w.heap.size ≤ g := hg
    have HROW := Lib.hid hrow2
    clear hrow hrow2 hb2 HLAST hg
    go_wp2_with (fail)
    refine (HPARTS.out _).mono ?_
    rintro e w3 ⟨rfl, rfl⟩
    clear HPARTS
    go_wp2_with (fail)
    go_loopw [6] (fun v wr => ∃ p : Nat, p ≤ P ∧ v = .int .i64 ((p : Int) - 1) ∧ Row wr g s.size (dl ((bl t).drop (p * 64)) (bl s)) ∧ Below w.heap.size w wr) (fun v _ => (intOf v + 1).toNat)
    case atStart => exact ⟨P, Nat.le_refl _, rfl, HROW.out, hB2⟩
    case round =>
      obtain ⟨p, hp, rfl, hrow, hB⟩ := hrel
      rcases p with _ | p
      · rw [show (((0 : Nat) : Int) - 1) = -1 from rfl]
        have hrow0 : Row wr g s.size (dl (bl t) (bl s)) := by simpa using hrow
        have HR0 := Lib.hid hrow0
        clear hrow hrow0
        go_wp2_with (fail)
        go_loop [7, 42] (fun v i => ∃ k : Nat, k ≤ s.size ∧ i = .int .i64 k ∧ v = .int .i64 ((t.size : Int) + sm (dl (bl t) (bl s)) k)) (fun _ i => s.size - (intOf i).toNat)
        case atStart => exact ⟨0, Nat.zero_le _, rfl, by simp [sm]⟩
        case round =>
          obtain ⟨k, hk, rfl, rfl⟩ := hrel
          have hz := sm_bd (bl t) (bl s) k
          by_cases hlt : k < s.size
          · have hc := HR0.out.cell hlt
            have hd := dl_bd (bl t) (bl s) k
            have hsu : sm (dl (bl t) (bl s)) (k + 1) = sm (dl (bl t) (bl s)) k + dl (bl t) (bl s) k := rfl
            have HSU := Lib.hid hsu
            clear hsu
            generalize dl (bl t) (bl s) k = x at *
            generalize hzz : sm (dl (bl t) (bl s)) k = z at *
            have HZZ := Lib.hid hzz
            clear hzz
            go_wp2_with (fail)
            go_round
            case rel => exact ⟨k + 1, by omega, by go_num, by rw [HSU.out]; go_num⟩
            case measure => simp [intOf]; omega
          · obtain rfl : k = s.size := by omega
            have hall := sm_all (bl t) (bl s)
            rw [bl_len, bl_len] at hall
            have hfin : (t.size : Int) + sm (dl (bl t) (bl s)) s.size = D := by rw [hall, HLX.out]
            have HF := Lib.hid hfin
            clear hall hfin
            go_wp2_with (fail)
            go_ret
            exact ⟨ret_int HF.out, hB⟩
      · rw [show (((p + 1 : Nat) : Int) - 1) = (p : Int) from by omega]
        have hpp : p * 64 < t.size := by omega
        obtain ⟨hs0, hs64⟩ := pt_size t p hpp
        have hpart := fun W => part_any t (by omega) p hpp W
        have hclimb : Calls Try.prog 40 #[.string (pt t p), .string s, .slice (some ⟨g, 0, none⟩) s.size s.size] wr (Climbed g s.size (dl (bl (pt t p) ++ (bl t).drop ((p + 1) * 64)) (bl s)) wr) := climb_any (pt t p) s ((bl t).drop ((p + 1) * 64)) hs0 hs64 (by omega) g s.size (Nat.le_refl _) wr hrow
        rw [pt_bl] at hclimb
        have HPART := Lib.hid hpart
        have HCL := Lib.hid hclimb
        have hge := hrow.lt
        clear hpart hclimb hrow
        go_wp2_with (fail)
        refine (HPART.out _).mono ?_
        rintro e w4 ⟨rfl, rfl⟩
        go_wp2_with (fail)
        refine HCL.out.mono ?_
        rintro e w5 ⟨rfl, hg5, hrow5⟩
        have hB5 := hB.grown hg5 hB.size (fun k hk => by injection hk with hk; subst hk; exact hgw)
        have HR5 := Lib.hid hrow5
        clear HPART HCL hg5 hrow5
        go_wp2_with (fail)
        go_roundw
        case rel => exact ⟨p, by omega, rfl, HR5.out, hB5⟩
        case measure => simp [intOf]
  · have d0 : decide (s.size < t.size) = false := decide_eq_false hlt
    have HLX : Hid (L (bl s) (bl t) = D) := HL
    have hlast := last_any t (by omega) (w.drewN n1)
    have hparts := fun W => parts_any s (by omega) W
    obtain ⟨P, hP⟩ : ∃ P, P = (s.size + 63) / 64 := ⟨_, rfl⟩
    rw [← hP] at hparts
    have hP1 : P * 64 ≤ s.size + 63 := by omega
    have hP2 : s.size ≤ P * 64 := by omega
    have HLAST := Lib.hid hlast
    have HPARTS := Lib.hid hparts
    clear hlast hparts hP HL
    go_wp2_with (fail)
    refine HLAST.out.mono ?_
    rintro e w2 ⟨g, rfl, hg, hrow, hb2⟩
    have hB2 : Below w.heap.size w w2 := (below_drewN' (Below.refl _ _) n1).trans hb2
    have hrow2 : Row w2 g t.size (dl ((bl s).drop (P * 64)) (bl t)) := hrow.congr fun i hi => by rw [drop_nil hP2, dl_nil _ _ (by rw [bl_len]; exact hi)]
    have hgw : w.heap.size ≤ g := hg
    have HROW := Lib.hid hrow2
    clear hrow hrow2 hb2 HLAST hg
    go_wp2_with (fail)
    refine (HPARTS.out _).mono ?_
    rintro e w3 ⟨rfl, rfl⟩
    clear HPARTS
    go_wp2_with (fail)
    go_loopw [6] (fun v wr => ∃ p : Nat, p ≤ P ∧ v = .int .i64 ((p : Int) - 1) ∧ Row wr g t.size (dl ((bl s).drop (p * 64)) (bl t)) ∧ Below w.heap.size w wr) (fun v _ => (intOf v + 1).toNat)
    case atStart => exact ⟨P, Nat.le_refl _, rfl, HROW.out, hB2⟩
    case round =>
      obtain ⟨p, hp, rfl, hrow, hB⟩ := hrel
      rcases p with _ | p
      · rw [show (((0 : Nat) : Int) - 1) = -1 from rfl]
        have hrow0 : Row wr g t.size (dl (bl s) (bl t)) := by simpa using hrow
        have HR0 := Lib.hid hrow0
        clear hrow hrow0
        go_wp2_with (fail)
        go_loop [7, 42] (fun v i => ∃ k : Nat, k ≤ t.size ∧ i = .int .i64 k ∧ v = .int .i64 ((s.size : Int) + sm (dl (bl s) (bl t)) k)) (fun _ i => t.size - (intOf i).toNat)
        case atStart => exact ⟨0, Nat.zero_le _, rfl, by simp [sm]⟩
        case round =>
          obtain ⟨k, hk, rfl, rfl⟩ := hrel
          have hz := sm_bd (bl s) (bl t) k
          by_cases hlt : k < t.size
          · have hc := HR0.out.cell hlt
            have hd := dl_bd (bl s) (bl t) k
            have hsu : sm (dl (bl s) (bl t)) (k + 1) = sm (dl (bl s) (bl t)) k + dl (bl s) (bl t) k := rfl
            have HSU := Lib.hid hsu
            clear hsu
            generalize dl (bl s) (bl t) k = x at *
            generalize hzz : sm (dl (bl s) (bl t)) k = z at *
            have HZZ := Lib.hid hzz
            clear hzz
            go_wp2_with (fail)
            go_round
            case rel => exact ⟨k + 1, by omega, by go_num, by rw [HSU.out]; go_num⟩
            case measure => simp [intOf]; omega
          · obtain rfl : k = t.size := by omega
            have hall := sm_all (bl s) (bl t)
            rw [bl_len, bl_len] at hall
            have hfin : (s.size : Int) + sm (dl (bl s) (bl t)) t.size = D := by rw [hall, HLX.out]
            have HF := Lib.hid hfin
            clear hall hfin
            go_wp2_with (fail)
            go_ret
            exact ⟨ret_int HF.out, hB⟩
      · rw [show (((p + 1 : Nat) : Int) - 1) = (p : Int) from by omega]
        have hpp : p * 64 < s.size := by omega
        obtain ⟨hs0, hs64⟩ := pt_size s p hpp
        have hpart := fun W => part_any s (by omega) p hpp W
        have hclimb : Calls Try.prog 40 #[.string (pt s p), .string t, .slice (some ⟨g, 0, none⟩) t.size t.size] wr (Climbed g t.size (dl (bl (pt s p) ++ (bl s).drop ((p + 1) * 64)) (bl t)) wr) := climb_any (pt s p) t ((bl s).drop ((p + 1) * 64)) hs0 hs64 (by omega) g t.size (Nat.le_refl _) wr hrow
        rw [pt_bl] at hclimb
        have HPART := Lib.hid hpart
        have HCL := Lib.hid hclimb
        have hge := hrow.lt
        clear hpart hclimb hrow
        go_wp2_with (fail)
        refine (HPART.out _).mono ?_
        rintro e w4 ⟨rfl, rfl⟩
        go_wp2_with (fail)
        refine HCL.out.mono ?_
        rintro e w5 ⟨rfl, hg5, hrow5⟩
        have hB5 := hB.grown hg5 hB.size (fun k hk => by injection hk with hk; subst hk; exact hgw)
        have HR5 := Lib.hid hrow5
        clear HPART HCL hg5 hrow5
        go_wp2_with (fail)
        go_roundw
        case rel => exact ⟨p, by omega, rfl, HR5.out, hB5⟩
        case measure => simp [intOf]
end Go.Proofs.Ytdfakjpchgomdaa.lev
