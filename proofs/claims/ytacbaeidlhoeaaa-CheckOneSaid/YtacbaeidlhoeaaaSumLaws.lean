/-
  lives of layer 2, and the walks of its laws.
-/
import Derived.Test.YtacbaeidlhoeaaaSeal
namespace Go.Proofs.Ytacbaeidlhoeaaa.check
open Go.RowKit law bytes sum
set_option linter.unusedVariables false

theorem sum_a : sum [97] = 12638187200555641996 := by decide
theorem of_nil (w : World) : Calls Try.prog 22 #[.slice none 0 0] w fun e w' => e = .returned (.int .u64 14695981039346656037) ∧ w = w' := by
  refine (of_any none [] 0 0 0 w rfl (by omega) Sl.nil).mono ?_
  rintro e w' ⟨rfl, rfl⟩
  exact ⟨ret_int start0_int, rfl⟩
theorem of_a (A : Option Addr) (c B : Nat) (w : World) (h : Sl w B A [.int .u8 97]) : Calls Try.prog 22 #[.slice A 1 c] w fun e w' => e = .returned (.int .u64 12638187200555641996) ∧ w = w' := by
  refine (of_any A [97] 1 c B w rfl (by omega) h).mono ?_
  rintro e w' ⟨rfl, rfl⟩
  exact ⟨ret_int (by rw [sum_a]; rfl), rfl⟩
theorem seal_nil (w : World) : Calls Try.prog 25 #[.slice none 0 0] w fun e w' => ∃ A c, e = .returned (.slice A 8 c) ∧ Below w.heap.size w w' := by
  refine (seal_any none [] 0 0 w rfl (by omega) Sl.nil).mono ?_
  rintro e w' ⟨A, c, rfl, _, hb⟩
  exact ⟨A, c, by rw [bv_length, seal_length]; rfl, hb⟩
set_option maxHeartbeats 800000 in
theorem lives_any (w : World) : Calls Try.prog 27 #[] w fun e w' => e = .returned (.bool true) ∧ Below w.heap.size w w' := by
  go_enter Try.func27, Try.ntmps27
  go_wp2_with (first
    | ((with_reducible refine (of_nil _).mono ?_); rintro e w' ⟨rfl, rfl⟩)
    | ((with_reducible refine (of_a _ _ _ _ (Sl.one _ _ _)).mono ?_); rintro e w' ⟨rfl, rfl⟩)
    | ((with_reducible refine (seal_nil _).mono ?_); rintro e w2 ⟨A2, c2, rfl, hb2⟩))
  go_ret
  exact ⟨rfl, ((Below.refl _ w).alloc (Nat.le_refl _) _).trans (hb2.mono (by simp))⟩
theorem same_true (A A' : Option Addr) (l : List UInt8) (n n' c c' B B' : Nat) (w : World) (hl : l.length = n) (hl' : l.length = n') (hm : n ≤ 281474976710656) (hs : Sl w B A (bv l)) (hs' : Sl w B' A' (bv l)) :
    Calls Try.prog 24 #[.slice A n c, .slice A' n' c'] w fun e w' => e = .returned (.bool true) ∧ ∃ k, w' = w.drewN k := by
  have h := same_any A A' l l n n' c c' B B' w hl hl' hm hs hs'
  rw [decide_eq_true rfl] at h
  exact h

theorem opened_le (l : List UInt8) : (opened l).length ≤ l.length := by
  unfold opened
  split
  · rw [body_length]; omega
  · simp
set_option maxHeartbeats 1600000 in
theorem sums_walk (h : Nat) (hh : U64 h) (A : Option Addr) (l : List UInt8) (c : Nat) (w : World) (hm : l.length ≤ 140737488351232) (hs : Sl w w.heap.size A (bv l)) (hc : l.length ≤ c) :
    Calls Try.prog 5 #[.int .u64 h, .slice A l.length c] w fun e w' => e = .returned (.bool true) ∧ Below w.heap.size w w' := by
  have ho := opened_le l
  have hsl := Lib.hid (seal_length l)
  go_enter Try.func5, Try.ntmps5
  go_wp2_with (first
    | (go_at_call 18; (with_reducible refine (open_any A l _ c w rfl (by omega) hs hc).mono ?_); rintro e w1 ⟨A1, c1, rfl, hs1, hb1⟩)
    | (go_at_call 19; (with_reducible refine (ropen_any A l _ c w1 rfl (by omega) (hs.on hb1) hc).mono ?_); rintro e w2 ⟨A2, c2, rfl, hs2, hb2⟩
       have hb2' := hb1.trans (hb2.mono hb1.size))
    | (go_at_call 20; (with_reducible refine (more_any h hh A l _ c _ w2 rfl (by omega) (hs.below hb2')).mono ?_); rintro e w' ⟨rfl, rfl⟩)
    | (go_at_call 21; (with_reducible refine (rmore_any h hh A l _ c _ w2 rfl (by omega) (hs.below hb2')).mono ?_); rintro e w' ⟨rfl, rfl⟩)
    | (go_at_call 22; (with_reducible refine (of_any A l _ c _ w2 rfl (by omega) (hs.below hb2')).mono ?_); rintro e w' ⟨rfl, rfl⟩)
    | (go_at_call 23; (with_reducible refine (rof_any A l _ c _ w2 rfl (by omega) (hs.below hb2')).mono ?_); rintro e w' ⟨rfl, rfl⟩)
    | (go_at_call 25; (with_reducible refine (seal_any A l _ c w2 rfl (by omega) (hs.on hb2')).mono ?_); rintro e w3 ⟨A3, c3, rfl, hown3, hb3⟩
       have hb3' := hb2'.trans (hb3.mono hb2'.size))
    | (go_at_call 26; (with_reducible refine (rseal_any A l _ c w3 rfl (by omega) (hs.on hb3')).mono ?_); rintro e w4 ⟨A4, c4, rfl, hown4, hb4⟩
       have hb4' := hb3'.trans (hb4.mono hb3'.size))
    | (go_at_call 24; (with_reducible refine (same_true A3 A4 (seal_ l) _ _ c3 c4 _ _ w4 (bv_length _).symm (bv_length _).symm (by rw [bv_length, hsl.out]; omega) ((Sl.of_own hown3).below hb4) (Sl.of_own hown4)).mono ?_); rintro e w' ⟨rfl, j, rfl⟩)
    | (go_at_call 24; (with_reducible refine (same_true A1 A2 (opened l) _ _ c1 c2 _ _ _ rfl rfl (by omega) ((((((hs1.below hb2).more hb2.size).below hb3).more hb3.size).below hb4).drewN j) ((((hs2.below hb3).more hb3.size).below hb4).drewN j)).mono ?_); rintro e w' ⟨rfl, j2, rfl⟩)
    | (go_at_call 27; (with_reducible refine (lives_any _).mono ?_); rintro e w5 ⟨rfl, hb5⟩))
  go_ret
  exact ⟨rfl, hb4'.trans ((below_drewN (Below.refl _ w4) (j + j2)).trans (hb5.mono hb4'.size))⟩

theorem xor_byte (x d : UInt8) : bits .xor .u8 (x.toNat : Int) (d.toNat : Int) = ((x ^^^ d).toNat : Int) := by
  rw [u8_xor_nat _ _ (byte_u x) (byte_u d), UInt8.toNat_xor]
theorem seal_len (A : Option Addr) (l : List UInt8) (n c : Nat) (w : World) (hn : l.length = n) (hm : n ≤ 140737488355300) (hs : Sl w w.heap.size A (bv l)) :
    Calls Try.prog 25 #[.slice A n c] w fun e w' => ∃ A' c', e = .returned (.slice A' (n + 8) c') ∧ w'.ownsRow w.heap.size 5 1 (.slice A' (n + 8) c') (n + 8) (bv (seal_ l)) ∧ Below w.heap.size w w' := by
  refine (seal_any A l n c w hn hm hs).mono ?_
  rintro e w' ⟨A', c', rfl, ho, hb⟩
  rw [bv_length, seal_length, hn] at *
  exact ⟨A', c', rfl, ho, hb⟩
theorem set_eq (l : List UInt8) (k : Nat) (x d : UInt8) : (bv l).set k (.int .u8 (bits .xor .u8 (x.toNat : Int) (d.toNat : Int))) = bv (l.set k (x ^^^ d)) := by rw [xor_byte, bv_set]
theorem bv_at (l : List UInt8) (k : Nat) (hk : k < l.length) : (bv l)[k]? = some (.int .u8 (l[k].toNat : Int)) := by simp [bv, hk]
theorem bv_at_seal (l : List UInt8) (k : Nat) (hk : k < l.length) : (bv (seal_ l))[k]? = some (.int .u8 (l[k].toNat : Int)) := by
  unfold seal_
  rw [bv_append, List.getElem?_append_left (by rw [bv_length]; exact hk), bv_at l k hk]
def TrueBelow (w : World) (e : Ending) (w' : World) : Prop := e = .returned (.bool true) ∧ Below w.heap.size w w'
set_option maxHeartbeats 1600000 in
theorem one_walk (A : Option Addr) (l : List UInt8) (c k : Nat) (d : UInt8) (w : World) (hm : l.length ≤ 140737488351232) (hs : Sl w w.heap.size A (bv l)) (hc : l.length ≤ c) (hk : k < l.length) (hd : d ≠ 0) :
    Calls Try.prog 7 #[.slice A l.length c, .int .i64 k, .int .u8 d.toNat] w (TrueBelow w) := by
  have hd0 : ((d.toNat : Int) == 0) = false := by
    have : d.toNat ≠ 0 := fun h => hd (UInt8.toNat_inj.1 h)
    simp; omega
  have hne : sum (l.set k (l[k] ^^^ d)) ≠ sum l := sum_set l k hk _ (xor_other _ _ hd)
  have hs1 : ((sum (l.set k (l[k] ^^^ d)) : Int) != (sum l : Int)) = true := by simp; omega
  have hs2 : ((sum (l.set k (l[k] ^^^ d)) : Int) == (sum l : Int)) = false := by simp; omega
  have HO := Lib.hid (opened_set l k hk _ (xor_other l[k] d hd))
  clear hd hne
  go_enter Try.func7, Try.ntmps7
  go_wp2_with (first
    | (at_builtin
       refine wpList_append_sl _ rfl (.tmp 24) (.tmp 25) _ rfl w.heap.size 5 _ 1 Try.underlying34 byteE (.slice (some ⟨w.heap.size, 0, none⟩) 0 0) 0 [] rfl (World.ownsRow_lit w #[] 0 (Nat.le_refl _) (by unfold maxLen; omega) rfl) w.heap.size A l.length c (bv l) rfl (hs.alloc (Nat.le_refl _) _) (bv_length _) (bv_one _) (by omega) (by unfold maxLen; omega) (by simp) ?_
       intro v1 w1 hown1 hg1 hat1
       have hb1 : Below w.heap.size w w1 := ((Below.refl _ w).alloc (Nat.le_refl _) _).grown hg1 (by simp) (by simp [Value.ownBlock])
       simp only [Nat.zero_add, List.nil_append] at hown1
       obtain ⟨g, cap, rfl, hgl, hgs, hgc⟩ := own_form hown1 (by omega)
       have hcell1 := (hown1.cellAt k (by omega)).trans (bv_at l k hk)
       have hfz1 := hown1.frozenAt k))
  obtain ⟨V1, hV1⟩ : ∃ V1, V1 = w1.setCell ⟨g, k, none⟩ (.int .u8 (bits .xor .u8 (l[k].toNat : Int) (d.toNat : Int))) := ⟨_, rfl⟩
  have hownc : V1.ownsRow w.heap.size 5 1 (.slice (some ⟨g, 0, none⟩) l.length cap) l.length (bv (l.set k (l[k] ^^^ d))) := by
    have h := (hown1.stored k (.int .u8 (bits .xor .u8 (l[k].toNat : Int) (d.toNat : Int)))).1
    rw [set_eq, ← hV1] at h
    exact h
  have hbV : Below w.heap.size w V1 := by rw [hV1]; exact hb1.setCell hgl _
  have hzV : V1.heap.size = w1.heap.size := by rw [hV1]; simp
  rw [← hV1]
  rw [← hzV]
  have hbW : Below w.heap.size w (V1.alloc (.cells #[] 5)) := hbV.alloc hbV.size _
  have hown0 := World.ownsRow_lit (e := 5) (size := 1) V1 #[] 0 (Nat.le_refl V1.heap.size) (by unfold maxLen; omega) rfl
  have hsc := Sl.of_own hownc
  have hgV : g < V1.heap.size := by rw [hzV]; exact hgs
  clear hV1 hown1 hcell1 hfz1 hg1 hat1 hb1 hzV hgs
  refine (seal_len A l _ c _ rfl (by omega) (hs.on hbW)).mono ?_
  rintro e w2 ⟨A2, c2, rfl, hown2, hb2⟩
  have hb2' := hbW.trans (hb2.mono hbW.size)
  have hz2 : V1.heap.size + 1 ≤ w2.heap.size := by have := hb2.size; simpa using this
  have hown02 := own_below hown0 hb2 (Nat.le_refl _)
  have hsc2 := (hsc.alloc (Nat.le_refl _) (.cells #[] 5)).below (hb2.mono (by simp))
  clear hown0 hownc hsc
  go_wp2_with (first
    | (at_builtin
       refine wpList_append_sl _ rfl (.tmp 36) (.tmp 38) _ rfl V1.heap.size 5 _ 1 Try.underlying34 byteE (.slice (some ⟨V1.heap.size, 0, none⟩) 0 0) 0 [] rfl hown02 w2.heap.size A2 (l.length + 8) c2 (bv (seal_ l)) rfl (Sl.of_own hown2) ((bv_length _).trans (seal_length l)) (bv_one _) (by omega) (by unfold maxLen; omega) (by omega) ?_
       intro v3 w3 hown3 hg3 hat3
       have hb3 : Below w.heap.size w w3 := hb2'.grown hg3 hb2'.size (by simp [Value.ownBlock]; exact hbV.size)
       have hsc3 := hsc2.grown hg3 (by omega) (by simp [Value.ownBlock])
       simp only [Nat.zero_add, List.nil_append] at hown3
       obtain ⟨g3, cap3, rfl, hgl3, hgs3, hgc3⟩ := own_form hown3 (by omega)
       have hcell3 := (hown3.cellAt k (by omega)).trans (bv_at_seal l k hk)
       have hfz3 := hown3.frozenAt k))
  obtain ⟨V3, hV3⟩ : ∃ V3, V3 = w3.setCell ⟨g3, k, none⟩ (.int .u8 (bits .xor .u8 (l[k].toNat : Int) (d.toNat : Int))) := ⟨_, rfl⟩
  have hs3 : Sl V3 V3.heap.size (some ⟨g3, 0, none⟩) (bv ((seal_ l).set k (l[k] ^^^ d))) := by
    have h := (hown3.stored k (.int .u8 (bits .xor .u8 (l[k].toNat : Int) (d.toNat : Int)))).1
    rw [set_eq, ← hV3] at h
    exact Sl.of_own h
  have hbV3 : Below w.heap.size w V3 := by rw [hV3]; exact hb3.setCell (Nat.le_trans hbV.size hgl3) _
  have hscV := hsc3.setCell (p := ⟨g3, k, none⟩) hgl3 (.int .u8 (bits .xor .u8 (l[k].toNat : Int) (d.toNat : Int)))
  rw [← hV3] at hscV
  have hz3 : V1.heap.size ≤ V3.heap.size := by rw [hV3]; simp; omega
  rw [← hV3]
  clear hV3 hown3 hcell3 hfz3 hg3 hat3 hsc3
  refine (open_any _ ((seal_ l).set k (l[k] ^^^ d)) _ _ _ (by rw [List.length_set, seal_length]) (by omega) hs3 hgc3).mono ?_
  rw [HO.out]
  rintro e w4 ⟨A4, c4, rfl, hs4, hb4⟩
  have hb4' := hbV3.trans (hb4.mono hbV3.size)
  have hsc4 := hscV.below (hb4.mono hz3)
  go_wp2_with (first
    | ((with_reducible refine (of_any _ (l.set k (l[k] ^^^ d)) _ _ _ _ (List.length_set ..) (by omega) hsc4).mono ?_); rintro e w' ⟨rfl, rfl⟩)
    | ((with_reducible refine (of_any A l _ _ _ _ rfl (by omega) (hs.below hb4')).mono ?_); rintro e w' ⟨rfl, rfl⟩)
    | ((with_reducible refine (lives_any _).mono ?_); rintro e w5 ⟨rfl, hb5⟩))
  go_ret
  exact ⟨rfl, hb4'.trans (hb5.mono hb4'.size)⟩

set_option maxHeartbeats 800000 in
theorem one_low (A : Option Addr) (n c : Nat) (at_ d : Int) (w : World) (h : at_ < 0) : Calls Try.prog 7 #[.slice A n c, .int .i64 at_, .int .u8 d] w (TrueBelow w) := by
  go_enter Try.func7, Try.ntmps7
  go_wp2_with (go_at_call 27; refine (lives_any _).mono ?_; rintro e w5 ⟨rfl, hb5⟩)
  go_ret
  exact ⟨rfl, hb5⟩
set_option maxHeartbeats 800000 in
theorem one_high (A : Option Addr) (n c : Nat) (at_ d : Int) (w : World) (h0 : 0 ≤ at_) (h : (n : Int) ≤ at_) : Calls Try.prog 7 #[.slice A n c, .int .i64 at_, .int .u8 d] w (TrueBelow w) := by
  go_enter Try.func7, Try.ntmps7
  go_wp2_with (go_at_call 27; refine (lives_any _).mono ?_; rintro e w5 ⟨rfl, hb5⟩)
  go_ret
  exact ⟨rfl, hb5⟩
set_option maxHeartbeats 800000 in
theorem one_same (A : Option Addr) (n c k : Nat) (w : World) (h : k < n) : Calls Try.prog 7 #[.slice A n c, .int .i64 k, .int .u8 0] w (TrueBelow w) := by
  go_enter Try.func7, Try.ntmps7
  go_wp2_with (go_at_call 27; refine (lives_any _).mono ?_; rintro e w5 ⟨rfl, hb5⟩)
  go_ret
  exact ⟨rfl, hb5⟩

theorem more_sum (A : Option Addr) (a l : List UInt8) (n c B : Nat) (w : World) (hn : l.length = n) (hm : n ≤ 281474976710656) (hs : Sl w B A (bv l)) :
    Calls Try.prog 20 #[.int .u64 (sum a), .slice A n c] w fun e w' => e = .returned (.int .u64 (sum (a ++ l))) ∧ w = w' := by
  have h := more_any (sum a) (sum_u a) A l n c B w hn hm hs
  have e : more (sum a) l = sum (a ++ l) := by unfold sum; rw [more_append]
  rw [e] at h
  exact h
set_option maxHeartbeats 1600000 in
theorem goes_walk (A B : Option Addr) (a b : List UInt8) (c d : Nat) (w : World) (hm : a.length + b.length ≤ 140737488355000) (hs : Sl w w.heap.size A (bv a)) (ht : Sl w w.heap.size B (bv b)) :
    Calls Try.prog 6 #[.slice A a.length c, .slice B b.length d] w (TrueBelow w) := by
  have HL : Hid ((a ++ b).length = a.length + b.length) := Lib.hid (by simp)
  have HS := Lib.hid (seal_length (a ++ b))
  have HO : opened (seal_ (a ++ b)) = a ++ b := by unfold opened; rw [if_pos (opened_seal _), body_seal]
  have HO := Lib.hid HO
  have HB := Lib.hid (opened_seal (a ++ b))
  go_enter Try.func6, Try.ntmps6
  go_wp2_with (first
    | (at_builtin
       refine wpList_append_sl _ rfl (.tmp 8) (.tmp 9) _ rfl w.heap.size 5 _ 1 Try.underlying34 byteE (.slice (some ⟨w.heap.size, 0, none⟩) 0 0) 0 [] rfl (World.ownsRow_lit w #[] 0 (Nat.le_refl _) (by unfold maxLen; omega) rfl) w.heap.size A a.length c (bv a) rfl (hs.alloc (Nat.le_refl _) _) (bv_length _) (bv_one _) (by omega) (by unfold maxLen; omega) (by simp) ?_
       intro v1 w1 hown1 hg1 hat1
       have hb1 : Below w.heap.size w w1 := ((Below.refl _ w).alloc (Nat.le_refl _) _).grown hg1 (by simp) (by simp [Value.ownBlock])
       simp only [Nat.zero_add, List.nil_append] at hown1
       clear hg1 hat1)
    | (at_builtin
       refine wpList_append_sl _ rfl (.tmp 10) (.tmp 11) _ rfl w.heap.size 5 _ 1 Try.underlying34 byteE v1 a.length (bv a) rfl hown1 w.heap.size B b.length d (bv b) rfl (ht.below hb1) (bv_length _) (bv_one _) (by omega) (by unfold maxLen; omega) hb1.size ?_
       intro v2 w2 hown2 hg2 hat2
       have hb2 : Below w.heap.size w w2 := hb1.grown hg2 hb1.size (fun k hk => (hown1.lt k hk).1)
       rw [← bv_append] at hown2
       obtain ⟨A2, c2, rfl, hc2⟩ := own_slice hown2
       have hs2 := Sl.of_own hown2
       clear hg2 hat2 hown1 hown2)
    | (go_at_call 25; (with_reducible refine (seal_len A2 (a ++ b) _ c2 w2 HL.out (by omega) hs2).mono ?_); rintro e w3 ⟨A3, c3, rfl, hown3, hb3⟩
       have hc3 := own_cap hown3
       have hs3 := Sl.of_own hown3
       have hb3' := hb2.trans (hb3.mono hb2.size)
       have hs23 := hs2.on hb3
       clear hown3)
    | (go_at_call 18; (with_reducible refine (open_any A3 (seal_ (a ++ b)) _ c3 w3 (by rw [HS.out, HL.out]) (by omega) hs3 hc3).mono ?_); rw [HO.out, HB.out]; rintro e w4 ⟨A4, c4, rfl, hs4, hb4⟩
       have hb4' := hb3'.trans (hb4.mono hb3'.size)
       have hs24 := hs23.on hb4)
    | (go_at_call 22; (with_reducible refine (of_any A a _ c _ w4 rfl (by omega) (hs.below hb4')).mono ?_); rintro e w' ⟨rfl, rfl⟩)
    | (go_at_call 22; (with_reducible refine (of_any A2 (a ++ b) _ c2 _ w4 HL.out (by omega) hs24).mono ?_); rintro e w' ⟨rfl, rfl⟩)
    | (go_at_call 20; (with_reducible refine (more_sum B a b _ d _ w4 rfl (by omega) (ht.below hb4')).mono ?_); rintro e w' ⟨rfl, rfl⟩)
    | (go_at_call 24; (with_reducible refine (same_true A4 A2 (a ++ b) _ _ c4 c2 _ _ w4 HL.out HL.out (by omega) hs4 hs24).mono ?_); rintro e w' ⟨rfl, j, rfl⟩)
    | (go_at_call 27; (with_reducible refine (lives_any _).mono ?_); rintro e w5 ⟨rfl, hb5⟩))
  go_ret
  exact ⟨rfl, (below_drewN hb4' j).trans (hb5.mono hb4'.size)⟩
end Go.Proofs.Ytacbaeidlhoeaaa.check
