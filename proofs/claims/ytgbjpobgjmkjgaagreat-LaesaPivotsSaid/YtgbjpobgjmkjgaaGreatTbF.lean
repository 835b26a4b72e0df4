/-
  The contract of fars: how far a thing is from each pivot.
-/
import Derived.Test.YtgbjpobgjmkjgaaGreatTb
import Derived.Deep.LoopGhost
import Derived.Deep.RegionHeld3
import Derived.WalkSpells
import Derived.Lib.Hide
namespace Go.Proofs.YtgbjpobgjmkjgaaGreat.tab
open Go.RowKit Go.WideShapes law bytes only flat nums ord obj metric pv lae
open told (own_types blk_types)
set_option linter.unusedVariables false

theorem intK : ElemK Tryz.prog 3 1 8 := elemK_mk (z := .int .i64 0) (by kernel_rfl) rfl
theorem make_ints (n : Nat) (hn : n ≤ 8796093022208) (u : World) : ∃ Z : Array Value, Z.size = n * 1 ∧ (Instr.makeSlice 39 (.int .i64 0) (.int .i64 (n : Int))).run Tryz.prog u =
    .ok (.slice (some ⟨u.heap.size, 0, none⟩) 0 n) (u.alloc (.cells Z 3)) := by
  obtain ⟨i, z, hi, hz, hsz, hby, hzs⟩ := intK
  have h := run_make (P := Tryz.prog) u 39 3 i z Tryz.underlying39 hi hz .i64 .i64 0 (n : Int) (by omega) (by omega) (by rw [hby]; omega) (by omega)
  simp only [Int.toNat_zero, Int.toNat_natCast] at h
  exact ⟨_, by rw [size_madeCells, hsz], h⟩
theorem fs_take {n : Int} {P : List At} {x : Thing} {i : Nat} (h : i < P.length) : nv (fs n (P.take (i + 1)) x) = nv (fs n (P.take i) x) ++ [.int .i64 (M n P[i].x x)] := by
  rw [List.take_succ_eq_append_getElem h, fs_snoc, nv_snoc, M_symm]
/-- what fars leaves: a row of ints of the call's own; the meter asked once for each pivot -/
def Fars (w : World) (g : Nat) (n k : Int) (P : List At) (x : Thing) (e : Ending) (w' : World) : Prop :=
  ∃ A c, e = .returned (.slice A P.length c) ∧ w'.ownsRow w.heap.size 3 1 (.slice A P.length c) P.length (nv (fs n P x)) ∧ Only (· = g) w w' ∧ Mt w' g n (k + P.length)
section
variable {w w' : World} {base tb g mb : Nat} {n k most : Int} {T S : Nat → Prop} {vP vR : Value} {P : List At} {R : List Ro} {r : Ro}
set_option maxRecDepth 100000 in
set_option maxHeartbeats 3200000 in
theorem fars_any (h : Tx w base tb g mb n k most T vP vR P R) (x : At) (hx : Small x.x) (hs : Sl w w.heap.size x.a (iv x.x.vec)) (hk : 0 ≤ k ∧ k + (P.length : Int) < 9223372036854775807) (hP : P.length ≤ 1048576) :
    Calls Tryz.prog 92 #[.pointer (some ⟨tb, 0, none⟩), oW x] w (Fars w g n k P x.x) := by
  unfold oW
  obtain ⟨A0, c0, rfl, hc0, hts⟩ := h.ts
  have hbs : ∀ p ∈ P, Small p.x := fun p hp => (h.bP p hp).small
  obtain ⟨t0, -, t2, -, -, -⟩ := h.cells
  have htg := h.tbg
  have htl := (h.low _ h.tt).2
  have hgl := h.mt.lt
  obtain ⟨V, hV⟩ : ∃ V, V = w.alloc (.cells #[.int .i64 x.x.tag, .slice x.a x.x.vec.length x.c, .string x.x.str] 35) := ⟨_, rfl⟩
  have hbV : Below w.heap.size w V := by rw [hV]; exact (Below.refl _ _).alloc (Nat.le_refl _) _
  have hkx : Blk V w.heap.size 35 #[.int .i64 x.x.tag, .slice x.a x.x.vec.length x.c, .string x.x.str] := by rw [hV]; exact Blk.new w _ _
  have hz : V.heap.size = w.heap.size + 1 := by rw [hV]; simp
  obtain ⟨Z, hZ, hmk⟩ := make_ints P.length (by omega) V
  obtain ⟨U, hU⟩ : ∃ U, U = V.alloc (.cells Z 3) := ⟨_, rfl⟩
  have hbU : Below V.heap.size V U := by rw [hU]; exact (Below.refl _ _).alloc (Nat.le_refl _) _
  have hoU : U.ownsRow (w.heap.size + 1) 3 1 (.slice (some ⟨w.heap.size + 1, 0, none⟩) 0 P.length) 0 (nv (fs n (P.take 0) x.x)) := by
    rw [hU, ← hz]; exact World.ownsRow_made V Z _ (by omega) (by unfold maxLen; omega) hZ
  have hbwU : Below w.heap.size w U := hbV.trans (hbU.mono (by omega))
  have hzU : w.heap.size + 1 ≤ U.heap.size := by rw [hU]; simp; omega
  have e2 : V.cell? ⟨tb, 2, none⟩ = some (.slice A0 P.length c0) := (hbV.cell (p := ⟨tb, 2, none⟩) htl).trans t2
  have e2U : U.cell? ⟨tb, 2, none⟩ = some (.slice A0 P.length c0) := (hbwU.cell (p := ⟨tb, 2, none⟩) htl).trans t2
  -- what is kept all the way
  have HKP : Hid (∀ W, Only (· = g) w W → Ts W (· = g) A0 P ∧ Sl W W.heap.size x.a (iv x.x.vec) ∧ W.cell? ⟨tb, 0, none⟩ = some (.pointer (some ⟨g, 0, none⟩))) := Lib.hid fun W hW => by
    have hgW : w.grownBy W (some g) := ⟨hW.os, hW.tape, hW.output, hW.size, fun i hi hne => hW.block i hi fun e => hne (by rw [e])⟩
    exact ⟨hts.only hW, h.mt.past hs hgW, (World.cell?_of_block (a := ⟨tb, 0, none⟩) (hW.block tb htl htg)).trans t0⟩
  have HM : Hid (Mt U g n (k + (0 : Nat)) ∧ Blk U w.heap.size 35 #[.int .i64 x.x.tag, .slice x.a x.x.vec.length x.c, .string x.x.str] ∧ Only (· = g) w U) := Lib.hid ⟨by simpa using h.mt.below hbwU hgl, hkx.below hbU (by omega), Only.of_below hbwU (Nat.le_refl _) _⟩
  have HGL : Hid (g < w.heap.size ∧ tb < w.heap.size ∧ tb ≠ g) := Lib.hid ⟨hgl, htl, htg⟩
  have HOU := Lib.hid hoU
  have HB := Lib.hid hbs
  have HX := Lib.hid hx
  have HK := Lib.hid hk
  have HV := Lib.hid hV
  have HU := Lib.hid hU
  rw [hV] at e2 hmk
  have HMK := Lib.hid hmk
  have hl63 : (P.length : Int) < 9223372036854775807 := by omega
  clear h hts hbs hoU hbU hbV hkx hZ hx hs hk hV hU hmk t0 htg htl hgl hbwU
  go_enter Tryz.func92, Tryz.ntmps92
  have hmk := HMK.out
  have HZ := Lib.hid (And.intro hz (And.intro hzU hc0))
  rw [HU.out, HV.out] at e2U
  clear hz hzU t2 hc0
  go_wp2_with (fail)
  rw [← HV.out, ← HU.out]
  clear hmk HMK HV HU e2 e2U
  go_loopg [5, 19] P.length (fun gk s5 s19 wr => ∃ (i c : Nat) (A : Option Addr), gk = P.length - i ∧ i ≤ P.length ∧ s5 = .slice A i c ∧ s19 = .int .i64 i ∧ wr.ownsRow (w.heap.size + 1) 3 1 (.slice A i c) i (nv (fs n (P.take i) x.x)) ∧ Only (· = g) w wr ∧ Mt wr g n (k + (i : Nat)) ∧
    Blk wr w.heap.size 35 #[.int .i64 x.x.tag, .slice x.a x.x.vec.length x.c, .string x.x.str])
  case atStart => exact ⟨0, _, _, rfl, Nat.zero_le _, rfl, rfl, HOU.out, HM.out.2.2, HM.out.1, HM.out.2.1⟩
  case round =>
    clear HOU HM
    obtain ⟨i, c, A, rfl, hi, rfl, rfl, hown, ho, hm, hkx⟩ := hrel
    by_cases hlt : i < P.length
    · obtain ⟨kts, ksl, kc⟩ := HKP.out wr ho
      obtain ⟨bb, oo, rfl, hbb, hnT, hcells⟩ := kts.place (by omega)
      obtain ⟨d0, d1, d2⟩ := hcells i hlt
      have s1 := (kts.vec _ (List.getElem_mem hlt)).sl
      have z1 := HB.out _ (List.getElem_mem hlt)
      have hft := fs_take (n := n) (x := x.x) hlt
      have hw1 := ho.size
      have hxl := hkx.lt
      have i1 : (i : Int) < (P.length : Int) := by omega
      generalize P[i] = y at d0 d1 d2 s1 z1 hft
      obtain ⟨Y, hY⟩ : ∃ Y, Y = wr.alloc (.cells #[.int .i64 y.x.tag, .slice y.a y.x.vec.length y.c, .string y.x.str] 35) := ⟨_, rfl⟩
      have hbY : Below wr.heap.size wr Y := by rw [hY]; exact (Below.refl _ _).alloc (Nat.le_refl _) _
      have hky : Blk Y wr.heap.size 35 #[.int .i64 y.x.tag, .slice y.a y.x.vec.length y.c, .string y.x.str] := by rw [hY]; exact Blk.new wr _ _
      have hzY : Y.heap.size = wr.heap.size + 1 := by rw [hY]; simp
      obtain ⟨Q, hQ⟩ : ∃ Q : Nat → Prop, Q = fun j => j = g ∨ (Value.slice A i c).ownBlock = some j := ⟨_, rfl⟩
      have HQ : Hid ((∀ j, (Value.slice A i c).ownBlock = some j → Q j) ∧ ∀ j, Q j → j = g ∨ w.heap.size + 1 ≤ j ∧ j < wr.heap.size) := Lib.hid (by
        subst hQ
        exact ⟨fun j e => .inr e, fun j e => e.imp id fun e => own_lt hown e⟩)
      have HSS : Hid (∀ W, Only Q Y W → W.cell? ⟨tb, 0, none⟩ = some (.pointer (some ⟨g, 0, none⟩)) ∧ W.cell? ⟨wr.heap.size, 0, none⟩ = some (.int .i64 y.x.tag) ∧ W.cell? ⟨wr.heap.size, 1, none⟩ = some (.slice y.a y.x.vec.length y.c) ∧ W.cell? ⟨wr.heap.size, 2, none⟩ = some (.string y.x.str) ∧
          W.cell? ⟨w.heap.size, 0, none⟩ = some (.int .i64 x.x.tag) ∧ W.cell? ⟨w.heap.size, 1, none⟩ = some (.slice x.a x.x.vec.length x.c) ∧ W.cell? ⟨w.heap.size, 2, none⟩ = some (.string x.x.str)) := Lib.hid fun W hW => by
        obtain ⟨hg1, hg2, hg3⟩ := HGL.out
        have b1 := Blk.only hky hW fun e => by have := HQ.out.2 _ e; omega
        have b2 := Blk.only (hkx.below hbY hxl) hW fun e => by have := HQ.out.2 _ e; omega
        exact ⟨(HKP.out W ((ho.on hbY).trans hW fun i e => (HQ.out.2 i e).imp id fun e => by omega)).2.2, b1.cell 0, b1.cell 1, b1.cell 2, b2.cell 0, b2.cell 1, b2.cell 2⟩
      have HD : Hid (∀ W, Below Y.heap.size Y W → Calls Tryz.prog 69 #[.pointer (some ⟨g, 0, none⟩), .agg #[.int .i64 y.x.tag, .slice y.a y.x.vec.length y.c, .string y.x.str], .agg #[.int .i64 x.x.tag, .slice x.a x.x.vec.length x.c, .string x.x.str]] W fun e w2 => e = .returned (.int .i64 (M n y.x x.x)) ∧
          Only Q Y w2 ∧ w2.ownsRow (w.heap.size + 1) 3 1 (.slice A i c) i (nv (fs n (P.take i) x.x)) ∧ w.heap.size + 1 ≤ w2.heap.size ∧ Hid (Only (· = g) w w2 ∧ Mt w2 g n (k + ((i + 1 : Nat) : Int)) ∧ Blk w2 w.heap.size 35 #[.int .i64 x.x.tag, .slice x.a x.x.vec.length x.c, .string x.x.str])) := Lib.hid fun W hW => by
        obtain ⟨hg1, hg2, hg3⟩ := HGL.out
        have hbW : Below wr.heap.size wr W := hbY.trans (hW.mono (by omega))
        have hkb := HK.out
        refine (cdist_any y.a x.a y.c x.c y.x x.x z1 HX.out W ((s1.below hbW).more hbW.size) ((ksl.below hbW).more hbW.size) (hm.below hbW hm.lt) (by omega)).mono fun e w2 ⟨he, hgr, hm2⟩ => ?_
        have hg : Only (· = g) W w2 := Only.of_grown hgr fun j e => .inl (by injection e with e; exact e.symm)
        have hon := own_only (own_below hown hbW (Nat.le_refl _)) hg fun j e e2 => by have := (own_lt hown e).1; omega
        refine ⟨he, (Only.of_below hW (Nat.le_refl _) _).trans hg fun i e => .inl (by subst hQ; exact .inl e), hon, by have := hg.size; have := hbW.size; omega, Lib.hid ⟨(ho.on hbW).trans hg fun i e => .inl e, ?_, Blk.only (hkx.below hbW hxl) hg (by omega)⟩⟩
        have e : k + (i : Int) + 1 = k + ((i + 1 : Nat) : Int) := by push_cast; omega
        rw [e] at hm2
        exact hm2
      have HY := Lib.hid hY
      have HFT := Lib.hid hft
      have HLT := Lib.hid (And.intro hlt hP)
      clear hcells kts ksl kc s1 z1 hft hown ho hm hkx hbY hky hzY hY hbb hnT hw1 hxl
      generalize M n y.x x.x = d at HD HFT
      go_wp2_with (fail)
      rw [← HY.out]
      clear HY d0 d1 d2
      obtain ⟨q0, q1, q2, q3, q4, q5, q6⟩ := HSS.out Y (Only.refl _ _)
      clear hQ
      obtain ⟨z, hz⟩ : ∃ z, z = wr.heap.size := ⟨_, rfl⟩
      rw [← hz] at HSS q1 q2 q3 ⊢
      clear hz
      go_region_held3 (fun W => W.cell? ⟨tb, 0, none⟩ = some (.pointer (some ⟨g, 0, none⟩)) ∧ W.cell? ⟨z, 0, none⟩ = some (.int .i64 y.x.tag) ∧ W.cell? ⟨z, 1, none⟩ = some (.slice y.a y.x.vec.length y.c) ∧ W.cell? ⟨z, 2, none⟩ = some (.string y.x.str) ∧
          W.cell? ⟨w.heap.size, 0, none⟩ = some (.int .i64 x.x.tag) ∧ W.cell? ⟨w.heap.size, 1, none⟩ = some (.slice x.a x.x.vec.length x.c) ∧ W.cell? ⟨w.heap.size, 2, none⟩ = some (.string x.x.str))
        ((first | (with_reducible assumption) | (refine HSS.out _ ?_; repeat' (first | (with_reducible assumption) | (with_reducible exact Only.refl _ _) | (with_reducible refine Only.drew ?_) | (with_reducible refine Only.drewN ?_ _) | (with_reducible refine Only.alloc ?_ _)))))
        (first
          | (go_at_call 69; (with_reducible refine (HD.out _ (by repeat' (first | (with_reducible exact Below.refl _ _) | (with_reducible assumption) | (with_reducible refine Below.drew ?_) | (with_reducible refine below_drewN' ?_ _)))).mono ?_); rintro e w2 ⟨rfl, hO2, hown2, hsz2, hX2⟩)
          | (refine step_append_slk _ (by rfl) _ _ _ (by rfl) (w.heap.size + 1) 3 1 8 Tryz.underlying39 intK (by omega) (.slice A i c) i (nv (fs n (P.take i) x.x)) (by rfl) (World.ownsRow.alloc (w := w2.drew) hown2 _) _ _ 1 1 [.int .i64 d] (by rfl) (Sl.lit w2.drew _ _) rfl (by simp [Value.oneCell']) (by obtain ⟨h1, h2⟩ := HLT.out; omega) (by obtain ⟨h1, h2⟩ := HLT.out; unfold maxLen; omega) (by simp; omega) ?_; intro v4 w4 hown4 hg4 hat4; have hO4 : Only Q Y w4 := (hO2.drew.alloc _).trans (Only.of_grown hg4 fun j e => .inl (HQ.out.1 j e)) fun j e => .inl e; have hO5 : Only (fun j => (Value.slice A i c).ownBlock = some j) w2 w4 := ((Only.refl _ w2).drew.alloc _).trans (Only.of_grown hg4 fun j e => .inl e) fun j e => .inl e)
          | (refine step_append_slk _ (by rfl) _ _ _ (by rfl) (w.heap.size + 1) 3 1 8 Tryz.underlying39 intK (by omega) (.slice A i c) i (nv (fs n (P.take i) x.x)) (by rfl) (World.ownsRow.alloc (w := w2) hown2 _) _ _ 1 1 [.int .i64 d] (by rfl) (Sl.lit w2 _ _) rfl (by simp [Value.oneCell']) (by obtain ⟨h1, h2⟩ := HLT.out; omega) (by obtain ⟨h1, h2⟩ := HLT.out; unfold maxLen; omega) (by simp; omega) ?_; intro v4 w4 hown4 hg4 hat4; have hO4 : Only Q Y w4 := (hO2.alloc _).trans (Only.of_grown hg4 fun j e => .inl (HQ.out.1 j e)) fun j e => .inl e; have hO5 : Only (fun j => (Value.slice A i c).ownBlock = some j) w2 w4 := ((Only.refl _ w2).alloc _).trans (Only.of_grown hg4 fun j e => .inl e) fun j e => .inl e))
      all_goals
        obtain ⟨A4, c4, rfl, hc4⟩ := own_slice hown4
        have HN : Hid (w4.ownsRow (w.heap.size + 1) 3 1 (.slice A4 (i + 1) c4) (i + 1) (nv (fs n (P.take (i + 1)) x.x)) ∧ Only (· = g) w w4 ∧ Mt w4 g n (k + ((i + 1 : Nat) : Int)) ∧ Blk w4 w.heap.size 35 #[.int .i64 x.x.tag, .slice x.a x.x.vec.length x.c, .string x.x.str]) := Lib.hid (by
          obtain ⟨x1, x2, x3⟩ := hX2.out
          obtain ⟨hg1, hg2, hg3⟩ := HGL.out
          have hlo : ∀ j, (Value.slice A i c).ownBlock = some j → w.heap.size + 1 ≤ j := fun j e => (own_lt hown2 e).1
          refine ⟨by rw [HFT.out]; exact hown4, x1.trans hO5 fun j e => .inr (by have := hlo j e; omega), Blk.only x2 hO5 fun e => by have := hlo _ e; omega, Blk.only x3 hO5 fun e => by have := hlo _ e; omega⟩)
        clear hown4 hg4 hat4 hO4 hO5 hown2 hO2 hX2 hsz2 HSS HD HQ q0 q1 q2 q3 q4 q5 q6
        go_wp2_with (fail)
        go_roundg (P.length - (i + 1))
        case measure => omega
        case rel => exact ⟨i + 1, c4, A4, rfl, by omega, rfl, by go_num, HN.out.1, HN.out.2.1, HN.out.2.2.1, HN.out.2.2.2⟩
    · obtain rfl : i = P.length := by omega
      have i1 : ¬ (P.length : Int) < (P.length : Int) := by omega
      rw [List.take_length] at hown
      have HE : Hid (Fars w g n k P x.x (.returned (.slice A P.length c)) wr) := Lib.hid ⟨A, c, rfl, pv.own_base hown (Nat.le_succ _), ho, hm⟩
      clear hown ho hm hkx
      go_wp2_with (fail)
      go_ret
      exact HE.out
end
end Go.Proofs.YtgbjpobgjmkjgaaGreat.tab
