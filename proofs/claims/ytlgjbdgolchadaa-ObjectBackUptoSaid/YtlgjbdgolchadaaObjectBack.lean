/-
  For all things and sizes that are together of bulk at most 1048576 the law ObjectBack returns true, and changes nothing that there was.
-/
import Derived.Test.YtlgjbdgolchadaaObjectCodes
namespace Go.Proofs.Ytlgjbdgolchadaa.objectBack
open Go.RowKit law bytes nums ord obj code same objectCodes
open Go.ChangeShapes Go.WideShapes Go.ChangeAt
set_option linter.unusedVariables false

/-- a thing was read, and it was x -/
def Gotten (V : World) (g : Nat) (x : Thing) (s : St) (e : Ending) (w' : World) : Prop :=
  ∃ A c, e = .returned (.agg #[.int .i64 x.tag, .slice A x.vec.length c, .string x.str]) ∧ V.grownBy w' (some g) ∧ Rd w' g s ∧ Sl w' w'.heap.size A (iv x.vec)
theorem got_on {V W : World} {g : Nat} {s : St} (hb : V.grownBy W (some g)) {args : Array Value} {P : Program} {f : FuncId} {x : Thing} {s' : St} (he : getO s = (x, s')) (h : Calls P f args W (GotO g s W)) : Calls P f args W (Gotten V g x s') :=
  h.mono fun e w' ⟨A, c, h1, h2, h3, h4⟩ => by
    rw [he] at h1 h3 h4
    exact ⟨A, c, h1, only_trans hb h2, h3, h4⟩
theorem gives_on {P : Program} {f : FuncId} {args : Array Value} {V W : World} {g : Nat} {v : Value} (hb : V.grownBy W (some g)) (h : Calls P f args W (Gives v W)) : Calls P f args W fun e w' => e = .returned v ∧ Below W.heap.size W w' ∧ V.grownBy w' (some g) :=
  h.mono fun e w' ⟨he, h2⟩ => ⟨he, h2, only_trans hb (only_of_below h2)⟩
theorem only_drew' {a w : World} {row : Option Nat} (h : a.grownBy w row) : a.grownBy w.drew row := ⟨h.os, h.tape, h.output, h.size, h.block⟩
/-- what the law has made ahead of its tests -/
def Made2 (w V : World) (gr : Nat) (x y : Thing) (A0 A1 : Option Addr) (k0 k1 : Nat) : Prop :=
  Blk V w.heap.size 24 #[.int .i64 x.tag, .slice A0 x.vec.length k0, .string x.str] ∧ Blk V (w.heap.size + 1) 24 #[.int .i64 y.tag, .slice A1 y.vec.length k1, .string y.str] ∧ Rd V gr ⟨encO x ++ encO y, 0⟩ ∧ w.heap.size + 1 < gr ∧ Below w.heap.size w V
set_option maxHeartbeats 3000000 in
set_option maxRecDepth 100000 in
theorem goTT (A0 A1 : Option Addr) (k0 k1 : Nat) (x y : Thing) (z : Int) (w : World) (hx : Okay x) (hy : Okay y) (hsm : x.vec.length + x.str.size + y.vec.length + y.str.size + 4 ≤ 1048576) (s0 : Sl w w.heap.size A0 (iv x.vec)) (s1 : Sl w w.heap.size A1 (iv y.vec)) (qx1 : rightO x 1 (x.vec.length : Int) = true) (qy1 : rightO y 1 (y.vec.length : Int) = true) :
    Calls Try.prog 6 #[.agg #[.int .i64 x.tag, .slice A0 x.vec.length k0, .string x.str], .agg #[.int .i64 y.tag, .slice A1 y.vec.length k1, .string y.str], .int .i64 z] w fun e w' => e = .returned (.bool true) ∧ Below w.heap.size w w' := by
  have HX1 : Hid (∀ W, Calls Try.prog 8 #[.agg #[.int .i64 x.tag, .slice A0 x.vec.length k0, .string x.str], .int .i64 1, .int .i64 (x.vec.length : Int)] W (Gives (.bool true) W)) := Lib.hid fun W => by
    have h := rright_any A0 k0 x 1 (x.vec.length : Int) W
    rwa [qx1] at h
  have HY1 : Hid (∀ W, Calls Try.prog 8 #[.agg #[.int .i64 y.tag, .slice A1 y.vec.length k1, .string y.str], .int .i64 1, .int .i64 (y.vec.length : Int)] W (Gives (.bool true) W)) := Lib.hid fun W => by
    have h := rright_any A1 k1 y 1 (y.vec.length : Int) W
    rwa [qy1] at h
  have hG1 := get_enc hx (right_whole (s := z) (.inl qx1)) (encO y)
  have hG2 := get_enc hy (right_whole (s := z) (.inl qy1)) []
  rw [List.append_nil] at hG2
  have HE1 := Lib.hid hG1
  have HE2 := Lib.hid hG2
  clear hG1 hG2
  clear qx1
  clear qy1
  have hlx := encO_len hx (by omega) (by omega)
  have hly := encO_len hy (by omega) (by omega)
  have hlxy : (encO x ++ encO y).length = (encO x).length + (encO y).length := List.length_append
  obtain ⟨hb0, hbx, hby⟩ := two_box w 24 #[.int .i64 x.tag, .slice A0 x.vec.length k0, .string x.str] #[.int .i64 y.tag, .slice A1 y.vec.length k1, .string y.str]
  obtain ⟨V0, hV0⟩ : ∃ V, V = ((w.alloc (.cells #[.int .i64 x.tag, .slice A0 x.vec.length k0, .string x.str] 24)).alloc (.cells #[.int .i64 y.tag, .slice A1 y.vec.length k1, .string y.str] 24)) := ⟨_, rfl⟩
  rw [← hV0] at hb0 hbx hby
  have HNEW := Lib.hid (new_any V0)
  have HX := Lib.hid hx
  have HY := Lib.hid hy
  go_enter Try.func6, Try.ntmps6
  go_wp2_with (fail)
  rw [← hV0]
  clear hV0
  refine HNEW.out.mono ?_
  rintro e w1 ⟨rfl, hb1, hw1⟩
  have hz0 := hb0.size
  have hgx : w.heap.size + 1 < V0.heap.size := hby.lt
  have hx1 := hbx.below hb1 hbx.lt
  have hy1 := hby.below hb1 hby.lt
  have hB1 := hb0.trans (hb1.mono hz0)
  obtain ⟨gw, hgw⟩ : ∃ g, g = V0.heap.size := ⟨_, rfl⟩
  rw [← hgw] at hw1 hz0 hb1 hgx ⊢
  have HPUT := Lib.hid (put_any gw A0 k0 w.heap.size x [] w1 hw1 hz0 (s0.below hB1) HX.out (by omega) (by omega) (by simp))
  obtain ⟨c0, c1, c2, cf⟩ := cells3 hx1
  clear HNEW hgw hw1 hb0 hbx hby
  go_wp2_with (fail)
  refine HPUT.out.mono ?_
  rintro e w2 ⟨rfl, hb2, hw2⟩
  rw [List.nil_append] at hw2
  have hx2 := hx1.below hb2 (by omega)
  have hy2 := hy1.below hb2 hgx
  have hB2 := hB1.trans (hb2.mono hz0)
  have HPUT2 := Lib.hid (put_any gw A1 k1 w.heap.size y (encO x) w2 hw2 hz0 (s1.below hB2) HY.out (by omega) (by omega) (by omega))
  obtain ⟨c0, c1, c2, cf⟩ := cells3 hy2
  clear HPUT hB1 hx1 hy1 hb2 hb1 hw2
  go_wp2_with (fail)
  refine HPUT2.out.mono ?_
  rintro e w3 ⟨rfl, hb3, hw3⟩
  have hx3 := hx2.below hb3 (by omega)
  have hy3 := hy2.below hb3 hgx
  have hB3 := hB2.trans (hb3.mono hz0)
  have HBY := Lib.hid (bytes_any gw _ w3 hw3 (by omega))
  clear HPUT2 hB2 hx2 hy2 hb3
  go_wp2_with (fail)
  refine HBY.out.mono ?_
  rintro e w4 ⟨B4, l4, rfl, hl4, hs4, hb4⟩
  have hx4 := hx3.below hb4 hx3.lt
  have hy4 := hy3.below hb4 hy3.lt
  have hB4 := hB3.trans (hb4.mono hB3.size)
  have hz4 : gw < w4.heap.size := Nat.lt_of_lt_of_le hw3.choose_spec.1.lt hb4.size
  have HNR := Lib.hid (newr_any B4 (encO x ++ encO y) ((encO x).length + (encO y).length) l4 w4.heap.size w4 hlxy (by omega) (Nat.le_refl _) hs4)
  clear HBY hB3 hx3 hy3 hb4 hw3 hs4
  go_wp2_with (fail)
  refine HNR.out.mono ?_
  rintro e w5 ⟨gr, rfl, hgr, hr5, hb5⟩
  have hx5 := hx4.below hb5 hx4.lt
  have hy5 := hy4.below hb5 hy4.lt
  have hB5 := hB4.trans (hb5.mono hB4.size)
  have hg1 : w.heap.size + 1 < gr := by omega
  have hM : Made2 w w5 gr x y A0 A1 k0 k1 := ⟨hx5, hy5, hr5, hg1, hB5⟩
  clear HNR hB4 hx4 hy4 hb5 hgr hz4 hgx hz0 c0 c1 c2 cf
  obtain ⟨hx5, hy5, hr5, hg1, hB5⟩ := hM
  have HXB : Hid (∀ W, Below w5.heap.size w5 W → Blk W w.heap.size 24 #[.int .i64 x.tag, .slice A0 x.vec.length k0, .string x.str]) := Lib.hid fun W hW => hx5.below hW hx5.lt
  have HYB : Hid (∀ W, Below w5.heap.size w5 W → Blk W (w.heap.size + 1) 24 #[.int .i64 y.tag, .slice A1 y.vec.length k1, .string y.str]) := Lib.hid fun W hW => hy5.below hW hy5.lt
  have HRB : Hid (∀ W, Below w5.heap.size w5 W → Rd W gr ⟨encO x ++ encO y, 0⟩) := Lib.hid fun W hW => hr5.below hW hr5.lt
  have HB5 := Lib.hid hB5
  obtain ⟨c0, c1, c2, cf⟩ := cells3 hx5
  clear hx5 hy5 hr5 hB5
  go_wp2_with (fail)
  refine (on (Below.refl _ _) (HX1.out _)).mono ?_
  rintro e t1 ⟨rfl, tb1⟩
  obtain ⟨c0, c1, c2, cf⟩ := cells3 (HXB.out _ tb1)
  obtain ⟨d0, d1, d2, df⟩ := cells3 (HYB.out _ tb1)
  go_wp2_with (fail)
  refine (on tb1 (HY1.out _)).mono ?_
  rintro e t2 ⟨rfl, tb2⟩
  obtain ⟨c0, c1, c2, cf⟩ := cells3 (HXB.out _ tb2)
  obtain ⟨d0, d1, d2, df⟩ := cells3 (HYB.out _ tb2)
  have hVb := HB5.out.trans (tb2.mono HB5.out.size)
  have hVx := HXB.out _ tb2
  have hVy := HYB.out _ tb2
  have hVr := HRB.out _ tb2
  go_wp2_with (fail)
  generalize t2 = V at *
  have HVB : Hid (∀ W, V.grownBy W (some gr) → Below w.heap.size w W) := Lib.hid fun W hW => hVb.grown hW hVb.size (fun j hj => by injection hj; omega)
  have HG1 : Hid (∀ W, V.grownBy W (some gr) → Rd W gr ⟨encO x ++ encO y, 0⟩ → Calls Try.prog 18 #[.pointer (some ⟨gr, 0, none⟩)] W (Gotten V gr x ⟨encO y, 0⟩)) := Lib.hid fun W hW hr => got_on hW HE1.out (get_any hr (fun h => absurd rfl h) (by simp only; omega))
  have HG2 : Hid (∀ W, V.grownBy W (some gr) → Rd W gr ⟨encO y, 0⟩ → Calls Try.prog 18 #[.pointer (some ⟨gr, 0, none⟩)] W (Gotten V gr y ⟨[], 0⟩)) := Lib.hid fun W hW hr => got_on hW HE2.out (get_any hr (fun h => absurd rfl h) (by simp only; omega))
  have HSX : Hid (∀ W A c, V.grownBy W (some gr) → Sl W W.heap.size A (iv x.vec) → Calls Try.prog 24 #[.agg #[.int .i64 x.tag, .slice A x.vec.length c, .string x.str], .agg #[.int .i64 x.tag, .slice A0 x.vec.length k0, .string x.str]] W (Gives (.bool true) W)) := Lib.hid fun W A c hW hs => by
    have h := rsame_any A A0 c k0 W.heap.size w.heap.size x x W (by omega) (by omega) (Nat.le_refl _) (HVB.out W hW).size hs (s0.below (HVB.out W hW))
    rwa [sameO_rfl] at h
  have HSY : Hid (∀ W A c, V.grownBy W (some gr) → Sl W W.heap.size A (iv y.vec) → Calls Try.prog 24 #[.agg #[.int .i64 y.tag, .slice A y.vec.length c, .string y.str], .agg #[.int .i64 y.tag, .slice A1 y.vec.length k1, .string y.str]] W (Gives (.bool true) W)) := Lib.hid fun W A c hW hs => by
    have h := rsame_any A A1 c k1 W.heap.size w.heap.size y y W (by omega) (by omega) (Nat.le_refl _) (HVB.out W hW).size hs (s1.below (HVB.out W hW))
    rwa [sameO_rfl] at h
  have HEND : Hid (∀ W, Rd W gr ⟨[], 0⟩ → Calls Try.prog 26 #[.pointer (some ⟨gr, 0, none⟩)] W fun e w' => e = .returned (.int .i64 0) ∧ W = w') := Lib.hid fun W hr => by
    have h := end_any gr ⟨[], 0⟩ W hr (by simp)
    rwa [show endP ⟨[], 0⟩ = 0 from rfl] at h
  have hS : ∀ w' : World, V.grownBy w' (some gr) → (w'.cell? ⟨w.heap.size, 0, none⟩ = some (.int .i64 x.tag) ∧ w'.cell? ⟨w.heap.size, 1, none⟩ = some (.slice A0 x.vec.length k0) ∧ w'.cell? ⟨w.heap.size, 2, none⟩ = some (.string x.str) ∧
      w'.cell? ⟨w.heap.size + 1, 0, none⟩ = some (.int .i64 y.tag) ∧ w'.cell? ⟨w.heap.size + 1, 1, none⟩ = some (.slice A1 y.vec.length k1) ∧ w'.cell? ⟨w.heap.size + 1, 2, none⟩ = some (.string y.str)) := fun w' h => by
    obtain ⟨r0, r1, r2, -⟩ := cells3 (gro hVx h (by omega))
    obtain ⟨l0, l1, l2, -⟩ := cells3 (gro hVy h (by omega))
    exact ⟨r0, r1, r2, l0, l1, l2⟩
  have HS := Lib.hid hS
  have hg0 : V.grownBy V (some gr) := only_refl V _
  have hg0d : V.grownBy V.drew (some gr) := only_drew' hg0
  have hr0d : Rd V.drew gr ⟨encO x ++ encO y, 0⟩ := hVr
  clear hS hVb hVx hVy hVr HXB HYB HRB HB5 HE1 HE2 HX1 HY1
  generalize w.heap.size = g0 at HS c0 c1 c2 cf d0 d1 d2 df ⊢
  go_region_held3 (fun w' => w'.cell? ⟨g0, 0, none⟩ = some (.int .i64 x.tag) ∧ w'.cell? ⟨g0, 1, none⟩ = some (.slice A0 x.vec.length k0) ∧ w'.cell? ⟨g0, 2, none⟩ = some (.string x.str) ∧
      w'.cell? ⟨g0 + 1, 0, none⟩ = some (.int .i64 y.tag) ∧ w'.cell? ⟨g0 + 1, 1, none⟩ = some (.slice A1 y.vec.length k1) ∧ w'.cell? ⟨g0 + 1, 2, none⟩ = some (.string y.str))
    ((refine HS.out _ ?_; with_reducible assumption))
    (first
      | (go_at_call 18; (with_reducible refine (HG1.out _ (by with_reducible assumption) (by with_reducible assumption)).mono ?_); rintro e u1 ⟨C1, m1, rfl, hg1', hr1, sl1⟩)
      | (go_at_call 18; (with_reducible refine (HG2.out _ (by with_reducible assumption) (by with_reducible assumption)).mono ?_); rintro e u3 ⟨C3, m3, rfl, hg3', hr3, sl3⟩)
      | (go_at_call 24; (with_reducible refine (gives_on (by with_reducible assumption) (HSX.out _ _ _ (by with_reducible assumption) sl1)).mono ?_); rintro e u2 ⟨rfl, rb2, hg2'⟩; have hr2 := Rd.below' hr1 rb2)
      | (go_at_call 24; (with_reducible refine (gives_on (by with_reducible assumption) (HSY.out _ _ _ (by with_reducible assumption) sl3)).mono ?_); rintro e u4 ⟨rfl, rb4, hg4'⟩; have hr4 := Rd.below' hr3 rb4)
      | (go_at_call 26; (with_reducible refine (HEND.out _ hr4).mono ?_); rintro e u5 ⟨rfl, rfl⟩)
      | (go_at_call 10; (with_reducible refine (gives_on (by with_reducible assumption) (lives_any _)).mono ?_); rintro e u6 ⟨rfl, rb6, hg6'⟩))
  all_goals
    go_wp2_with (fail)
    go_ret
    exact ⟨rfl, HVB.out _ hg6'⟩
set_option maxHeartbeats 3000000 in
set_option maxRecDepth 100000 in
theorem goTF (A0 A1 : Option Addr) (k0 k1 : Nat) (x y : Thing) (z : Int) (w : World) (hx : Okay x) (hy : Okay y) (hsm : x.vec.length + x.str.size + y.vec.length + y.str.size + 4 ≤ 1048576) (s0 : Sl w w.heap.size A0 (iv x.vec)) (s1 : Sl w w.heap.size A1 (iv y.vec)) (qx1 : rightO x 1 (x.vec.length : Int) = true) (qy1 : rightO y 1 (y.vec.length : Int) = false) (qy3 : rightO y 3 z = true) :
    Calls Try.prog 6 #[.agg #[.int .i64 x.tag, .slice A0 x.vec.length k0, .string x.str], .agg #[.int .i64 y.tag, .slice A1 y.vec.length k1, .string y.str], .int .i64 z] w fun e w' => e = .returned (.bool true) ∧ Below w.heap.size w w' := by
  have HX1 : Hid (∀ W, Calls Try.prog 8 #[.agg #[.int .i64 x.tag, .slice A0 x.vec.length k0, .string x.str], .int .i64 1, .int .i64 (x.vec.length : Int)] W (Gives (.bool true) W)) := Lib.hid fun W => by
    have h := rright_any A0 k0 x 1 (x.vec.length : Int) W
    rwa [qx1] at h
  have HY1 : Hid (∀ W, Calls Try.prog 8 #[.agg #[.int .i64 y.tag, .slice A1 y.vec.length k1, .string y.str], .int .i64 1, .int .i64 (y.vec.length : Int)] W (Gives (.bool false) W)) := Lib.hid fun W => by
    have h := rright_any A1 k1 y 1 (y.vec.length : Int) W
    rwa [qy1] at h
  have HY3 : Hid (∀ W, Calls Try.prog 8 #[.agg #[.int .i64 y.tag, .slice A1 y.vec.length k1, .string y.str], .int .i64 3, .int .i64 z] W (Gives (.bool true) W)) := Lib.hid fun W => by
    have h := rright_any A1 k1 y 3 z W
    rwa [qy3] at h
  have hG1 := get_enc hx (right_whole (s := z) (.inl qx1)) (encO y)
  have hG2 := get_enc hy (right_whole (s := z) (.inr qy3)) []
  rw [List.append_nil] at hG2
  have HE1 := Lib.hid hG1
  have HE2 := Lib.hid hG2
  clear hG1 hG2
  clear qx1
  clear qy1
  clear qy3
  have hlx := encO_len hx (by omega) (by omega)
  have hly := encO_len hy (by omega) (by omega)
  have hlxy : (encO x ++ encO y).length = (encO x).length + (encO y).length := List.length_append
  obtain ⟨hb0, hbx, hby⟩ := two_box w 24 #[.int .i64 x.tag, .slice A0 x.vec.length k0, .string x.str] #[.int .i64 y.tag, .slice A1 y.vec.length k1, .string y.str]
  obtain ⟨V0, hV0⟩ : ∃ V, V = ((w.alloc (.cells #[.int .i64 x.tag, .slice A0 x.vec.length k0, .string x.str] 24)).alloc (.cells #[.int .i64 y.tag, .slice A1 y.vec.length k1, .string y.str] 24)) := ⟨_, rfl⟩
  rw [← hV0] at hb0 hbx hby
  have HNEW := Lib.hid (new_any V0)
  have HX := Lib.hid hx
  have HY := Lib.hid hy
  go_enter Try.func6, Try.ntmps6
  go_wp2_with (fail)
  rw [← hV0]
  clear hV0
  refine HNEW.out.mono ?_
  rintro e w1 ⟨rfl, hb1, hw1⟩
  have hz0 := hb0.size
  have hgx : w.heap.size + 1 < V0.heap.size := hby.lt
  have hx1 := hbx.below hb1 hbx.lt
  have hy1 := hby.below hb1 hby.lt
  have hB1 := hb0.trans (hb1.mono hz0)
  obtain ⟨gw, hgw⟩ : ∃ g, g = V0.heap.size := ⟨_, rfl⟩
  rw [← hgw] at hw1 hz0 hb1 hgx ⊢
  have HPUT := Lib.hid (put_any gw A0 k0 w.heap.size x [] w1 hw1 hz0 (s0.below hB1) HX.out (by omega) (by omega) (by simp))
  obtain ⟨c0, c1, c2, cf⟩ := cells3 hx1
  clear HNEW hgw hw1 hb0 hbx hby
  go_wp2_with (fail)
  refine HPUT.out.mono ?_
  rintro e w2 ⟨rfl, hb2, hw2⟩
  rw [List.nil_append] at hw2
  have hx2 := hx1.below hb2 (by omega)
  have hy2 := hy1.below hb2 hgx
  have hB2 := hB1.trans (hb2.mono hz0)
  have HPUT2 := Lib.hid (put_any gw A1 k1 w.heap.size y (encO x) w2 hw2 hz0 (s1.below hB2) HY.out (by omega) (by omega) (by omega))
  obtain ⟨c0, c1, c2, cf⟩ := cells3 hy2
  clear HPUT hB1 hx1 hy1 hb2 hb1 hw2
  go_wp2_with (fail)
  refine HPUT2.out.mono ?_
  rintro e w3 ⟨rfl, hb3, hw3⟩
  have hx3 := hx2.below hb3 (by omega)
  have hy3 := hy2.below hb3 hgx
  have hB3 := hB2.trans (hb3.mono hz0)
  have HBY := Lib.hid (bytes_any gw _ w3 hw3 (by omega))
  clear HPUT2 hB2 hx2 hy2 hb3
  go_wp2_with (fail)
  refine HBY.out.mono ?_
  rintro e w4 ⟨B4, l4, rfl, hl4, hs4, hb4⟩
  have hx4 := hx3.below hb4 hx3.lt
  have hy4 := hy3.below hb4 hy3.lt
  have hB4 := hB3.trans (hb4.mono hB3.size)
  have hz4 : gw < w4.heap.size := Nat.lt_of_lt_of_le hw3.choose_spec.1.lt hb4.size
  have HNR := Lib.hid (newr_any B4 (encO x ++ encO y) ((encO x).length + (encO y).length) l4 w4.heap.size w4 hlxy (by omega) (Nat.le_refl _) hs4)
  clear HBY hB3 hx3 hy3 hb4 hw3 hs4
  go_wp2_with (fail)
  refine HNR.out.mono ?_
  rintro e w5 ⟨gr, rfl, hgr, hr5, hb5⟩
  have hx5 := hx4.below hb5 hx4.lt
  have hy5 := hy4.below hb5 hy4.lt
  have hB5 := hB4.trans (hb5.mono hB4.size)
  have hg1 : w.heap.size + 1 < gr := by omega
  have hM : Made2 w w5 gr x y A0 A1 k0 k1 := ⟨hx5, hy5, hr5, hg1, hB5⟩
  clear HNR hB4 hx4 hy4 hb5 hgr hz4 hgx hz0 c0 c1 c2 cf
  obtain ⟨hx5, hy5, hr5, hg1, hB5⟩ := hM
  have HXB : Hid (∀ W, Below w5.heap.size w5 W → Blk W w.heap.size 24 #[.int .i64 x.tag, .slice A0 x.vec.length k0, .string x.str]) := Lib.hid fun W hW => hx5.below hW hx5.lt
  have HYB : Hid (∀ W, Below w5.heap.size w5 W → Blk W (w.heap.size + 1) 24 #[.int .i64 y.tag, .slice A1 y.vec.length k1, .string y.str]) := Lib.hid fun W hW => hy5.below hW hy5.lt
  have HRB : Hid (∀ W, Below w5.heap.size w5 W → Rd W gr ⟨encO x ++ encO y, 0⟩) := Lib.hid fun W hW => hr5.below hW hr5.lt
  have HB5 := Lib.hid hB5
  obtain ⟨c0, c1, c2, cf⟩ := cells3 hx5
  clear hx5 hy5 hr5 hB5
  go_wp2_with (fail)
  refine (on (Below.refl _ _) (HX1.out _)).mono ?_
  rintro e t1 ⟨rfl, tb1⟩
  obtain ⟨c0, c1, c2, cf⟩ := cells3 (HXB.out _ tb1)
  obtain ⟨d0, d1, d2, df⟩ := cells3 (HYB.out _ tb1)
  go_wp2_with (fail)
  refine (on tb1 (HY1.out _)).mono ?_
  rintro e t2 ⟨rfl, tb2⟩
  obtain ⟨c0, c1, c2, cf⟩ := cells3 (HXB.out _ tb2)
  obtain ⟨d0, d1, d2, df⟩ := cells3 (HYB.out _ tb2)
  go_wp2_with (fail)
  refine (on tb2 (HY3.out _)).mono ?_
  rintro e t3 ⟨rfl, tb3⟩
  obtain ⟨c0, c1, c2, cf⟩ := cells3 (HXB.out _ tb3)
  obtain ⟨d0, d1, d2, df⟩ := cells3 (HYB.out _ tb3)
  have hVb := HB5.out.trans (tb3.mono HB5.out.size)
  have hVx := HXB.out _ tb3
  have hVy := HYB.out _ tb3
  have hVr := HRB.out _ tb3
  go_wp2_with (fail)
  generalize t3 = V at *
  have HVB : Hid (∀ W, V.grownBy W (some gr) → Below w.heap.size w W) := Lib.hid fun W hW => hVb.grown hW hVb.size (fun j hj => by injection hj; omega)
  have HG1 : Hid (∀ W, V.grownBy W (some gr) → Rd W gr ⟨encO x ++ encO y, 0⟩ → Calls Try.prog 18 #[.pointer (some ⟨gr, 0, none⟩)] W (Gotten V gr x ⟨encO y, 0⟩)) := Lib.hid fun W hW hr => got_on hW HE1.out (get_any hr (fun h => absurd rfl h) (by simp only; omega))
  have HG2 : Hid (∀ W, V.grownBy W (some gr) → Rd W gr ⟨encO y, 0⟩ → Calls Try.prog 18 #[.pointer (some ⟨gr, 0, none⟩)] W (Gotten V gr y ⟨[], 0⟩)) := Lib.hid fun W hW hr => got_on hW HE2.out (get_any hr (fun h => absurd rfl h) (by simp only; omega))
  have HSX : Hid (∀ W A c, V.grownBy W (some gr) → Sl W W.heap.size A (iv x.vec) → Calls Try.prog 24 #[.agg #[.int .i64 x.tag, .slice A x.vec.length c, .string x.str], .agg #[.int .i64 x.tag, .slice A0 x.vec.length k0, .string x.str]] W (Gives (.bool true) W)) := Lib.hid fun W A c hW hs => by
    have h := rsame_any A A0 c k0 W.heap.size w.heap.size x x W (by omega) (by omega) (Nat.le_refl _) (HVB.out W hW).size hs (s0.below (HVB.out W hW))
    rwa [sameO_rfl] at h
  have HSY : Hid (∀ W A c, V.grownBy W (some gr) → Sl W W.heap.size A (iv y.vec) → Calls Try.prog 24 #[.agg #[.int .i64 y.tag, .slice A y.vec.length c, .string y.str], .agg #[.int .i64 y.tag, .slice A1 y.vec.length k1, .string y.str]] W (Gives (.bool true) W)) := Lib.hid fun W A c hW hs => by
    have h := rsame_any A A1 c k1 W.heap.size w.heap.size y y W (by omega) (by omega) (Nat.le_refl _) (HVB.out W hW).size hs (s1.below (HVB.out W hW))
    rwa [sameO_rfl] at h
  have HEND : Hid (∀ W, Rd W gr ⟨[], 0⟩ → Calls Try.prog 26 #[.pointer (some ⟨gr, 0, none⟩)] W fun e w' => e = .returned (.int .i64 0) ∧ W = w') := Lib.hid fun W hr => by
    have h := end_any gr ⟨[], 0⟩ W hr (by simp)
    rwa [show endP ⟨[], 0⟩ = 0 from rfl] at h
  have hS : ∀ w' : World, V.grownBy w' (some gr) → (w'.cell? ⟨w.heap.size, 0, none⟩ = some (.int .i64 x.tag) ∧ w'.cell? ⟨w.heap.size, 1, none⟩ = some (.slice A0 x.vec.length k0) ∧ w'.cell? ⟨w.heap.size, 2, none⟩ = some (.string x.str) ∧
      w'.cell? ⟨w.heap.size + 1, 0, none⟩ = some (.int .i64 y.tag) ∧ w'.cell? ⟨w.heap.size + 1, 1, none⟩ = some (.slice A1 y.vec.length k1) ∧ w'.cell? ⟨w.heap.size + 1, 2, none⟩ = some (.string y.str)) := fun w' h => by
    obtain ⟨r0, r1, r2, -⟩ := cells3 (gro hVx h (by omega))
    obtain ⟨l0, l1, l2, -⟩ := cells3 (gro hVy h (by omega))
    exact ⟨r0, r1, r2, l0, l1, l2⟩
  have HS := Lib.hid hS
  have hg0 : V.grownBy V (some gr) := only_refl V _
  have hg0d : V.grownBy V.drew (some gr) := only_drew' hg0
  have hr0d : Rd V.drew gr ⟨encO x ++ encO y, 0⟩ := hVr
  clear hS hVb hVx hVy hVr HXB HYB HRB HB5 HE1 HE2 HX1 HY1 HY3
  generalize w.heap.size = g0 at HS c0 c1 c2 cf d0 d1 d2 df ⊢
  go_region_held3 (fun w' => w'.cell? ⟨g0, 0, none⟩ = some (.int .i64 x.tag) ∧ w'.cell? ⟨g0, 1, none⟩ = some (.slice A0 x.vec.length k0) ∧ w'.cell? ⟨g0, 2, none⟩ = some (.string x.str) ∧
      w'.cell? ⟨g0 + 1, 0, none⟩ = some (.int .i64 y.tag) ∧ w'.cell? ⟨g0 + 1, 1, none⟩ = some (.slice A1 y.vec.length k1) ∧ w'.cell? ⟨g0 + 1, 2, none⟩ = some (.string y.str))
    ((refine HS.out _ ?_; with_reducible assumption))
    (first
      | (go_at_call 18; (with_reducible refine (HG1.out _ (by with_reducible assumption) (by with_reducible assumption)).mono ?_); rintro e u1 ⟨C1, m1, rfl, hg1', hr1, sl1⟩)
      | (go_at_call 18; (with_reducible refine (HG2.out _ (by with_reducible assumption) (by with_reducible assumption)).mono ?_); rintro e u3 ⟨C3, m3, rfl, hg3', hr3, sl3⟩)
      | (go_at_call 24; (with_reducible refine (gives_on (by with_reducible assumption) (HSX.out _ _ _ (by with_reducible assumption) sl1)).mono ?_); rintro e u2 ⟨rfl, rb2, hg2'⟩; have hr2 := Rd.below' hr1 rb2)
      | (go_at_call 24; (with_reducible refine (gives_on (by with_reducible assumption) (HSY.out _ _ _ (by with_reducible assumption) sl3)).mono ?_); rintro e u4 ⟨rfl, rb4, hg4'⟩; have hr4 := Rd.below' hr3 rb4)
      | (go_at_call 26; (with_reducible refine (HEND.out _ hr4).mono ?_); rintro e u5 ⟨rfl, rfl⟩)
      | (go_at_call 10; (with_reducible refine (gives_on (by with_reducible assumption) (lives_any _)).mono ?_); rintro e u6 ⟨rfl, rb6, hg6'⟩))
  all_goals
    go_wp2_with (fail)
    go_ret
    exact ⟨rfl, HVB.out _ hg6'⟩
set_option maxHeartbeats 3000000 in
set_option maxRecDepth 100000 in
theorem goFT (A0 A1 : Option Addr) (k0 k1 : Nat) (x y : Thing) (z : Int) (w : World) (hx : Okay x) (hy : Okay y) (hsm : x.vec.length + x.str.size + y.vec.length + y.str.size + 4 ≤ 1048576) (s0 : Sl w w.heap.size A0 (iv x.vec)) (s1 : Sl w w.heap.size A1 (iv y.vec)) (qx1 : rightO x 1 (x.vec.length : Int) = false) (qx3 : rightO x 3 z = true) (qy1 : rightO y 1 (y.vec.length : Int) = true) :
    Calls Try.prog 6 #[.agg #[.int .i64 x.tag, .slice A0 x.vec.length k0, .string x.str], .agg #[.int .i64 y.tag, .slice A1 y.vec.length k1, .string y.str], .int .i64 z] w fun e w' => e = .returned (.bool true) ∧ Below w.heap.size w w' := by
  have HX1 : Hid (∀ W, Calls Try.prog 8 #[.agg #[.int .i64 x.tag, .slice A0 x.vec.length k0, .string x.str], .int .i64 1, .int .i64 (x.vec.length : Int)] W (Gives (.bool false) W)) := Lib.hid fun W => by
    have h := rright_any A0 k0 x 1 (x.vec.length : Int) W
    rwa [qx1] at h
  have HX3 : Hid (∀ W, Calls Try.prog 8 #[.agg #[.int .i64 x.tag, .slice A0 x.vec.length k0, .string x.str], .int .i64 3, .int .i64 z] W (Gives (.bool true) W)) := Lib.hid fun W => by
    have h := rright_any A0 k0 x 3 z W
    rwa [qx3] at h
  have HY1 : Hid (∀ W, Calls Try.prog 8 #[.agg #[.int .i64 y.tag, .slice A1 y.vec.length k1, .string y.str], .int .i64 1, .int .i64 (y.vec.length : Int)] W (Gives (.bool true) W)) := Lib.hid fun W => by
    have h := rright_any A1 k1 y 1 (y.vec.length : Int) W
    rwa [qy1] at h
  have hG1 := get_enc hx (right_whole (s := z) (.inr qx3)) (encO y)
  have hG2 := get_enc hy (right_whole (s := z) (.inl qy1)) []
  rw [List.append_nil] at hG2
  have HE1 := Lib.hid hG1
  have HE2 := Lib.hid hG2
  clear hG1 hG2
  clear qx1
  clear qx3
  clear qy1
  have hlx := encO_len hx (by omega) (by omega)
  have hly := encO_len hy (by omega) (by omega)
  have hlxy : (encO x ++ encO y).length = (encO x).length + (encO y).length := List.length_append
  obtain ⟨hb0, hbx, hby⟩ := two_box w 24 #[.int .i64 x.tag, .slice A0 x.vec.length k0, .string x.str] #[.int .i64 y.tag, .slice A1 y.vec.length k1, .string y.str]
  obtain ⟨V0, hV0⟩ : ∃ V, V = ((w.alloc (.cells #[.int .i64 x.tag, .slice A0 x.vec.length k0, .string x.str] 24)).alloc (.cells #[.int .i64 y.tag, .slice A1 y.vec.length k1, .string y.str] 24)) := ⟨_, rfl⟩
  rw [← hV0] at hb0 hbx hby
  have HNEW := Lib.hid (new_any V0)
  have HX := Lib.hid hx
  have HY := Lib.hid hy
  go_enter Try.func6, Try.ntmps6
  go_wp2_with (fail)
  rw [← hV0]
  clear hV0
  refine HNEW.out.mono ?_
  rintro e w1 ⟨rfl, hb1, hw1⟩
  have hz0 := hb0.size
  have hgx : w.heap.size + 1 < V0.heap.size := hby.lt
  have hx1 := hbx.below hb1 hbx.lt
  have hy1 := hby.below hb1 hby.lt
  have hB1 := hb0.trans (hb1.mono hz0)
  obtain ⟨gw, hgw⟩ : ∃ g, g = V0.heap.size := ⟨_, rfl⟩
  rw [← hgw] at hw1 hz0 hb1 hgx ⊢
  have HPUT := Lib.hid (put_any gw A0 k0 w.heap.size x [] w1 hw1 hz0 (s0.below hB1) HX.out (by omega) (by omega) (by simp))
  obtain ⟨c0, c1, c2, cf⟩ := cells3 hx1
  clear HNEW hgw hw1 hb0 hbx hby
  go_wp2_with (fail)
  refine HPUT.out.mono ?_
  rintro e w2 ⟨rfl, hb2, hw2⟩
  rw [List.nil_append] at hw2
  have hx2 := hx1.below hb2 (by omega)
  have hy2 := hy1.below hb2 hgx
  have hB2 := hB1.trans (hb2.mono hz0)
  have HPUT2 := Lib.hid (put_any gw A1 k1 w.heap.size y (encO x) w2 hw2 hz0 (s1.below hB2) HY.out (by omega) (by omega) (by omega))
  obtain ⟨c0, c1, c2, cf⟩ := cells3 hy2
  clear HPUT hB1 hx1 hy1 hb2 hb1 hw2
  go_wp2_with (fail)
  refine HPUT2.out.mono ?_
  rintro e w3 ⟨rfl, hb3, hw3⟩
  have hx3 := hx2.below hb3 (by omega)
  have hy3 := hy2.below hb3 hgx
  have hB3 := hB2.trans (hb3.mono hz0)
  have HBY := Lib.hid (bytes_any gw _ w3 hw3 (by omega))
  clear HPUT2 hB2 hx2 hy2 hb3
  go_wp2_with (fail)
  refine HBY.out.mono ?_
  rintro e w4 ⟨B4, l4, rfl, hl4, hs4, hb4⟩
  have hx4 := hx3.below hb4 hx3.lt
  have hy4 := hy3.below hb4 hy3.lt
  have hB4 := hB3.trans (hb4.mono hB3.size)
  have hz4 : gw < w4.heap.size := Nat.lt_of_lt_of_le hw3.choose_spec.1.lt hb4.size
  have HNR := Lib.hid (newr_any B4 (encO x ++ encO y) ((encO x).length + (encO y).length) l4 w4.heap.size w4 hlxy (by omega) (Nat.le_refl _) hs4)
  clear HBY hB3 hx3 hy3 hb4 hw3 hs4
  go_wp2_with (fail)
  refine HNR.out.mono ?_
  rintro e w5 ⟨gr, rfl, hgr, hr5, hb5⟩
  have hx5 := hx4.below hb5 hx4.lt
  have hy5 := hy4.below hb5 hy4.lt
  have hB5 := hB4.trans (hb5.mono hB4.size)
  have hg1 : w.heap.size + 1 < gr := by omega
  have hM : Made2 w w5 gr x y A0 A1 k0 k1 := ⟨hx5, hy5, hr5, hg1, hB5⟩
  clear HNR hB4 hx4 hy4 hb5 hgr hz4 hgx hz0 c0 c1 c2 cf
  obtain ⟨hx5, hy5, hr5, hg1, hB5⟩ := hM
  have HXB : Hid (∀ W, Below w5.heap.size w5 W → Blk W w.heap.size 24 #[.int .i64 x.tag, .slice A0 x.vec.length k0, .string x.str]) := Lib.hid fun W hW => hx5.below hW hx5.lt
  have HYB : Hid (∀ W, Below w5.heap.size w5 W → Blk W (w.heap.size + 1) 24 #[.int .i64 y.tag, .slice A1 y.vec.length k1, .string y.str]) := Lib.hid fun W hW => hy5.below hW hy5.lt
  have HRB : Hid (∀ W, Below w5.heap.size w5 W → Rd W gr ⟨encO x ++ encO y, 0⟩) := Lib.hid fun W hW => hr5.below hW hr5.lt
  have HB5 := Lib.hid hB5
  obtain ⟨c0, c1, c2, cf⟩ := cells3 hx5
  clear hx5 hy5 hr5 hB5
  go_wp2_with (fail)
  refine (on (Below.refl _ _) (HX1.out _)).mono ?_
  rintro e t1 ⟨rfl, tb1⟩
  obtain ⟨c0, c1, c2, cf⟩ := cells3 (HXB.out _ tb1)
  obtain ⟨d0, d1, d2, df⟩ := cells3 (HYB.out _ tb1)
  go_wp2_with (fail)
  refine (on tb1 (HX3.out _)).mono ?_
  rintro e t2 ⟨rfl, tb2⟩
  obtain ⟨c0, c1, c2, cf⟩ := cells3 (HXB.out _ tb2)
  obtain ⟨d0, d1, d2, df⟩ := cells3 (HYB.out _ tb2)
  go_wp2_with (fail)
  refine (on tb2 (HY1.out _)).mono ?_
  rintro e t3 ⟨rfl, tb3⟩
  obtain ⟨c0, c1, c2, cf⟩ := cells3 (HXB.out _ tb3)
  obtain ⟨d0, d1, d2, df⟩ := cells3 (HYB.out _ tb3)
  have hVb := HB5.out.trans (tb3.mono HB5.out.size)
  have hVx := HXB.out _ tb3
  have hVy := HYB.out _ tb3
  have hVr := HRB.out _ tb3
  go_wp2_with (fail)
  generalize t3 = V at *
  have HVB : Hid (∀ W, V.grownBy W (some gr) → Below w.heap.size w W) := Lib.hid fun W hW => hVb.grown hW hVb.size (fun j hj => by injection hj; omega)
  have HG1 : Hid (∀ W, V.grownBy W (some gr) → Rd W gr ⟨encO x ++ encO y, 0⟩ → Calls Try.prog 18 #[.pointer (some ⟨gr, 0, none⟩)] W (Gotten V gr x ⟨encO y, 0⟩)) := Lib.hid fun W hW hr => got_on hW HE1.out (get_any hr (fun h => absurd rfl h) (by simp only; omega))
  have HG2 : Hid (∀ W, V.grownBy W (some gr) → Rd W gr ⟨encO y, 0⟩ → Calls Try.prog 18 #[.pointer (some ⟨gr, 0, none⟩)] W (Gotten V gr y ⟨[], 0⟩)) := Lib.hid fun W hW hr => got_on hW HE2.out (get_any hr (fun h => absurd rfl h) (by simp only; omega))
  have HSX : Hid (∀ W A c, V.grownBy W (some gr) → Sl W W.heap.size A (iv x.vec) → Calls Try.prog 24 #[.agg #[.int .i64 x.tag, .slice A x.vec.length c, .string x.str], .agg #[.int .i64 x.tag, .slice A0 x.vec.length k0, .string x.str]] W (Gives (.bool true) W)) := Lib.hid fun W A c hW hs => by
    have h := rsame_any A A0 c k0 W.heap.size w.heap.size x x W (by omega) (by omega) (Nat.le_refl _) (HVB.out W hW).size hs (s0.below (HVB.out W hW))
    rwa [sameO_rfl] at h
  have HSY : Hid (∀ W A c, V.grownBy W (some gr) → Sl W W.heap.size A (iv y.vec) → Calls Try.prog 24 #[.agg #[.int .i64 y.tag, .slice A y.vec.length c, .string y.str], .agg #[.int .i64 y.tag, .slice A1 y.vec.length k1, .string y.str]] W (Gives (.bool true) W)) := Lib.hid fun W A c hW hs => by
    have h := rsame_any A A1 c k1 W.heap.size w.heap.size y y W (by omega) (by omega) (Nat.le_refl _) (HVB.out W hW).size hs (s1.below (HVB.out W hW))
    rwa [sameO_rfl] at h
  have HEND : Hid (∀ W, Rd W gr ⟨[], 0⟩ → Calls Try.prog 26 #[.pointer (some ⟨gr, 0, none⟩)] W fun e w' => e = .returned (.int .i64 0) ∧ W = w') := Lib.hid fun W hr => by
    have h := end_any gr ⟨[], 0⟩ W hr (by simp)
    rwa [show endP ⟨[], 0⟩ = 0 from rfl] at h
  have hS : ∀ w' : World, V.grownBy w' (some gr) → (w'.cell? ⟨w.heap.size, 0, none⟩ = some (.int .i64 x.tag) ∧ w'.cell? ⟨w.heap.size, 1, none⟩ = some (.slice A0 x.vec.length k0) ∧ w'.cell? ⟨w.heap.size, 2, none⟩ = some (.string x.str) ∧
      w'.cell? ⟨w.heap.size + 1, 0, none⟩ = some (.int .i64 y.tag) ∧ w'.cell? ⟨w.heap.size + 1, 1, none⟩ = some (.slice A1 y.vec.length k1) ∧ w'.cell? ⟨w.heap.size + 1, 2, none⟩ = some (.string y.str)) := fun w' h => by
    obtain ⟨r0, r1, r2, -⟩ := cells3 (gro hVx h (by omega))
    obtain ⟨l0, l1, l2, -⟩ := cells3 (gro hVy h (by omega))
    exact ⟨r0, r1, r2, l0, l1, l2⟩
  have HS := Lib.hid hS
  have hg0 : V.grownBy V (some gr) := only_refl V _
  have hg0d : V.grownBy V.drew (some gr) := only_drew' hg0
  have hr0d : Rd V.drew gr ⟨encO x ++ encO y, 0⟩ := hVr
  clear hS hVb hVx hVy hVr HXB HYB HRB HB5 HE1 HE2 HX1 HX3 HY1
  generalize w.heap.size = g0 at HS c0 c1 c2 cf d0 d1 d2 df ⊢
  go_region_held3 (fun w' => w'.cell? ⟨g0, 0, none⟩ = some (.int .i64 x.tag) ∧ w'.cell? ⟨g0, 1, none⟩ = some (.slice A0 x.vec.length k0) ∧ w'.cell? ⟨g0, 2, none⟩ = some (.string x.str) ∧
      w'.cell? ⟨g0 + 1, 0, none⟩ = some (.int .i64 y.tag) ∧ w'.cell? ⟨g0 + 1, 1, none⟩ = some (.slice A1 y.vec.length k1) ∧ w'.cell? ⟨g0 + 1, 2, none⟩ = some (.string y.str))
    ((refine HS.out _ ?_; with_reducible assumption))
    (first
      | (go_at_call 18; (with_reducible refine (HG1.out _ (by with_reducible assumption) (by with_reducible assumption)).mono ?_); rintro e u1 ⟨C1, m1, rfl, hg1', hr1, sl1⟩)
      | (go_at_call 18; (with_reducible refine (HG2.out _ (by with_reducible assumption) (by with_reducible assumption)).mono ?_); rintro e u3 ⟨C3, m3, rfl, hg3', hr3, sl3⟩)
      | (go_at_call 24; (with_reducible refine (gives_on (by with_reducible assumption) (HSX.out _ _ _ (by with_reducible assumption) sl1)).mono ?_); rintro e u2 ⟨rfl, rb2, hg2'⟩; have hr2 := Rd.below' hr1 rb2)
      | (go_at_call 24; (with_reducible refine (gives_on (by with_reducible assumption) (HSY.out _ _ _ (by with_reducible assumption) sl3)).mono ?_); rintro e u4 ⟨rfl, rb4, hg4'⟩; have hr4 := Rd.below' hr3 rb4)
      | (go_at_call 26; (with_reducible refine (HEND.out _ hr4).mono ?_); rintro e u5 ⟨rfl, rfl⟩)
      | (go_at_call 10; (with_reducible refine (gives_on (by with_reducible assumption) (lives_any _)).mono ?_); rintro e u6 ⟨rfl, rb6, hg6'⟩))
  all_goals
    go_wp2_with (fail)
    go_ret
    exact ⟨rfl, HVB.out _ hg6'⟩
set_option maxHeartbeats 3000000 in
set_option maxRecDepth 100000 in
theorem goFF (A0 A1 : Option Addr) (k0 k1 : Nat) (x y : Thing) (z : Int) (w : World) (hx : Okay x) (hy : Okay y) (hsm : x.vec.length + x.str.size + y.vec.length + y.str.size + 4 ≤ 1048576) (s0 : Sl w w.heap.size A0 (iv x.vec)) (s1 : Sl w w.heap.size A1 (iv y.vec)) (qx1 : rightO x 1 (x.vec.length : Int) = false) (qx3 : rightO x 3 z = true) (qy1 : rightO y 1 (y.vec.length : Int) = false) (qy3 : rightO y 3 z = true) :
    Calls Try.prog 6 #[.agg #[.int .i64 x.tag, .slice A0 x.vec.length k0, .string x.str], .agg #[.int .i64 y.tag, .slice A1 y.vec.length k1, .string y.str], .int .i64 z] w fun e w' => e = .returned (.bool true) ∧ Below w.heap.size w w' := by
  have HX1 : Hid (∀ W, Calls Try.prog 8 #[.agg #[.int .i64 x.tag, .slice A0 x.vec.length k0, .string x.str], .int .i64 1, .int .i64 (x.vec.length : Int)] W (Gives (.bool false) W)) := Lib.hid fun W => by
    have h := rright_any A0 k0 x 1 (x.vec.length : Int) W
    rwa [qx1] at h
  have HX3 : Hid (∀ W, Calls Try.prog 8 #[.agg #[.int .i64 x.tag, .slice A0 x.vec.length k0, .string x.str], .int .i64 3, .int .i64 z] W (Gives (.bool true) W)) := Lib.hid fun W => by
    have h := rright_any A0 k0 x 3 z W
    rwa [qx3] at h
  have HY1 : Hid (∀ W, Calls Try.prog 8 #[.agg #[.int .i64 y.tag, .slice A1 y.vec.length k1, .string y.str], .int .i64 1, .int .i64 (y.vec.length : Int)] W (Gives (.bool false) W)) := Lib.hid fun W => by
    have h := rright_any A1 k1 y 1 (y.vec.length : Int) W
    rwa [qy1] at h
  have HY3 : Hid (∀ W, Calls Try.prog 8 #[.agg #[.int .i64 y.tag, .slice A1 y.vec.length k1, .string y.str], .int .i64 3, .int .i64 z] W (Gives (.bool true) W)) := Lib.hid fun W => by
    have h := rright_any A1 k1 y 3 z W
    rwa [qy3] at h
  have hG1 := get_enc hx (right_whole (s := z) (.inr qx3)) (encO y)
  have hG2 := get_enc hy (right_whole (s := z) (.inr qy3)) []
  rw [List.append_nil] at hG2
  have HE1 := Lib.hid hG1
  have HE2 := Lib.hid hG2
  clear hG1 hG2
  clear qx1
  clear qx3
  clear qy1
  clear qy3
  have hlx := encO_len hx (by omega) (by omega)
  have hly := encO_len hy (by omega) (by omega)
  have hlxy : (encO x ++ encO y).length = (encO x).length + (encO y).length := List.length_append
  obtain ⟨hb0, hbx, hby⟩ := two_box w 24 #[.int .i64 x.tag, .slice A0 x.vec.length k0, .string x.str] #[.int .i64 y.tag, .slice A1 y.vec.length k1, .string y.str]
  obtain ⟨V0, hV0⟩ : ∃ V, V = ((w.alloc (.cells #[.int .i64 x.tag, .slice A0 x.vec.length k0, .string x.str] 24)).alloc (.cells #[.int .i64 y.tag, .slice A1 y.vec.length k1, .string y.str] 24)) := ⟨_, rfl⟩
  rw [← hV0] at hb0 hbx hby
  have HNEW := Lib.hid (new_any V0)
  have HX := Lib.hid hx
  have HY := Lib.hid hy
  go_enter Try.func6, Try.ntmps6
  go_wp2_with (fail)
  rw [← hV0]
  clear hV0
  refine HNEW.out.mono ?_
  rintro e w1 ⟨rfl, hb1, hw1⟩
  have hz0 := hb0.size
  have hgx : w.heap.size + 1 < V0.heap.size := hby.lt
  have hx1 := hbx.below hb1 hbx.lt
  have hy1 := hby.below hb1 hby.lt
  have hB1 := hb0.trans (hb1.mono hz0)
  obtain ⟨gw, hgw⟩ : ∃ g, g = V0.heap.size := ⟨_, rfl⟩
  rw [← hgw] at hw1 hz0 hb1 hgx ⊢
  have HPUT := Lib.hid (put_any gw A0 k0 w.heap.size x [] w1 hw1 hz0 (s0.below hB1) HX.out (by omega) (by omega) (by simp))
  obtain ⟨c0, c1, c2, cf⟩ := cells3 hx1
  clear HNEW hgw hw1 hb0 hbx hby
  go_wp2_with (fail)
  refine HPUT.out.mono ?_
  rintro e w2 ⟨rfl, hb2, hw2⟩
  rw [List.nil_append] at hw2
  have hx2 := hx1.below hb2 (by omega)
  have hy2 := hy1.below hb2 hgx
  have hB2 := hB1.trans (hb2.mono hz0)
  have HPUT2 := Lib.hid (put_any gw A1 k1 w.heap.size y (encO x) w2 hw2 hz0 (s1.below hB2) HY.out (by omega) (by omega) (by omega))
  obtain ⟨c0, c1, c2, cf⟩ := cells3 hy2
  clear HPUT hB1 hx1 hy1 hb2 hb1 hw2
  go_wp2_with (fail)
  refine HPUT2.out.mono ?_
  rintro e w3 ⟨rfl, hb3, hw3⟩
  have hx3 := hx2.below hb3 (by omega)
  have hy3 := hy2.below hb3 hgx
  have hB3 := hB2.trans (hb3.mono hz0)
  have HBY := Lib.hid (bytes_any gw _ w3 hw3 (by omega))
  clear HPUT2 hB2 hx2 hy2 hb3
  go_wp2_with (fail)
  refine HBY.out.mono ?_
  rintro e w4 ⟨B4, l4, rfl, hl4, hs4, hb4⟩
  have hx4 := hx3.below hb4 hx3.lt
  have hy4 := hy3.below hb4 hy3.lt
  have hB4 := hB3.trans (hb4.mono hB3.size)
  have hz4 : gw < w4.heap.size := Nat.lt_of_lt_of_le hw3.choose_spec.1.lt hb4.size
  have HNR := Lib.hid (newr_any B4 (encO x ++ encO y) ((encO x).length + (encO y).length) l4 w4.heap.size w4 hlxy (by omega) (Nat.le_refl _) hs4)
  clear HBY hB3 hx3 hy3 hb4 hw3 hs4
  go_wp2_with (fail)
  refine HNR.out.mono ?_
  rintro e w5 ⟨gr, rfl, hgr, hr5, hb5⟩
  have hx5 := hx4.below hb5 hx4.lt
  have hy5 := hy4.below hb5 hy4.lt
  have hB5 := hB4.trans (hb5.mono hB4.size)
  have hg1 : w.heap.size + 1 < gr := by omega
  have hM : Made2 w w5 gr x y A0 A1 k0 k1 := ⟨hx5, hy5, hr5, hg1, hB5⟩
  clear HNR hB4 hx4 hy4 hb5 hgr hz4 hgx hz0 c0 c1 c2 cf
  obtain ⟨hx5, hy5, hr5, hg1, hB5⟩ := hM
  have HXB : Hid (∀ W, Below w5.heap.size w5 W → Blk W w.heap.size 24 #[.int .i64 x.tag, .slice A0 x.vec.length k0, .string x.str]) := Lib.hid fun W hW => hx5.below hW hx5.lt
  have HYB : Hid (∀ W, Below w5.heap.size w5 W → Blk W (w.heap.size + 1) 24 #[.int .i64 y.tag, .slice A1 y.vec.length k1, .string y.str]) := Lib.hid fun W hW => hy5.below hW hy5.lt
  have HRB : Hid (∀ W, Below w5.heap.size w5 W → Rd W gr ⟨encO x ++ encO y, 0⟩) := Lib.hid fun W hW => hr5.below hW hr5.lt
  have HB5 := Lib.hid hB5
  obtain ⟨c0, c1, c2, cf⟩ := cells3 hx5
  clear hx5 hy5 hr5 hB5
  go_wp2_with (fail)
  refine (on (Below.refl _ _) (HX1.out _)).mono ?_
  rintro e t1 ⟨rfl, tb1⟩
  obtain ⟨c0, c1, c2, cf⟩ := cells3 (HXB.out _ tb1)
  obtain ⟨d0, d1, d2, df⟩ := cells3 (HYB.out _ tb1)
  go_wp2_with (fail)
  refine (on tb1 (HX3.out _)).mono ?_
  rintro e t2 ⟨rfl, tb2⟩
  obtain ⟨c0, c1, c2, cf⟩ := cells3 (HXB.out _ tb2)
  obtain ⟨d0, d1, d2, df⟩ := cells3 (HYB.out _ tb2)
  go_wp2_with (fail)
  refine (on tb2 (HY1.out _)).mono ?_
  rintro e t3 ⟨rfl, tb3⟩
  obtain ⟨c0, c1, c2, cf⟩ := cells3 (HXB.out _ tb3)
  obtain ⟨d0, d1, d2, df⟩ := cells3 (HYB.out _ tb3)
  go_wp2_with (fail)
  refine (on tb3 (HY3.out _)).mono ?_
  rintro e t4 ⟨rfl, tb4⟩
  obtain ⟨c0, c1, c2, cf⟩ := cells3 (HXB.out _ tb4)
  obtain ⟨d0, d1, d2, df⟩ := cells3 (HYB.out _ tb4)
  have hVb := HB5.out.trans (tb4.mono HB5.out.size)
  have hVx := HXB.out _ tb4
  have hVy := HYB.out _ tb4
  have hVr := HRB.out _ tb4
  go_wp2_with (fail)
  generalize t4 = V at *
  have HVB : Hid (∀ W, V.grownBy W (some gr) → Below w.heap.size w W) := Lib.hid fun W hW => hVb.grown hW hVb.size (fun j hj => by injection hj; omega)
  have HG1 : Hid (∀ W, V.grownBy W (some gr) → Rd W gr ⟨encO x ++ encO y, 0⟩ → Calls Try.prog 18 #[.pointer (some ⟨gr, 0, none⟩)] W (Gotten V gr x ⟨encO y, 0⟩)) := Lib.hid fun W hW hr => got_on hW HE1.out (get_any hr (fun h => absurd rfl h) (by simp only; omega))
  have HG2 : Hid (∀ W, V.grownBy W (some gr) → Rd W gr ⟨encO y, 0⟩ → Calls Try.prog 18 #[.pointer (some ⟨gr, 0, none⟩)] W (Gotten V gr y ⟨[], 0⟩)) := Lib.hid fun W hW hr => got_on hW HE2.out (get_any hr (fun h => absurd rfl h) (by simp only; omega))
  have HSX : Hid (∀ W A c, V.grownBy W (some gr) → Sl W W.heap.size A (iv x.vec) → Calls Try.prog 24 #[.agg #[.int .i64 x.tag, .slice A x.vec.length c, .string x.str], .agg #[.int .i64 x.tag, .slice A0 x.vec.length k0, .string x.str]] W (Gives (.bool true) W)) := Lib.hid fun W A c hW hs => by
    have h := rsame_any A A0 c k0 W.heap.size w.heap.size x x W (by omega) (by omega) (Nat.le_refl _) (HVB.out W hW).size hs (s0.below (HVB.out W hW))
    rwa [sameO_rfl] at h
  have HSY : Hid (∀ W A c, V.grownBy W (some gr) → Sl W W.heap.size A (iv y.vec) → Calls Try.prog 24 #[.agg #[.int .i64 y.tag, .slice A y.vec.length c, .string y.str], .agg #[.int .i64 y.tag, .slice A1 y.vec.length k1, .string y.str]] W (Gives (.bool true) W)) := Lib.hid fun W A c hW hs => by
    have h := rsame_any A A1 c k1 W.heap.size w.heap.size y y W (by omega) (by omega) (Nat.le_refl _) (HVB.out W hW).size hs (s1.below (HVB.out W hW))
    rwa [sameO_rfl] at h
  have HEND : Hid (∀ W, Rd W gr ⟨[], 0⟩ → Calls Try.prog 26 #[.pointer (some ⟨gr, 0, none⟩)] W fun e w' => e = .returned (.int .i64 0) ∧ W = w') := Lib.hid fun W hr => by
    have h := end_any gr ⟨[], 0⟩ W hr (by simp)
    rwa [show endP ⟨[], 0⟩ = 0 from rfl] at h
  have hS : ∀ w' : World, V.grownBy w' (some gr) → (w'.cell? ⟨w.heap.size, 0, none⟩ = some (.int .i64 x.tag) ∧ w'.cell? ⟨w.heap.size, 1, none⟩ = some (.slice A0 x.vec.length k0) ∧ w'.cell? ⟨w.heap.size, 2, none⟩ = some (.string x.str) ∧
      w'.cell? ⟨w.heap.size + 1, 0, none⟩ = some (.int .i64 y.tag) ∧ w'.cell? ⟨w.heap.size + 1, 1, none⟩ = some (.slice A1 y.vec.length k1) ∧ w'.cell? ⟨w.heap.size + 1, 2, none⟩ = some (.string y.str)) := fun w' h => by
    obtain ⟨r0, r1, r2, -⟩ := cells3 (gro hVx h (by omega))
    obtain ⟨l0, l1, l2, -⟩ := cells3 (gro hVy h (by omega))
    exact ⟨r0, r1, r2, l0, l1, l2⟩
  have HS := Lib.hid hS
  have hg0 : V.grownBy V (some gr) := only_refl V _
  have hg0d : V.grownBy V.drew (some gr) := only_drew' hg0
  have hr0d : Rd V.drew gr ⟨encO x ++ encO y, 0⟩ := hVr
  clear hS hVb hVx hVy hVr HXB HYB HRB HB5 HE1 HE2 HX1 HX3 HY1 HY3
  generalize w.heap.size = g0 at HS c0 c1 c2 cf d0 d1 d2 df ⊢
  go_region_held3 (fun w' => w'.cell? ⟨g0, 0, none⟩ = some (.int .i64 x.tag) ∧ w'.cell? ⟨g0, 1, none⟩ = some (.slice A0 x.vec.length k0) ∧ w'.cell? ⟨g0, 2, none⟩ = some (.string x.str) ∧
      w'.cell? ⟨g0 + 1, 0, none⟩ = some (.int .i64 y.tag) ∧ w'.cell? ⟨g0 + 1, 1, none⟩ = some (.slice A1 y.vec.length k1) ∧ w'.cell? ⟨g0 + 1, 2, none⟩ = some (.string y.str))
    ((refine HS.out _ ?_; with_reducible assumption))
    (first
      | (go_at_call 18; (with_reducible refine (HG1.out _ (by with_reducible assumption) (by with_reducible assumption)).mono ?_); rintro e u1 ⟨C1, m1, rfl, hg1', hr1, sl1⟩)
      | (go_at_call 18; (with_reducible refine (HG2.out _ (by with_reducible assumption) (by with_reducible assumption)).mono ?_); rintro e u3 ⟨C3, m3, rfl, hg3', hr3, sl3⟩)
      | (go_at_call 24; (with_reducible refine (gives_on (by with_reducible assumption) (HSX.out _ _ _ (by with_reducible assumption) sl1)).mono ?_); rintro e u2 ⟨rfl, rb2, hg2'⟩; have hr2 := Rd.below' hr1 rb2)
      | (go_at_call 24; (with_reducible refine (gives_on (by with_reducible assumption) (HSY.out _ _ _ (by with_reducible assumption) sl3)).mono ?_); rintro e u4 ⟨rfl, rb4, hg4'⟩; have hr4 := Rd.below' hr3 rb4)
      | (go_at_call 26; (with_reducible refine (HEND.out _ hr4).mono ?_); rintro e u5 ⟨rfl, rfl⟩)
      | (go_at_call 10; (with_reducible refine (gives_on (by with_reducible assumption) (lives_any _)).mono ?_); rintro e u6 ⟨rfl, rb6, hg6'⟩))
  all_goals
    go_wp2_with (fail)
    go_ret
    exact ⟨rfl, HVB.out _ hg6'⟩
set_option maxHeartbeats 3000000 in
set_option maxRecDepth 100000 in
theorem noX (A0 A1 : Option Addr) (k0 k1 : Nat) (x y : Thing) (z : Int) (w : World) (hx : Okay x) (hy : Okay y) (hsm : x.vec.length + x.str.size + y.vec.length + y.str.size + 4 ≤ 1048576) (s0 : Sl w w.heap.size A0 (iv x.vec)) (s1 : Sl w w.heap.size A1 (iv y.vec)) (qx1 : rightO x 1 (x.vec.length : Int) = false) (qx3 : rightO x 3 z = false) :
    Calls Try.prog 6 #[.agg #[.int .i64 x.tag, .slice A0 x.vec.length k0, .string x.str], .agg #[.int .i64 y.tag, .slice A1 y.vec.length k1, .string y.str], .int .i64 z] w fun e w' => e = .returned (.bool true) ∧ Below w.heap.size w w' := by
  have HX1 : Hid (∀ W, Calls Try.prog 8 #[.agg #[.int .i64 x.tag, .slice A0 x.vec.length k0, .string x.str], .int .i64 1, .int .i64 (x.vec.length : Int)] W (Gives (.bool false) W)) := Lib.hid fun W => by
    have h := rright_any A0 k0 x 1 (x.vec.length : Int) W
    rwa [qx1] at h
  have HX3 : Hid (∀ W, Calls Try.prog 8 #[.agg #[.int .i64 x.tag, .slice A0 x.vec.length k0, .string x.str], .int .i64 3, .int .i64 z] W (Gives (.bool false) W)) := Lib.hid fun W => by
    have h := rright_any A0 k0 x 3 z W
    rwa [qx3] at h
  clear qx1
  clear qx3
  have hlx := encO_len hx (by omega) (by omega)
  have hly := encO_len hy (by omega) (by omega)
  have hlxy : (encO x ++ encO y).length = (encO x).length + (encO y).length := List.length_append
  obtain ⟨hb0, hbx, hby⟩ := two_box w 24 #[.int .i64 x.tag, .slice A0 x.vec.length k0, .string x.str] #[.int .i64 y.tag, .slice A1 y.vec.length k1, .string y.str]
  obtain ⟨V0, hV0⟩ : ∃ V, V = ((w.alloc (.cells #[.int .i64 x.tag, .slice A0 x.vec.length k0, .string x.str] 24)).alloc (.cells #[.int .i64 y.tag, .slice A1 y.vec.length k1, .string y.str] 24)) := ⟨_, rfl⟩
  rw [← hV0] at hb0 hbx hby
  have HNEW := Lib.hid (new_any V0)
  have HX := Lib.hid hx
  have HY := Lib.hid hy
  go_enter Try.func6, Try.ntmps6
  go_wp2_with (fail)
  rw [← hV0]
  clear hV0
  refine HNEW.out.mono ?_
  rintro e w1 ⟨rfl, hb1, hw1⟩
  have hz0 := hb0.size
  have hgx : w.heap.size + 1 < V0.heap.size := hby.lt
  have hx1 := hbx.below hb1 hbx.lt
  have hy1 := hby.below hb1 hby.lt
  have hB1 := hb0.trans (hb1.mono hz0)
  obtain ⟨gw, hgw⟩ : ∃ g, g = V0.heap.size := ⟨_, rfl⟩
  rw [← hgw] at hw1 hz0 hb1 hgx ⊢
  have HPUT := Lib.hid (put_any gw A0 k0 w.heap.size x [] w1 hw1 hz0 (s0.below hB1) HX.out (by omega) (by omega) (by simp))
  obtain ⟨c0, c1, c2, cf⟩ := cells3 hx1
  clear HNEW hgw hw1 hb0 hbx hby
  go_wp2_with (fail)
  refine HPUT.out.mono ?_
  rintro e w2 ⟨rfl, hb2, hw2⟩
  rw [List.nil_append] at hw2
  have hx2 := hx1.below hb2 (by omega)
  have hy2 := hy1.below hb2 hgx
  have hB2 := hB1.trans (hb2.mono hz0)
  have HPUT2 := Lib.hid (put_any gw A1 k1 w.heap.size y (encO x) w2 hw2 hz0 (s1.below hB2) HY.out (by omega) (by omega) (by omega))
  obtain ⟨c0, c1, c2, cf⟩ := cells3 hy2
  clear HPUT hB1 hx1 hy1 hb2 hb1 hw2
  go_wp2_with (fail)
  refine HPUT2.out.mono ?_
  rintro e w3 ⟨rfl, hb3, hw3⟩
  have hx3 := hx2.below hb3 (by omega)
  have hy3 := hy2.below hb3 hgx
  have hB3 := hB2.trans (hb3.mono hz0)
  have HBY := Lib.hid (bytes_any gw _ w3 hw3 (by omega))
  clear HPUT2 hB2 hx2 hy2 hb3
  go_wp2_with (fail)
  refine HBY.out.mono ?_
  rintro e w4 ⟨B4, l4, rfl, hl4, hs4, hb4⟩
  have hx4 := hx3.below hb4 hx3.lt
  have hy4 := hy3.below hb4 hy3.lt
  have hB4 := hB3.trans (hb4.mono hB3.size)
  have hz4 : gw < w4.heap.size := Nat.lt_of_lt_of_le hw3.choose_spec.1.lt hb4.size
  have HNR := Lib.hid (newr_any B4 (encO x ++ encO y) ((encO x).length + (encO y).length) l4 w4.heap.size w4 hlxy (by omega) (Nat.le_refl _) hs4)
  clear HBY hB3 hx3 hy3 hb4 hw3 hs4
  go_wp2_with (fail)
  refine HNR.out.mono ?_
  rintro e w5 ⟨gr, rfl, hgr, hr5, hb5⟩
  have hx5 := hx4.below hb5 hx4.lt
  have hy5 := hy4.below hb5 hy4.lt
  have hB5 := hB4.trans (hb5.mono hB4.size)
  have hg1 : w.heap.size + 1 < gr := by omega
  have hM : Made2 w w5 gr x y A0 A1 k0 k1 := ⟨hx5, hy5, hr5, hg1, hB5⟩
  clear HNR hB4 hx4 hy4 hb5 hgr hz4 hgx hz0 c0 c1 c2 cf
  obtain ⟨hx5, hy5, hr5, hg1, hB5⟩ := hM
  have HXB : Hid (∀ W, Below w5.heap.size w5 W → Blk W w.heap.size 24 #[.int .i64 x.tag, .slice A0 x.vec.length k0, .string x.str]) := Lib.hid fun W hW => hx5.below hW hx5.lt
  have HYB : Hid (∀ W, Below w5.heap.size w5 W → Blk W (w.heap.size + 1) 24 #[.int .i64 y.tag, .slice A1 y.vec.length k1, .string y.str]) := Lib.hid fun W hW => hy5.below hW hy5.lt
  have HRB : Hid (∀ W, Below w5.heap.size w5 W → Rd W gr ⟨encO x ++ encO y, 0⟩) := Lib.hid fun W hW => hr5.below hW hr5.lt
  have HB5 := Lib.hid hB5
  obtain ⟨c0, c1, c2, cf⟩ := cells3 hx5
  clear hx5 hy5 hr5 hB5
  go_wp2_with (fail)
  refine (on (Below.refl _ _) (HX1.out _)).mono ?_
  rintro e t1 ⟨rfl, tb1⟩
  obtain ⟨c0, c1, c2, cf⟩ := cells3 (HXB.out _ tb1)
  obtain ⟨d0, d1, d2, df⟩ := cells3 (HYB.out _ tb1)
  go_wp2_with (fail)
  refine (on tb1 (HX3.out _)).mono ?_
  rintro e t2 ⟨rfl, tb2⟩
  obtain ⟨c0, c1, c2, cf⟩ := cells3 (HXB.out _ tb2)
  obtain ⟨d0, d1, d2, df⟩ := cells3 (HYB.out _ tb2)
  go_wp2_with (fail)
  refine (on tb2 (lives_any _)).mono ?_
  rintro e t9 ⟨rfl, tb9⟩
  go_wp2_with (fail)
  go_ret
  exact ⟨rfl, HB5.out.trans (tb9.mono HB5.out.size)⟩
set_option maxHeartbeats 3000000 in
set_option maxRecDepth 100000 in
theorem noYT (A0 A1 : Option Addr) (k0 k1 : Nat) (x y : Thing) (z : Int) (w : World) (hx : Okay x) (hy : Okay y) (hsm : x.vec.length + x.str.size + y.vec.length + y.str.size + 4 ≤ 1048576) (s0 : Sl w w.heap.size A0 (iv x.vec)) (s1 : Sl w w.heap.size A1 (iv y.vec)) (qx1 : rightO x 1 (x.vec.length : Int) = true) (qy1 : rightO y 1 (y.vec.length : Int) = false) (qy3 : rightO y 3 z = false) :
    Calls Try.prog 6 #[.agg #[.int .i64 x.tag, .slice A0 x.vec.length k0, .string x.str], .agg #[.int .i64 y.tag, .slice A1 y.vec.length k1, .string y.str], .int .i64 z] w fun e w' => e = .returned (.bool true) ∧ Below w.heap.size w w' := by
  have HX1 : Hid (∀ W, Calls Try.prog 8 #[.agg #[.int .i64 x.tag, .slice A0 x.vec.length k0, .string x.str], .int .i64 1, .int .i64 (x.vec.length : Int)] W (Gives (.bool true) W)) := Lib.hid fun W => by
    have h := rright_any A0 k0 x 1 (x.vec.length : Int) W
    rwa [qx1] at h
  have HY1 : Hid (∀ W, Calls Try.prog 8 #[.agg #[.int .i64 y.tag, .slice A1 y.vec.length k1, .string y.str], .int .i64 1, .int .i64 (y.vec.length : Int)] W (Gives (.bool false) W)) := Lib.hid fun W => by
    have h := rright_any A1 k1 y 1 (y.vec.length : Int) W
    rwa [qy1] at h
  have HY3 : Hid (∀ W, Calls Try.prog 8 #[.agg #[.int .i64 y.tag, .slice A1 y.vec.length k1, .string y.str], .int .i64 3, .int .i64 z] W (Gives (.bool false) W)) := Lib.hid fun W => by
    have h := rright_any A1 k1 y 3 z W
    rwa [qy3] at h
  clear qx1
  clear qy1
  clear qy3
  have hlx := encO_len hx (by omega) (by omega)
  have hly := encO_len hy (by omega) (by omega)
  have hlxy : (encO x ++ encO y).length = (encO x).length + (encO y).length := List.length_append
  obtain ⟨hb0, hbx, hby⟩ := two_box w 24 #[.int .i64 x.tag, .slice A0 x.vec.length k0, .string x.str] #[.int .i64 y.tag, .slice A1 y.vec.length k1, .string y.str]
  obtain ⟨V0, hV0⟩ : ∃ V, V = ((w.alloc (.cells #[.int .i64 x.tag, .slice A0 x.vec.length k0, .string x.str] 24)).alloc (.cells #[.int .i64 y.tag, .slice A1 y.vec.length k1, .string y.str] 24)) := ⟨_, rfl⟩
  rw [← hV0] at hb0 hbx hby
  have HNEW := Lib.hid (new_any V0)
  have HX := Lib.hid hx
  have HY := Lib.hid hy
  go_enter Try.func6, Try.ntmps6
  go_wp2_with (fail)
  rw [← hV0]
  clear hV0
  refine HNEW.out.mono ?_
  rintro e w1 ⟨rfl, hb1, hw1⟩
  have hz0 := hb0.size
  have hgx : w.heap.size + 1 < V0.heap.size := hby.lt
  have hx1 := hbx.below hb1 hbx.lt
  have hy1 := hby.below hb1 hby.lt
  have hB1 := hb0.trans (hb1.mono hz0)
  obtain ⟨gw, hgw⟩ : ∃ g, g = V0.heap.size := ⟨_, rfl⟩
  rw [← hgw] at hw1 hz0 hb1 hgx ⊢
  have HPUT := Lib.hid (put_any gw A0 k0 w.heap.size x [] w1 hw1 hz0 (s0.below hB1) HX.out (by omega) (by omega) (by simp))
  obtain ⟨c0, c1, c2, cf⟩ := cells3 hx1
  clear HNEW hgw hw1 hb0 hbx hby
  go_wp2_with (fail)
  refine HPUT.out.mono ?_
  rintro e w2 ⟨rfl, hb2, hw2⟩
  rw [List.nil_append] at hw2
  have hx2 := hx1.below hb2 (by omega)
  have hy2 := hy1.below hb2 hgx
  have hB2 := hB1.trans (hb2.mono hz0)
  have HPUT2 := Lib.hid (put_any gw A1 k1 w.heap.size y (encO x) w2 hw2 hz0 (s1.below hB2) HY.out (by omega) (by omega) (by omega))
  obtain ⟨c0, c1, c2, cf⟩ := cells3 hy2
  clear HPUT hB1 hx1 hy1 hb2 hb1 hw2
  go_wp2_with (fail)
  refine HPUT2.out.mono ?_
  rintro e w3 ⟨rfl, hb3, hw3⟩
  have hx3 := hx2.below hb3 (by omega)
  have hy3 := hy2.below hb3 hgx
  have hB3 := hB2.trans (hb3.mono hz0)
  have HBY := Lib.hid (bytes_any gw _ w3 hw3 (by omega))
  clear HPUT2 hB2 hx2 hy2 hb3
  go_wp2_with (fail)
  refine HBY.out.mono ?_
  rintro e w4 ⟨B4, l4, rfl, hl4, hs4, hb4⟩
  have hx4 := hx3.below hb4 hx3.lt
  have hy4 := hy3.below hb4 hy3.lt
  have hB4 := hB3.trans (hb4.mono hB3.size)
  have hz4 : gw < w4.heap.size := Nat.lt_of_lt_of_le hw3.choose_spec.1.lt hb4.size
  have HNR := Lib.hid (newr_any B4 (encO x ++ encO y) ((encO x).length + (encO y).length) l4 w4.heap.size w4 hlxy (by omega) (Nat.le_refl _) hs4)
  clear HBY hB3 hx3 hy3 hb4 hw3 hs4
  go_wp2_with (fail)
  refine HNR.out.mono ?_
  rintro e w5 ⟨gr, rfl, hgr, hr5, hb5⟩
  have hx5 := hx4.below hb5 hx4.lt
  have hy5 := hy4.below hb5 hy4.lt
  have hB5 := hB4.trans (hb5.mono hB4.size)
  have hg1 : w.heap.size + 1 < gr := by omega
  have hM : Made2 w w5 gr x y A0 A1 k0 k1 := ⟨hx5, hy5, hr5, hg1, hB5⟩
  clear HNR hB4 hx4 hy4 hb5 hgr hz4 hgx hz0 c0 c1 c2 cf
  obtain ⟨hx5, hy5, hr5, hg1, hB5⟩ := hM
  have HXB : Hid (∀ W, Below w5.heap.size w5 W → Blk W w.heap.size 24 #[.int .i64 x.tag, .slice A0 x.vec.length k0, .string x.str]) := Lib.hid fun W hW => hx5.below hW hx5.lt
  have HYB : Hid (∀ W, Below w5.heap.size w5 W → Blk W (w.heap.size + 1) 24 #[.int .i64 y.tag, .slice A1 y.vec.length k1, .string y.str]) := Lib.hid fun W hW => hy5.below hW hy5.lt
  have HRB : Hid (∀ W, Below w5.heap.size w5 W → Rd W gr ⟨encO x ++ encO y, 0⟩) := Lib.hid fun W hW => hr5.below hW hr5.lt
  have HB5 := Lib.hid hB5
  obtain ⟨c0, c1, c2, cf⟩ := cells3 hx5
  clear hx5 hy5 hr5 hB5
  go_wp2_with (fail)
  refine (on (Below.refl _ _) (HX1.out _)).mono ?_
  rintro e t1 ⟨rfl, tb1⟩
  obtain ⟨c0, c1, c2, cf⟩ := cells3 (HXB.out _ tb1)
  obtain ⟨d0, d1, d2, df⟩ := cells3 (HYB.out _ tb1)
  go_wp2_with (fail)
  refine (on tb1 (HY1.out _)).mono ?_
  rintro e t2 ⟨rfl, tb2⟩
  obtain ⟨c0, c1, c2, cf⟩ := cells3 (HXB.out _ tb2)
  obtain ⟨d0, d1, d2, df⟩ := cells3 (HYB.out _ tb2)
  go_wp2_with (fail)
  refine (on tb2 (HY3.out _)).mono ?_
  rintro e t3 ⟨rfl, tb3⟩
  obtain ⟨c0, c1, c2, cf⟩ := cells3 (HXB.out _ tb3)
  obtain ⟨d0, d1, d2, df⟩ := cells3 (HYB.out _ tb3)
  go_wp2_with (fail)
  refine (on tb3 (lives_any _)).mono ?_
  rintro e t9 ⟨rfl, tb9⟩
  go_wp2_with (fail)
  go_ret
  exact ⟨rfl, HB5.out.trans (tb9.mono HB5.out.size)⟩
set_option maxHeartbeats 3000000 in
set_option maxRecDepth 100000 in
theorem noYF (A0 A1 : Option Addr) (k0 k1 : Nat) (x y : Thing) (z : Int) (w : World) (hx : Okay x) (hy : Okay y) (hsm : x.vec.length + x.str.size + y.vec.length + y.str.size + 4 ≤ 1048576) (s0 : Sl w w.heap.size A0 (iv x.vec)) (s1 : Sl w w.heap.size A1 (iv y.vec)) (qx1 : rightO x 1 (x.vec.length : Int) = false) (qx3 : rightO x 3 z = true) (qy1 : rightO y 1 (y.vec.length : Int) = false) (qy3 : rightO y 3 z = false) :
    Calls Try.prog 6 #[.agg #[.int .i64 x.tag, .slice A0 x.vec.length k0, .string x.str], .agg #[.int .i64 y.tag, .slice A1 y.vec.length k1, .string y.str], .int .i64 z] w fun e w' => e = .returned (.bool true) ∧ Below w.heap.size w w' := by
  have HX1 : Hid (∀ W, Calls Try.prog 8 #[.agg #[.int .i64 x.tag, .slice A0 x.vec.length k0, .string x.str], .int .i64 1, .int .i64 (x.vec.length : Int)] W (Gives (.bool false) W)) := Lib.hid fun W => by
    have h := rright_any A0 k0 x 1 (x.vec.length : Int) W
    rwa [qx1] at h
  have HX3 : Hid (∀ W, Calls Try.prog 8 #[.agg #[.int .i64 x.tag, .slice A0 x.vec.length k0, .string x.str], .int .i64 3, .int .i64 z] W (Gives (.bool true) W)) := Lib.hid fun W => by
    have h := rright_any A0 k0 x 3 z W
    rwa [qx3] at h
  have HY1 : Hid (∀ W, Calls Try.prog 8 #[.agg #[.int .i64 y.tag, .slice A1 y.vec.length k1, .string y.str], .int .i64 1, .int .i64 (y.vec.length : Int)] W (Gives (.bool false) W)) := Lib.hid fun W => by
    have h := rright_any A1 k1 y 1 (y.vec.length : Int) W
    rwa [qy1] at h
  have HY3 : Hid (∀ W, Calls Try.prog 8 #[.agg #[.int .i64 y.tag, .slice A1 y.vec.length k1, .string y.str], .int .i64 3, .int .i64 z] W (Gives (.bool false) W)) := Lib.hid fun W => by
    have h := rright_any A1 k1 y 3 z W
    rwa [qy3] at h
  clear qx1
  clear qx3
  clear qy1
  clear qy3
  have hlx := encO_len hx (by omega) (by omega)
  have hly := encO_len hy (by omega) (by omega)
  have hlxy : (encO x ++ encO y).length = (encO x).length + (encO y).length := List.length_append
  obtain ⟨hb0, hbx, hby⟩ := two_box w 24 #[.int .i64 x.tag, .slice A0 x.vec.length k0, .string x.str] #[.int .i64 y.tag, .slice A1 y.vec.length k1, .string y.str]
  obtain ⟨V0, hV0⟩ : ∃ V, V = ((w.alloc (.cells #[.int .i64 x.tag, .slice A0 x.vec.length k0, .string x.str] 24)).alloc (.cells #[.int .i64 y.tag, .slice A1 y.vec.length k1, .string y.str] 24)) := ⟨_, rfl⟩
  rw [← hV0] at hb0 hbx hby
  have HNEW := Lib.hid (new_any V0)
  have HX := Lib.hid hx
  have HY := Lib.hid hy
  go_enter Try.func6, Try.ntmps6
  go_wp2_with (fail)
  rw [← hV0]
  clear hV0
  refine HNEW.out.mono ?_
  rintro e w1 ⟨rfl, hb1, hw1⟩
  have hz0 := hb0.size
  have hgx : w.heap.size + 1 < V0.heap.size := hby.lt
  have hx1 := hbx.below hb1 hbx.lt
  have hy1 := hby.below hb1 hby.lt
  have hB1 := hb0.trans (hb1.mono hz0)
  obtain ⟨gw, hgw⟩ : ∃ g, g = V0.heap.size := ⟨_, rfl⟩
  rw [← hgw] at hw1 hz0 hb1 hgx ⊢
  have HPUT := Lib.hid (put_any gw A0 k0 w.heap.size x [] w1 hw1 hz0 (s0.below hB1) HX.out (by omega) (by omega) (by simp))
  obtain ⟨c0, c1, c2, cf⟩ := cells3 hx1
  clear HNEW hgw hw1 hb0 hbx hby
  go_wp2_with (fail)
  refine HPUT.out.mono ?_
  rintro e w2 ⟨rfl, hb2, hw2⟩
  rw [List.nil_append] at hw2
  have hx2 := hx1.below hb2 (by omega)
  have hy2 := hy1.below hb2 hgx
  have hB2 := hB1.trans (hb2.mono hz0)
  have HPUT2 := Lib.hid (put_any gw A1 k1 w.heap.size y (encO x) w2 hw2 hz0 (s1.below hB2) HY.out (by omega) (by omega) (by omega))
  obtain ⟨c0, c1, c2, cf⟩ := cells3 hy2
  clear HPUT hB1 hx1 hy1 hb2 hb1 hw2
  go_wp2_with (fail)
  refine HPUT2.out.mono ?_
  rintro e w3 ⟨rfl, hb3, hw3⟩
  have hx3 := hx2.below hb3 (by omega)
  have hy3 := hy2.below hb3 hgx
  have hB3 := hB2.trans (hb3.mono hz0)
  have HBY := Lib.hid (bytes_any gw _ w3 hw3 (by omega))
  clear HPUT2 hB2 hx2 hy2 hb3
  go_wp2_with (fail)
  refine HBY.out.mono ?_
  rintro e w4 ⟨B4, l4, rfl, hl4, hs4, hb4⟩
  have hx4 := hx3.below hb4 hx3.lt
  have hy4 := hy3.below hb4 hy3.lt
  have hB4 := hB3.trans (hb4.mono hB3.size)
  have hz4 : gw < w4.heap.size := Nat.lt_of_lt_of_le hw3.choose_spec.1.lt hb4.size
  have HNR := Lib.hid (newr_any B4 (encO x ++ encO y) ((encO x).length + (encO y).length) l4 w4.heap.size w4 hlxy (by omega) (Nat.le_refl _) hs4)
  clear HBY hB3 hx3 hy3 hb4 hw3 hs4
  go_wp2_with (fail)
  refine HNR.out.mono ?_
  rintro e w5 ⟨gr, rfl, hgr, hr5, hb5⟩
  have hx5 := hx4.below hb5 hx4.lt
  have hy5 := hy4.below hb5 hy4.lt
  have hB5 := hB4.trans (hb5.mono hB4.size)
  have hg1 : w.heap.size + 1 < gr := by omega
  have hM : Made2 w w5 gr x y A0 A1 k0 k1 := ⟨hx5, hy5, hr5, hg1, hB5⟩
  clear HNR hB4 hx4 hy4 hb5 hgr hz4 hgx hz0 c0 c1 c2 cf
  obtain ⟨hx5, hy5, hr5, hg1, hB5⟩ := hM
  have HXB : Hid (∀ W, Below w5.heap.size w5 W → Blk W w.heap.size 24 #[.int .i64 x.tag, .slice A0 x.vec.length k0, .string x.str]) := Lib.hid fun W hW => hx5.below hW hx5.lt
  have HYB : Hid (∀ W, Below w5.heap.size w5 W → Blk W (w.heap.size + 1) 24 #[.int .i64 y.tag, .slice A1 y.vec.length k1, .string y.str]) := Lib.hid fun W hW => hy5.below hW hy5.lt
  have HRB : Hid (∀ W, Below w5.heap.size w5 W → Rd W gr ⟨encO x ++ encO y, 0⟩) := Lib.hid fun W hW => hr5.below hW hr5.lt
  have HB5 := Lib.hid hB5
  obtain ⟨c0, c1, c2, cf⟩ := cells3 hx5
  clear hx5 hy5 hr5 hB5
  go_wp2_with (fail)
  refine (on (Below.refl _ _) (HX1.out _)).mono ?_
  rintro e t1 ⟨rfl, tb1⟩
  obtain ⟨c0, c1, c2, cf⟩ := cells3 (HXB.out _ tb1)
  obtain ⟨d0, d1, d2, df⟩ := cells3 (HYB.out _ tb1)
  go_wp2_with (fail)
  refine (on tb1 (HX3.out _)).mono ?_
  rintro e t2 ⟨rfl, tb2⟩
  obtain ⟨c0, c1, c2, cf⟩ := cells3 (HXB.out _ tb2)
  obtain ⟨d0, d1, d2, df⟩ := cells3 (HYB.out _ tb2)
  go_wp2_with (fail)
  refine (on tb2 (HY1.out _)).mono ?_
  rintro e t3 ⟨rfl, tb3⟩
  obtain ⟨c0, c1, c2, cf⟩ := cells3 (HXB.out _ tb3)
  obtain ⟨d0, d1, d2, df⟩ := cells3 (HYB.out _ tb3)
  go_wp2_with (fail)
  refine (on tb3 (HY3.out _)).mono ?_
  rintro e t4 ⟨rfl, tb4⟩
  obtain ⟨c0, c1, c2, cf⟩ := cells3 (HXB.out _ tb4)
  obtain ⟨d0, d1, d2, df⟩ := cells3 (HYB.out _ tb4)
  go_wp2_with (fail)
  refine (on tb4 (lives_any _)).mono ?_
  rintro e t9 ⟨rfl, tb9⟩
  go_wp2_with (fail)
  go_ret
  exact ⟨rfl, HB5.out.trans (tb9.mono HB5.out.size)⟩
theorem walk (A0 A1 : Option Addr) (k0 k1 : Nat) (x y : Thing) (z : Int) (w : World) (hx : Okay x) (hy : Okay y) (hsm : x.vec.length + x.str.size + y.vec.length + y.str.size + 4 ≤ 1048576) (s0 : Sl w w.heap.size A0 (iv x.vec)) (s1 : Sl w w.heap.size A1 (iv y.vec)) :
    Calls Try.prog 6 #[ob A0 k0 x, ob A1 k1 y, .int .i64 z] w fun e w' => e = .returned (.bool true) ∧ Below w.heap.size w w' := by
  unfold ob
  cases qx1 : rightO x 1 (x.vec.length : Int) <;> cases qx3 : rightO x 3 z <;> cases qy1 : rightO y 1 (y.vec.length : Int) <;> cases qy3 : rightO y 3 z
  all_goals first
    | exact noX A0 A1 k0 k1 x y z w hx hy hsm s0 s1 qx1 qx3
    | exact noYF A0 A1 k0 k1 x y z w hx hy hsm s0 s1 qx1 qx3 qy1 qy3
    | exact noYT A0 A1 k0 k1 x y z w hx hy hsm s0 s1 qx1 qy1 qy3
    | exact goFF A0 A1 k0 k1 x y z w hx hy hsm s0 s1 qx1 qx3 qy1 qy3
    | exact goFT A0 A1 k0 k1 x y z w hx hy hsm s0 s1 qx1 qx3 qy1
    | exact goTF A0 A1 k0 k1 x y z w hx hy hsm s0 s1 qx1 qy1 qy3
    | exact goTT A0 A1 k0 k1 x y z w hx hy hsm s0 s1 qx1 qy1

theorem lifted (os : Os) (started : os.Started) (H : Type) (enc : TypeId × Value → H) (F : Stop.Interp) :
    ReturnsInHanded {} Try.checked os 6 .any ((Rows.OpenSpec.upto Rows.objectBackSpec).pre6 enc Try.prog Try.f6 Rows.objectBackUptoRow.domain false) (((Rows.OpenSpec.upto Rows.objectBackSpec).at F).post enc Try.prog Try.f6 false true false false) := by
  refine lift_upto (C := Try.checked) (by kernel_rfl) started (by kernel_rfl) Try.func6 rfl (by kernel_rfl) (by kernel_rfl) rfl Try.underlying4
    (fun ds hd => by match ds, hd with | [_, _, _], _ => exact ⟨rfl, rfl, rfl⟩)
    (OpenSpec.witness (enc := enc) (C := Try.checked) (s := Rows.OpenSpec.upto Rows.objectBackSpec) (k := Rows.uptoSmall) rfl false ⟨#[], #[.agg #[.int .i64 0, .slice none 0 0, .string ⟨#[]⟩], .agg #[.int .i64 0, .slice none 0 0, .string ⟨#[]⟩], .int .i64 0], []⟩ 8 (by kernel_rfl) (by kernel_rfl) (by kernel_rfl)
      (x := ([.agg [.lit (.int .i64 0), .nil, .lit (.string [])], .agg [.lit (.int .i64 0), .nil, .lit (.string [])], .lit (.int .i64 0)], [], [])) (by kernel_rfl) rfl (by kernel_rfl)) ?_
  intro W base args ds before hval0 hA0 hfz hk
  have hval : ∀ (j : Nat) t v, Try.f6.params[j]? = some t → args[j]? = some v → Value.okWide Try.prog W .any base t v := hval0
  have hA : DataW.TrodAll enc Try.prog W 0 (fun _ => true) true Try.f6.params.toList args.toList ds before := hA0
  rw [Try.params6] at hA hval
  obtain ⟨v0, vs0, d0, ds0, p0, q0, hargs, rfl, rfl, h0, r0⟩ := trodAll_cons hA
  obtain ⟨v1, vs1, d1, ds1, p1, q1, rfl, rfl, rfl, h1, r1⟩ := trodAll_cons r0
  obtain ⟨v2, vs2, d2, ds2, p2, q2, rfl, rfl, rfl, h2, r2⟩ := trodAll_cons r1
  obtain ⟨rfl, rfl, rfl⟩ := trodAll_nil r2
  obtain rfl : args = #[v0, v1, v2] := by cases args; simp_all
  obtain ⟨A0, k0, x, dd0, dd1, rfl, hc0, s0, hx, rfl, e0⟩ := open_obj Try.underlying24 (by kernel_rfl) (by kernel_rfl) Try.underlying3 Try.underlying22 Try.underlying21 (by kernel_rfl) Try.underlying9 (hval 0 24 v0 rfl rfl) h0
  obtain ⟨A1, k1, y, ee0, ee1, rfl, hc1, s1, hy, rfl, e1⟩ := open_obj Try.underlying24 (by kernel_rfl) (by kernel_rfl) Try.underlying3 Try.underlying22 Try.underlying21 (by kernel_rfl) Try.underlying9 (hval 1 24 v1 rfl rfl) h1
  obtain ⟨a2, rfl, rfl, rfl, w2⟩ := open_int Try.underlying3 (hval 2 3 v2 rfl rfl) h2
  have hb0 := bulk_obj2 (d0 := dd0) e0
  have hb1 := bulk_obj2 (d0 := ee0) e1
  simp only [Rows.uptoBulkAll] at hk
  exact walk A0 A1 k0 k1 x y a2 W hx hy (by omega) s0 s1

theorem proved : Rows.ObjectBackUptoSaid :=
  OpenClaim.holds_of_cond 6 Try.f6 rfl rfl rfl rfl rfl rfl rfl ⟨rfl, rfl, rfl, rfl, rfl⟩ rfl rfl rfl rfl rfl (by kernel_rfl) Try.func6 (by kernel_rfl)
    (of_decide_eq_true (by kernel_rfl)) (by unfold Func.isWrapper; first | (rw [if_pos (by decide +kernel)]; kernel_rfl) | (rw [if_neg (by decide +kernel)]; exact ⟨rfl, rfl⟩))
    (fun os started H enc _ F => lifted os started H enc F)
#print axioms proved
end Go.Proofs.Ytlgjbdgolchadaa.objectBack
