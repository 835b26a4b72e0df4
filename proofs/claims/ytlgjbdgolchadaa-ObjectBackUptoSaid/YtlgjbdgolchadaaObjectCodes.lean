/-
  For all things and bytes that are together of bulk at most 1048576 the law ObjectCodes returns true, and changes nothing that there was.
-/
import Derived.Test.YtlgjbdgolchadaaPut
import Derived.Test.YtlgjbdgolchadaaGet
import Derived.Test.YtlgjbdgolchadaaRGetB
import Derived.Test.YtlgjbdgolchadaaEnd5
namespace Go.Proofs.Ytlgjbdgolchadaa.objectCodes
open Go.RowKit law bytes nums ord obj code same
open Go.ChangeShapes Go.WideShapes Go.ChangeAt
set_option linter.unusedVariables false

theorem bulk_obj2 {H : Type} {d0 d1 : DataW H} {x : Thing} {A : Option Addr} {c : Nat} (h : (A = none ∧ c = 0 ∧ x.vec = [] ∧ d1 = .nil) ∨ ∃ el sp, d1 = .slice el sp ∧ el.length = x.vec.length ∧ el.length + sp.length = c) :
    x.vec.length + x.str.size + 2 ≤ Rows.uptoBulk (.agg [d0, d1, .lit (.string (tl x.str))] : DataW H) := by
  have hs := tl_len x.str
  simp only [Rows.uptoBulk, Rows.uptoBulkAll, hs]
  rcases h with ⟨_, _, h, rfl⟩ | ⟨el, sp, rfl, h, _⟩
  · rw [h]; simp; omega
  · have := bulk_slice el sp
    omega
/-- what small parts are written as is small -/
theorem small {l : List Part} (hok : ∀ q ∈ l, Ok q) (h : l.length + (l.map fun q => q.t.size).sum ≤ 1048576) :
    (∀ k, k ≤ l.length → (encL (l.take k)).length + 20 ≤ 140737488355000) ∧ l.length ≤ 140737488355328 ∧ ∀ k (h : k < l.length), (encL (l.take k)).length + 20 + l[k].t.size ≤ 140737488355000 := by
  have hsum : ∀ k, ((l.take k).map fun q => q.t.size).sum ≤ (l.map fun q => q.t.size).sum := fun k => by
    have e : (l.map fun q => q.t.size).sum = ((l.take k).map fun q => q.t.size).sum + ((l.drop k).map fun q => q.t.size).sum := by rw [← List.sum_append, ← List.map_append, List.take_append_drop]
    omega
  have hlen : ∀ k, k ≤ l.length → (encL (l.take k)).length ≤ 10 * k + (l.map fun q => q.t.size).sum := fun k hk => by
    have h1 := encL_len (l.take k) (fun q hq => hok q (List.mem_of_mem_take hq)) 1048576 (Nat.le_trans (hsum k) (by omega)) (by omega)
    have h2 := hsum k
    rw [List.length_take, Nat.min_eq_left hk] at h1
    omega
  refine ⟨fun k hk => by have := hlen k hk; omega, by omega, fun k hk => ?_⟩
  have h1 := hlen k (by omega)
  have h2 : l[k].t.size ≤ (l.map fun q => q.t.size).sum := by
    have := hsum (k + 1)
    rw [List.take_succ_eq_append_getElem hk, List.map_append, List.sum_append] at this
    simp only [List.map_cons, List.map_nil, List.sum_cons, List.sum_nil] at this
    omega
  omega
theorem bytes_on {P : Program} {f : FuncId} {args : Array Value} {V W : World} {xs : List UInt8} (hb : Below V.heap.size V W) (h : Calls P f args W (ByteMade xs W)) :
    Calls P f args W fun e w' => ∃ A c, e = .returned (.slice A xs.length c) ∧ Sl w' w'.heap.size A (bv xs) ∧ Below W.heap.size W w' ∧ Below V.heap.size V w' :=
  h.mono fun e w' ⟨A, c, he, hc, hs, h2⟩ => ⟨A, c, he, hs, h2, hb.trans (h2.mono hb.size)⟩
theorem parts_on {P : Program} {f : FuncId} {args : Array Value} {V W : World} {x : Thing} (hb : Below V.heap.size V W) (h : Calls P f args W (PartsMade x W)) :
    Calls P f args W fun e w' => ∃ A c, e = .returned (.slice A (partsO x).length c) ∧ Sl w' w'.heap.size A (pcl (partsO x)) ∧ Below W.heap.size W w' ∧ Below V.heap.size V w' :=
  h.mono fun e w' ⟨A, c, he, hs, h2⟩ => ⟨A, c, he, hs, h2, hb.trans (h2.mono hb.size)⟩
theorem row_on {P : Program} {f : FuncId} {args : Array Value} {V W : World} {xs : List UInt8} (hb : Below V.heap.size V W) (h : Calls P f args W (RowMade xs W)) :
    Calls P f args W fun e w' => ∃ A c, e = .returned (.slice A xs.length c) ∧ Sl w' w'.heap.size A (bv xs) ∧ Below W.heap.size W w' ∧ Below V.heap.size V w' :=
  h.mono fun e w' ⟨v, he, A, c, hv, ho, h2⟩ => ⟨A, c, by rw [he, hv], Sl.of_own (hv ▸ ho), h2, hb.trans (h2.mono hb.size)⟩
theorem tells_on {P : Program} {f : FuncId} {args : Array Value} {V W : World} {b : Bool} (hb : Below V.heap.size V W) (h : Calls P f args W (same.Tells b W)) :
    Calls P f args W fun e w' => e = .returned (.bool b) ∧ Below V.heap.size V w' :=
  h.mono fun e w' ⟨he, k, hk⟩ => ⟨he, by rw [hk]; exact below_drewN' hb k⟩
theorem plain_on {P : Program} {f : FuncId} {args : Array Value} {V W : World} {v : Value} (hb : Below V.heap.size V W) (h : Calls P f args W fun e w' => e = .returned v ∧ W = w') :
    Calls P f args W fun e w' => e = .returned v ∧ Below V.heap.size V w' :=
  h.mono fun e w' ⟨he, hk⟩ => ⟨he, hk ▸ hb⟩
set_option maxHeartbeats 3000000 in
set_option maxRecDepth 100000 in
theorem walk (A0 A : Option Addr) (k0 cb : Nat) (x : Thing) (b : List UInt8) (w : World) (hok : Okay x) (hsm : x.vec.length + x.str.size + 2 ≤ 1048576) (hbm : b.length ≤ 1048576) (hcb : b.length ≤ cb) (s0 : Sl w w.heap.size A0 (iv x.vec)) (s1 : Sl w w.heap.size A (bv b)) :
    Calls Try.prog 5 #[.agg #[.int .i64 x.tag, .slice A0 x.vec.length k0, .string x.str], .slice A b.length cb] w fun e w' => e = .returned (.bool true) ∧ Below w.heap.size w w' := by
  have hpb := parts_bulk x
  have hpo := parts_ok hok (by omega)
  obtain ⟨p1, p2, p3⟩ := small hpo (by omega)
  have hel := encO_len hok (by omega) (by omega)
  have hep := encL_parts x
  have hgl := get_len ⟨b, 0⟩
  have hgv := get_vec_len ⟨b, 0⟩
  have hcl : nums.Clean ⟨b, 0⟩ := fun h => absurd rfl h
  simp only at hgl
  obtain ⟨hb0, hbx⟩ : Below w.heap.size w (w.alloc (.cells #[.int .i64 x.tag, .slice A0 x.vec.length k0, .string x.str] 24)) ∧ Blk (w.alloc (.cells #[.int .i64 x.tag, .slice A0 x.vec.length k0, .string x.str] 24)) w.heap.size 24 #[.int .i64 x.tag, .slice A0 x.vec.length k0, .string x.str] := ⟨box_blk _ _ _, Blk.new _ _ _⟩
  obtain ⟨V0, hV0⟩ : ∃ V, V = w.alloc (.cells #[.int .i64 x.tag, .slice A0 x.vec.length k0, .string x.str] 24) := ⟨_, rfl⟩
  rw [← hV0] at hb0 hbx
  have HNEW := Lib.hid (new_any V0)
  have HOK := Lib.hid hok
  go_enter Try.func5, Try.ntmps5
  go_wp2_with (fail)
  rw [← hV0]
  clear hV0
  refine HNEW.out.mono ?_
  rintro e w1 ⟨rfl, hb1, hw1⟩
  have hz0 := hb0.size
  have hx1 := hbx.below hb1 hbx.lt
  have hB1 := hb0.trans (hb1.mono hz0)
  obtain ⟨gw, hgw⟩ : ∃ g, g = V0.heap.size := ⟨_, rfl⟩
  rw [← hgw] at hw1 hz0 hb1 ⊢
  have hgx : w.heap.size < gw := by rw [hgw]; exact hbx.lt
  have HPUT := Lib.hid (put_any gw A0 k0 w.heap.size x [] w1 hw1 hz0 (s0.below hB1) HOK.out (by omega) (by omega) (by simp))
  obtain ⟨c0, c1, c2, cf⟩ := cells3 hx1
  clear HNEW hgw hw1 hb0 hbx
  go_wp2_with (fail)
  refine HPUT.out.mono ?_
  rintro e w2 ⟨rfl, hb2, hw2⟩
  rw [List.nil_append] at hw2
  have hx2 := hx1.below hb2 hgx
  have hB2 := hB1.trans (hb2.mono hz0)
  have HNR := Lib.hid (newr_any A b _ cb w.heap.size w2 rfl (by omega) hB2.size (s1.below hB2))
  clear HPUT hB1 hx1 hb2 hb1
  go_wp2_with (fail)
  refine HNR.out.mono ?_
  rintro e w3 ⟨gr, rfl, hgr, hr3, hb3⟩
  have hz2 := hB2.size
  have HGET := Lib.hid (get_any hr3 hcl (by simp only; omega))
  clear HNR
  go_wp2_with (fail)
  refine HGET.out.mono ?_
  rintro e w4 ⟨A4, k4, rfl, hg4, hr4, hs4⟩
  have hb4 : Below w2.heap.size w2 w4 := hb3.grown hg4 hb3.size (fun j hj => by injection hj; omega)
  have hB4 := hB2.trans (hb4.mono hz2)
  have hx4 := hx2.below hb4 hx2.lt
  have hw4 := Wr.below hw2 hb4
  obtain ⟨G, hG⟩ : ∃ G, G = getO ⟨b, 0⟩ := ⟨_, rfl⟩
  have hz4 := hB4.size
  have HRG := fun W (h1 : Below w.heap.size w W) => rget_any ⟨b, 0⟩ A cb w.heap.size W (s1.below h1) h1.size (by simp only; omega) hcb
  unfold RGot at HRG
  rw [← hG] at hr4 hs4 hgl hgv ⊢
  simp only [← hG] at HRG
  clear HGET hg4 hr3 hb3 hw2 hb4 hB2 hx2
  clear hG
  obtain ⟨gx, F⟩ := G
  simp only at hr4 hs4 hgl hgv HRG ⊢
  have HRG := Lib.hid HRG
  have hn7 := hx4.lt
  have n7 := Blk.new w4 24 #[.int .i64 gx.tag, .slice A4 gx.vec.length k4, .string gx.str]
  have hx5 := hx4.alloc (.cells #[.int .i64 gx.tag, .slice A4 gx.vec.length k4, .string gx.str] 24)
  have hw5 := Wr.below hw4 (box_blk w4 24 #[.int .i64 gx.tag, .slice A4 gx.vec.length k4, .string gx.str])
  have hr5 := hr4.alloc (.cells #[.int .i64 gx.tag, .slice A4 gx.vec.length k4, .string gx.str] 24)
  have hs5 := hs4.alloc (Nat.le_refl _) (.cells #[.int .i64 gx.tag, .slice A4 gx.vec.length k4, .string gx.str] 24)
  have hB5 := hB4.alloc hz4 (.cells #[.int .i64 gx.tag, .slice A4 gx.vec.length k4, .string gx.str] 24)
  obtain ⟨V5, hV5⟩ : ∃ V, V = w4.alloc (.cells #[.int .i64 gx.tag, .slice A4 gx.vec.length k4, .string gx.str] 24) := ⟨_, rfl⟩
  rw [← hV5] at n7 hx5 hw5 hr5 hs5 hB5
  have hz5 : w4.heap.size ≤ V5.heap.size := by rw [hV5]; simp
  go_wp2_with (fail)
  rw [← hV5]
  clear hV5
  refine (HRG.out V5 hB5).mono ?_
  rintro e w6 ⟨A6, k6, A7, k7, rfl, hs6, hs7, hk7, hb6⟩
  have hx6 := hx5.below hb6 hx5.lt
  have n76 := n7.below hb6 n7.lt
  have hw6 := Wr.below hw5 hb6
  have hr6 := hr5.below hb6 hr5.lt
  have hs56 := hs5.below (hb6.mono hz5)
  have hB6 := hB5.trans (hb6.mono hB5.size)
  have hz6 := hb6.size
  clear HRG hx4 hw4 hr4 hs4 hB4 hx5 n7 hw5 hr5 hs5 c0 c1 c2 cf hs7
  have n8 := Blk.new w6 24 #[.int .i64 gx.tag, .slice A6 gx.vec.length k6, .string gx.str]
  have n9 := Blk.new (w6.alloc (.cells #[.int .i64 gx.tag, .slice A6 gx.vec.length k6, .string gx.str] 24)) 40 #[.slice A7 F.b.length k7, .int .i64 F.e]
  rw [show (w6.alloc (.cells #[.int .i64 gx.tag, .slice A6 gx.vec.length k6, .string gx.str] 24)).heap.size = w6.heap.size + 1 from by simp] at n9
  have n8 := n8.alloc (.cells #[.slice A7 F.b.length k7, .int .i64 F.e] 40)
  have hx7 := (hx6.alloc (.cells #[.int .i64 gx.tag, .slice A6 gx.vec.length k6, .string gx.str] 24)).alloc (.cells #[.slice A7 F.b.length k7, .int .i64 F.e] 40)
  have n77 := (n76.alloc (.cells #[.int .i64 gx.tag, .slice A6 gx.vec.length k6, .string gx.str] 24)).alloc (.cells #[.slice A7 F.b.length k7, .int .i64 F.e] 40)
  have b67 : Below w6.heap.size w6 ((w6.alloc (.cells #[.int .i64 gx.tag, .slice A6 gx.vec.length k6, .string gx.str] 24)).alloc (.cells #[.slice A7 F.b.length k7, .int .i64 F.e] 40)) := ((Below.refl _ _).alloc (Nat.le_refl _) _).alloc (by simp) _
  have hw7 := Wr.below hw6 b67
  have hr7 := hr6.below b67 hr6.lt
  have hsa := hs56.below (b67.mono (by omega))
  have hsb := hs6.below b67
  have hB7 := hB6.trans (b67.mono hB6.size)
  have hz7 := b67.size
  go_wp2_with (fail)
  obtain ⟨V, hV⟩ : ∃ V, V = ((w6.alloc (.cells #[.int .i64 gx.tag, .slice A6 gx.vec.length k6, .string gx.str] 24)).alloc (.cells #[.slice A7 F.b.length k7, .int .i64 F.e] 40)) := ⟨_, rfl⟩
  rw [← hV] at n8 n9 hx7 n77 b67 hw7 hr7 hsa hsb hB7 hz7 ⊢
  clear hV hx6 n76 hw6 hr6 hs56 hs6 hB6 b67
  have HBY : Hid (∀ W, Below V.heap.size V W → Calls Try.prog 21 #[.pointer (some ⟨gw, 0, none⟩)] W (ByteMade (encO x) W)) := Lib.hid fun W hW => bytes_any gw (encO x) W (Wr.below hw7 hW) (by omega)
  have HPA : Hid (∀ W, Below V.heap.size V W → Calls Try.prog 23 #[.agg #[.int .i64 x.tag, .slice A0 x.vec.length k0, .string x.str]] W (PartsMade x W)) := Lib.hid fun W hW => parts_any A0 k0 w.heap.size x W (Nat.le_trans hB7.size hW.size) (s0.below (hB7.trans (hW.mono hB7.size))) HOK.out (by omega)
  have HWR : Hid (∀ W A c, Sl W W.heap.size A (pcl (partsO x)) → Calls Try.prog 22 #[.slice A (partsO x).length c] W (RowMade (encO x) W)) := Lib.hid fun W A c hs => by
    have h := rwrite_any A (partsO x) c W hs hpo p1 p2 p3
    rwa [hep] at h
  have HSA : Hid (∀ W A c A' c' B B', Sl W B A (bv (encO x)) → Sl W B' A' (bv (encO x)) → Calls Try.prog 20 #[.slice A (encO x).length c, .slice A' (encO x).length c'] W (same.Tells true W)) := Lib.hid fun W A c A' c' B B' h1 h2 => by
    have h := same.same_any A A' (encO x) (encO x) _ _ c c' B B' W rfl rfl (by omega) h1 h2
    rwa [decide_eq_true rfl] at h
  have HRS : Hid (∀ W, Below V.heap.size V W → Calls Try.prog 24 #[.agg #[.int .i64 gx.tag, .slice A4 gx.vec.length k4, .string gx.str], .agg #[.int .i64 gx.tag, .slice A6 gx.vec.length k6, .string gx.str]] W (Gives (.bool true) W)) := Lib.hid fun W hW => by
    have h1 := hW.size
    have h := rsame_any A4 A6 k4 k6 w4.heap.size w6.heap.size gx gx W (by omega) (by omega) (by omega) (by omega) (hsa.below (hW.mono (by omega))) (hsb.below (hW.mono (by omega)))
    rwa [sameO_rfl] at h
  have HLE : Hid (∀ W, Below V.heap.size V W → Calls Try.prog 25 #[.pointer (some ⟨gr, 0, none⟩)] W fun e w' => e = .returned (.int .i64 F.b.length) ∧ W = w') := Lib.hid fun W hW => left_any gr F W (hr7.below hW hr7.lt) (by omega)
  have HEN : Hid (∀ W, Below V.heap.size V W → Calls Try.prog 26 #[.pointer (some ⟨gr, 0, none⟩)] W fun e w' => e = .returned (.int .i64 (endP F)) ∧ W = w') := Lib.hid fun W hW => end_any gr F W (hr7.below hW hr7.lt) (by omega)
  have HRE : Hid (∀ W, Calls Try.prog 27 #[.agg #[.slice A7 F.b.length k7, .int .i64 F.e]] W (Gives (.int .i64 (endP F)) W)) := Lib.hid fun W => rend_any A7 F k7 W (by omega)
  have hS : ∀ w' : World, Below V.heap.size V w' → (w'.cell? ⟨w.heap.size, 0, none⟩ = some (.int .i64 x.tag) ∧ w'.cell? ⟨w.heap.size, 1, none⟩ = some (.slice A0 x.vec.length k0) ∧ w'.cell? ⟨w.heap.size, 2, none⟩ = some (.string x.str) ∧
      w'.cell? ⟨w4.heap.size, 0, none⟩ = some (.int .i64 gx.tag) ∧ w'.cell? ⟨w4.heap.size, 1, none⟩ = some (.slice A4 gx.vec.length k4) ∧ w'.cell? ⟨w4.heap.size, 2, none⟩ = some (.string gx.str) ∧
      w'.cell? ⟨w6.heap.size, 0, none⟩ = some (.int .i64 gx.tag) ∧ w'.cell? ⟨w6.heap.size, 1, none⟩ = some (.slice A6 gx.vec.length k6) ∧ w'.cell? ⟨w6.heap.size, 2, none⟩ = some (.string gx.str) ∧
      w'.cell? ⟨w6.heap.size + 1, 0, none⟩ = some (.slice A7 F.b.length k7) ∧ w'.cell? ⟨w6.heap.size + 1, 1, none⟩ = some (.int .i64 F.e)) := fun w' h => by
    obtain ⟨r0, r1, r2, -⟩ := cells3 (hx7.below h hx7.lt)
    obtain ⟨l0, l1, l2, -⟩ := cells3 (n77.below h n77.lt)
    obtain ⟨m0, m1, m2, -⟩ := cells3 (n8.below h n8.lt)
    obtain ⟨o0, o1, -⟩ := cells2 (n9.below h n9.lt)
    exact ⟨r0, r1, r2, l0, l1, l2, m0, m1, m2, o0, o1⟩
  have HS := Lib.hid hS
  have HB := Lib.hid hB7
  have hB0 : Below V.heap.size V V.drew := (Below.refl _ _).drew
  obtain ⟨c0, c1, c2, d0, d1, d2, q0, q1, q2, r0, r1⟩ := hS V (Below.refl _ _)
  clear hS hx7 n77 n8 n9 hw7 hr7 hsa hsb hB7 hpo p1 p2 p3 hep hpb s0 s1
  generalize w.heap.size = g0 at HS c0 c1 c2 ⊢
  generalize w4.heap.size = g4 at HS d0 d1 d2 ⊢
  generalize w6.heap.size = g6 at HS q0 q1 q2 r0 r1 ⊢
  clear hz0 hgx hz2 hgr hz4 hn7 hz5 hz6 hz7
  go_region_held3 (fun w' => w'.cell? ⟨g0, 0, none⟩ = some (.int .i64 x.tag) ∧ w'.cell? ⟨g0, 1, none⟩ = some (.slice A0 x.vec.length k0) ∧ w'.cell? ⟨g0, 2, none⟩ = some (.string x.str) ∧
      w'.cell? ⟨g4, 0, none⟩ = some (.int .i64 gx.tag) ∧ w'.cell? ⟨g4, 1, none⟩ = some (.slice A4 gx.vec.length k4) ∧ w'.cell? ⟨g4, 2, none⟩ = some (.string gx.str) ∧
      w'.cell? ⟨g6, 0, none⟩ = some (.int .i64 gx.tag) ∧ w'.cell? ⟨g6, 1, none⟩ = some (.slice A6 gx.vec.length k6) ∧ w'.cell? ⟨g6, 2, none⟩ = some (.string gx.str) ∧
      w'.cell? ⟨g6 + 1, 0, none⟩ = some (.slice A7 F.b.length k7) ∧ w'.cell? ⟨g6 + 1, 1, none⟩ = some (.int .i64 F.e))
    ((refine HS.out _ ?_; (first | (with_reducible exact Below.refl _ _) | (with_reducible assumption))))
    (first
      | (go_at_call 21; (with_reducible refine (bytes_on (by with_reducible assumption) (HBY.out _ (by with_reducible assumption))).mono ?_); rintro e u1 ⟨B1, l1, rfl, sb1, rb1, hb1⟩)
      | (go_at_call 23; (with_reducible refine (parts_on (by with_reducible assumption) (HPA.out _ (by with_reducible assumption))).mono ?_); rintro e u2 ⟨B2, l2, rfl, sb2, rb2, hb2⟩)
      | (go_at_call 22; (with_reducible refine (row_on (by with_reducible assumption) (HWR.out _ _ _ sb2)).mono ?_); rintro e u3 ⟨B3, l3, rfl, sb3, rb3, hb3⟩)
      | (go_at_call 20; (with_reducible refine (tells_on (by with_reducible assumption) (HSA.out _ _ _ _ _ _ _ ((sb1.below rb2).below (rb3.mono rb2.size)) sb3)).mono ?_); rintro e u4 ⟨rfl, hb4⟩)
      | (go_at_call 24; (with_reducible refine (on (by with_reducible assumption) (HRS.out _ (by with_reducible assumption))).mono ?_); rintro e u5 ⟨rfl, hb5⟩)
      | (go_at_call 25; (with_reducible refine (HLE.out _ (by with_reducible assumption)).mono ?_); rintro e u6 ⟨rfl, rfl⟩)
      | (go_at_call 26; (with_reducible refine (HEN.out _ (by with_reducible assumption)).mono ?_); rintro e u7 ⟨rfl, rfl⟩)
      | (go_at_call 27; (with_reducible refine (on (by with_reducible assumption) (HRE.out _)).mono ?_); rintro e u8 ⟨rfl, hb8⟩)
      | (go_at_call 10; (with_reducible refine (on (by with_reducible assumption) (lives_any _)).mono ?_); rintro e u9 ⟨rfl, hb9⟩))
  all_goals
    go_wp2_with (fail)
    go_ret
    exact ⟨rfl, HB.out.trans (hb9.mono HB.out.size)⟩
theorem lifted (os : Os) (started : os.Started) (H : Type) (enc : TypeId × Value → H) (F : Stop.Interp) :
    ReturnsInHanded {} Try.checked os 5 .any ((Rows.OpenSpec.upto Rows.objectCodesSpec).pre6 enc Try.prog Try.f5 Rows.objectCodesUptoRow.domain false) (((Rows.OpenSpec.upto Rows.objectCodesSpec).at F).post enc Try.prog Try.f5 false true false false) := by
  refine lift_upto (C := Try.checked) (by kernel_rfl) started (by kernel_rfl) Try.func5 rfl (by kernel_rfl) (by kernel_rfl) rfl Try.underlying4
    (fun ds hd => by match ds, hd with | [_, _], _ => exact ⟨rfl, rfl, rfl⟩)
    (OpenSpec.witness (enc := enc) (C := Try.checked) (s := Rows.OpenSpec.upto Rows.objectCodesSpec) (k := Rows.uptoSmall) rfl false ⟨#[], #[.agg #[.int .i64 0, .slice none 0 0, .string ⟨#[]⟩], .slice none 0 0], []⟩ 8 (by kernel_rfl) (by kernel_rfl) (by kernel_rfl)
      (x := ([.agg [.lit (.int .i64 0), .nil, .lit (.string [])], .nil], [], [])) (by kernel_rfl) rfl (by kernel_rfl)) ?_
  intro W base args ds before hval0 hA0 hfz hk
  have hval : ∀ (j : Nat) t v, Try.f5.params[j]? = some t → args[j]? = some v → Value.okWide Try.prog W .any base t v := hval0
  have hA : DataW.TrodAll enc Try.prog W 0 (fun _ => true) true Try.f5.params.toList args.toList ds before := hA0
  rw [Try.params5] at hA hval
  obtain ⟨v0, vs0, d0, ds0, p0, q0, hargs, rfl, rfl, h0, r0⟩ := trodAll_cons hA
  obtain ⟨v1, vs1, d1, ds1, p1, q1, rfl, rfl, rfl, h1, r1⟩ := trodAll_cons r0
  obtain ⟨rfl, rfl, rfl⟩ := trodAll_nil r1
  obtain rfl : args = #[v0, v1] := by cases args; simp_all
  obtain ⟨A0, k0, x, dd0, dd1, rfl, hc0, s0, hok, rfl, e0⟩ := open_obj Try.underlying24 (by kernel_rfl) (by kernel_rfl) Try.underlying3 Try.underlying22 Try.underlying21 (by kernel_rfl) Try.underlying9 (hval 0 24 v0 rfl rfl) h0
  obtain ⟨A1, c1, b, rfl, hc1, hs1, hd1⟩ := open_bytes Try.underlying32 Try.underlying5 (by kernel_rfl) (hval 1 32 v1 rfl rfl) h1
  have hb0 := bulk_obj2 (d0 := dd0) e0
  have hb1 := bytes_bulk hd1
  simp only [Rows.uptoBulkAll] at hk
  exact walk A0 A1 k0 c1 x b W hok (by omega) (by omega) hc1 s0 hs1

theorem proved : Rows.ObjectCodesUptoSaid :=
  OpenClaim.holds_of_cond 5 Try.f5 rfl rfl rfl rfl rfl rfl rfl ⟨rfl, rfl, rfl, rfl, rfl⟩ rfl rfl rfl rfl rfl (by kernel_rfl) Try.func5 (by kernel_rfl)
    (of_decide_eq_true (by kernel_rfl)) (by unfold Func.isWrapper; first | (rw [if_pos (by decide +kernel)]; kernel_rfl) | (rw [if_neg (by decide +kernel)]; exact ⟨rfl, rfl⟩))
    (fun os started H enc _ F => lifted os started H enc F)
#print axioms proved
end Go.Proofs.Ytlgjbdgolchadaa.objectCodes
