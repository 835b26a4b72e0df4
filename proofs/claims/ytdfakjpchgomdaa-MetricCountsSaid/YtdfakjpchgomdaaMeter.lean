/-
  The contracts of a meter: New, Dist, Upto, Metric, Calls; of none.
-/
import Derived.Test.YtdfakjpchgomdaaRLo
namespace Go.Proofs.Ytdfakjpchgomdaa.metric
open Go.RowKit law bytes nums ord obj
set_option linter.unusedVariables false

/-- a meter of a metric, asked k times, at block g -/
def Mt (w : World) (g : Nat) (n k : Int) : Prop := Blk w g 51 #[.int .i64 n, .int .i64 k]
/-- a value; the meter's block alone has turned: it was asked k times -/
def Asked (g : Nat) (n k : Int) (v : Value) (w : World) (e : Ending) (w' : World) : Prop := e = .returned v ∧ w.grownBy w' (some g) ∧ Mt w' g n k
theorem below_grown {w w' : World} {B : Nat} (h : Below B w w') (hB : w.heap.size ≤ B) (row : Option Nat) : w.grownBy w' row := ⟨h.os, h.tape, h.output, h.size, fun i hi _ => h.block i (Nat.lt_of_lt_of_le hi hB)⟩
/-- numbers of 32 bits lie in no block of other cells -/
theorem Sl.past {w w' : World} {A : Option Addr} {l : List Int} {g : Nat} {t : TypeId} {cs : Array Value} (h : Sl w w.heap.size A (iv l)) (hm : Blk w g t cs) (hc : ∀ (i : Nat) (n : Int), cs[i]? ≠ some (.int .i32 n)) (hg : w.grownBy w' (some g)) : Sl w' w'.heap.size A (iv l) := fun j u hj => by
  obtain ⟨ad, rfl, hb, hcell⟩ := h j u hj
  refine ⟨ad, rfl, Nat.lt_of_lt_of_le hb hg.size, ?_⟩
  have hne : (ad.add j).block ≠ g := fun e => by
    have e2 : w.heap[(ad.add j).block]? = some (.cells cs t (0, 0)) := e ▸ hm
    simp only [World.cell?, e2] at hcell
    split at hcell
    · cases hcell
    · simp only [iv, List.getElem?_map, Option.map_eq_some_iff] at hj
      obtain ⟨n, -, rfl⟩ := hj
      exact hc _ n hcell
  exact (World.cell?_of_block (hg.block (ad.add j).block (by rw [blk_add]; exact hb) (fun e => hne (by injection e)))).trans hcell
theorem Mt.past {w w' : World} {A : Option Addr} {l : List Int} {g : Nat} {n k : Int} (hm : Mt w g n k) (h : Sl w w.heap.size A (iv l)) (hg : w.grownBy w' (some g)) : Sl w' w'.heap.size A (iv l) :=
  Sl.past h hm (fun i m => by match i with | 0 => simp | 1 => simp | i + 2 => simp) hg
theorem Mt.below {w w' : World} {B g : Nat} {n k : Int} (hm : Mt w g n k) (hb : Below B w w') (hg : g < B) : Mt w' g n k := Blk.below hm hb hg
theorem Mt.lt {w : World} {g : Nat} {n k : Int} (hm : Mt w g n k) : g < w.heap.size := Blk.lt hm
theorem Mt.grown {w w' : World} {g : Nat} {n k : Int} {row : Option Nat} (hm : Mt w g n k) (hb : w.grownBy w' row) (hg : some g ≠ row) : Mt w' g n k := Blk.grown hm hb hg
/-- two things and a meter's metric, in memory -/
def Held (W : World) (g b : Nat) (n : Int) (A A' : Option Addr) (c c' : Nat) (x y : Thing) : Prop :=
  W.cell? ⟨g, 0, none⟩ = some (.int .i64 n) ∧ W.cell? ⟨b, 0, none⟩ = some (.int .i64 x.tag) ∧ W.cell? ⟨b, 1, none⟩ = some (.slice A x.vec.length c) ∧ W.cell? ⟨b, 2, none⟩ = some (.string x.str) ∧ W.cell? ⟨b + 1, 0, none⟩ = some (.int .i64 y.tag) ∧ W.cell? ⟨b + 1, 1, none⟩ = some (.slice A' y.vec.length c') ∧ W.cell? ⟨b + 1, 2, none⟩ = some (.string y.str)
theorem held_of {W : World} {g b : Nat} {n k : Int} {A A' : Option Addr} {c c' : Nat} {x y : Thing} (hm : Mt W g n k) (ha : Blk W b 24 #[.int .i64 x.tag, .slice A x.vec.length c, .string x.str]) (hb : Blk W (b + 1) 24 #[.int .i64 y.tag, .slice A' y.vec.length c', .string y.str]) : Held W g b n A A' c c' x y := by
  obtain ⟨c0, c1, c2, cf⟩ := cells3 ha
  obtain ⟨d0, d1, d2, df⟩ := cells3 hb
  exact ⟨Blk.cell hm 0, c0, c1, c2, d0, d1, d2⟩
/-- two things boxed, and a meter's count one more -/
theorem asked_start {w : World} {g : Nat} {n k : Int} (hm : Mt w g n k) {A A' : Option Addr} {c c' : Nat} {x y : Thing} (s1 : Sl w w.heap.size A (iv x.vec)) (s2 : Sl w w.heap.size A' (iv y.vec)) (V : World) (hV : V = ((w.alloc (.cells #[.int .i64 x.tag, .slice A x.vec.length c, .string x.str] 24)).alloc (.cells #[.int .i64 y.tag, .slice A' y.vec.length c', .string y.str] 24)).setCell ⟨g, 1, none⟩ (.int .i64 (k + 1))) :
    w.grownBy V (some g) ∧ Mt V g n (k + 1) ∧ Blk V w.heap.size 24 #[.int .i64 x.tag, .slice A x.vec.length c, .string x.str] ∧ Blk V (w.heap.size + 1) 24 #[.int .i64 y.tag, .slice A' y.vec.length c', .string y.str] ∧ w.heap.size + 1 < V.heap.size ∧ Sl V V.heap.size A (iv x.vec) ∧ Sl V V.heap.size A' (iv y.vec) := by
  obtain ⟨hb, hba, hbb⟩ := two_box w 24 #[.int .i64 x.tag, .slice A x.vec.length c, .string x.str] #[.int .i64 y.tag, .slice A' y.vec.length c', .string y.str]
  have hgw := hm.lt
  have hgr : w.grownBy V (some g) := by
    rw [hV]
    exact only_setCell (only_alloc (only_alloc (only_refl w _) _) _) (.inl rfl) _
  have h1 : Mt V g n (k + 1) := by
    rw [hV]
    exact Blk.set_ (Blk.below hm hb hgw) 1 _
  have h2 : Blk V w.heap.size 24 #[.int .i64 x.tag, .slice A x.vec.length c, .string x.str] := by
    rw [hV]
    exact hba.far (p := ⟨g, 1, none⟩) (by simp; omega) _
  have h3 : Blk V (w.heap.size + 1) 24 #[.int .i64 y.tag, .slice A' y.vec.length c', .string y.str] := by
    rw [hV]
    exact hbb.far (p := ⟨g, 1, none⟩) (by simp; omega) _
  exact ⟨hgr, h1, h2, h3, h3.lt, hm.past s1 hgr, hm.past s2 hgr⟩
set_option maxRecDepth 100000 in
set_option maxHeartbeats 3200000 in
theorem cdist_any {g : Nat} {n k : Int} (A A' : Option Addr) (c c' : Nat) (x y : Thing) (hx : Small x) (hy : Small y) (w : World) (s1 : Sl w w.heap.size A (iv x.vec)) (s2 : Sl w w.heap.size A' (iv y.vec)) (hm : Mt w g n k) (hk : 0 ≤ k ∧ k < 9223372036854775807) :
    Calls Try.prog 17 #[.pointer (some ⟨g, 0, none⟩), .agg #[.int .i64 x.tag, .slice A x.vec.length c, .string x.str], .agg #[.int .i64 y.tag, .slice A' y.vec.length c', .string y.str]] w (Asked g n (k + 1) (.int .i64 (M n x y)) w) := by
  have hst := fun V hV => asked_start (V := V) (c := c) (c' := c') hm s1 s2 hV
  obtain ⟨V, hV⟩ : ∃ V, V = ((w.alloc (.cells #[.int .i64 x.tag, .slice A x.vec.length c, .string x.str] 24)).alloc (.cells #[.int .i64 y.tag, .slice A' y.vec.length c', .string y.str] 24)).setCell ⟨g, 1, none⟩ (.int .i64 (k + 1)) := ⟨_, rfl⟩
  obtain ⟨hgr, hmV, hba, hbb, hlt, t1, t2⟩ := hst V hV
  clear hst
  have hD : ∀ W, Below V.heap.size V W → Calls Try.prog 10 #[.int .i64 n, .agg #[.int .i64 x.tag, .slice A x.vec.length c, .string x.str], .agg #[.int .i64 y.tag, .slice A' y.vec.length c', .string y.str]] W (Gives (.int .i64 (M n x y)) W) := fun W hW => mdist_any n A A' c c' x y hx hy W ((t1.below hW).more hW.size) ((t2.below hW).more hW.size)
  have hS : ∀ W : World, Below V.heap.size V W → Held W g w.heap.size n A A' c c' x y := fun W hW => held_of (hmV.below hW (hmV.lt)) (hba.below hW hba.lt) (hbb.below hW hbb.lt)
  have hend : ∀ W, Below V.heap.size V W → w.grownBy W (some g) ∧ Mt W g n (k + 1) := fun W hW => ⟨only_trans hgr (below_grown hW (Nat.le_refl _) _), hmV.below hW hmV.lt⟩
  have hw : IntKind.i64.wrap (k + 1) = k + 1 := wr64 (by omega) (by omega)
  have hw' : wrap64 (k + 1) = k + 1 := lone.w64 _ (by omega)
  obtain ⟨c0, c1⟩ : w.cell? ⟨g, 0, none⟩ = some (.int .i64 n) ∧ w.cell? ⟨g, 1, none⟩ = some (.int .i64 k) := ⟨Blk.cell hm 0, Blk.cell hm 1⟩
  have cf := Blk.frozen hm
  obtain ⟨hb0, -, -⟩ := two_box w 24 #[.int .i64 x.tag, .slice A x.vec.length c, .string x.str] #[.int .i64 y.tag, .slice A' y.vec.length c', .string y.str]
  have hm2 := Blk.below hm hb0 hm.lt
  have p0 := Blk.cell hm2 0
  have p1 := Blk.cell hm2 1
  have pf := Blk.frozen hm2
  simp only [List.getElem?_toArray] at p0 p1
  generalize M n x y = d at hD ⊢
  have HD := Lib.hid hD
  have HS := Lib.hid hS
  have HE := Lib.hid hend
  clear hD hS hend hgr hmV hba hbb hlt t1 t2 hk s1 s2 hm hm2 hb0 hx hy
  go_enter Try.func17, Try.ntmps17
  go_wp2_with (fail)
  rw [← hV]
  clear hV p0 p1 pf c0 c1 cf hw hw'
  have hB0 : Below V.heap.size V V := Below.refl _ _
  obtain ⟨q0, q1, q2, q3, q4, q5, q6⟩ := HS.out V hB0
  generalize w.heap.size = b at HS q0 q1 q2 q3 q4 q5 q6 ⊢
  go_region_held3 (fun W => W.cell? ⟨g, 0, none⟩ = some (.int .i64 n) ∧ W.cell? ⟨b, 0, none⟩ = some (.int .i64 x.tag) ∧ W.cell? ⟨b, 1, none⟩ = some (.slice A x.vec.length c) ∧ W.cell? ⟨b, 2, none⟩ = some (.string x.str) ∧ W.cell? ⟨b + 1, 0, none⟩ = some (.int .i64 y.tag) ∧ W.cell? ⟨b + 1, 1, none⟩ = some (.slice A' y.vec.length c') ∧ W.cell? ⟨b + 1, 2, none⟩ = some (.string y.str)) ((refine HS.out _ ?_; (first | (with_reducible exact Below.refl _ _) | (with_reducible exact Below.drew (Below.refl _ _)) | (with_reducible assumption))))
    (first
      | (go_at_call 10; (with_reducible refine (obj.on (by first | with_reducible assumption | with_reducible exact Below.drew (Below.refl _ _)) (HD.out _ (by first | with_reducible assumption | with_reducible exact Below.drew (Below.refl _ _)))).mono ?_); rintro e w2 ⟨rfl, hb2⟩))
  all_goals
    go_wp2_with (fail)
    go_ret
    exact ⟨rfl, HE.out _ (by assumption)⟩
set_option maxRecDepth 100000 in
set_option maxHeartbeats 3200000 in
theorem cupto_any {g : Nat} {n k : Int} (A A' : Option Addr) (c c' : Nat) (x y : Thing) (hx : Small x) (hy : Small y) (w : World) (s1 : Sl w w.heap.size A (iv x.vec)) (s2 : Sl w w.heap.size A' (iv y.vec)) (hm : Mt w g n k) (hk : 0 ≤ k ∧ k < 9223372036854775807) (most : Int) :
    Calls Try.prog 16 #[.pointer (some ⟨g, 0, none⟩), .agg #[.int .i64 x.tag, .slice A x.vec.length c, .string x.str], .agg #[.int .i64 y.tag, .slice A' y.vec.length c', .string y.str], .int .i64 most] w (Asked g n (k + 1) (upv (M n x y) most) w) := by
  have hst := fun V hV => asked_start (V := V) (c := c) (c' := c') hm s1 s2 hV
  obtain ⟨V, hV⟩ : ∃ V, V = ((w.alloc (.cells #[.int .i64 x.tag, .slice A x.vec.length c, .string x.str] 24)).alloc (.cells #[.int .i64 y.tag, .slice A' y.vec.length c', .string y.str] 24)).setCell ⟨g, 1, none⟩ (.int .i64 (k + 1)) := ⟨_, rfl⟩
  obtain ⟨hgr, hmV, hba, hbb, hlt, t1, t2⟩ := hst V hV
  clear hst
  have hD : ∀ W, Below V.heap.size V W → Calls Try.prog 9 #[.int .i64 n, .agg #[.int .i64 x.tag, .slice A x.vec.length c, .string x.str], .agg #[.int .i64 y.tag, .slice A' y.vec.length c', .string y.str], .int .i64 most] W (Gives (upv (M n x y) most) W) := fun W hW => mupto_any n A A' c c' x y hx hy W ((t1.below hW).more hW.size) ((t2.below hW).more hW.size) most
  have hS : ∀ W : World, Below V.heap.size V W → Held W g w.heap.size n A A' c c' x y := fun W hW => held_of (hmV.below hW (hmV.lt)) (hba.below hW hba.lt) (hbb.below hW hbb.lt)
  have hend : ∀ W, Below V.heap.size V W → w.grownBy W (some g) ∧ Mt W g n (k + 1) := fun W hW => ⟨only_trans hgr (below_grown hW (Nat.le_refl _) _), hmV.below hW hmV.lt⟩
  have hw : IntKind.i64.wrap (k + 1) = k + 1 := wr64 (by omega) (by omega)
  have hw' : wrap64 (k + 1) = k + 1 := lone.w64 _ (by omega)
  obtain ⟨c0, c1⟩ : w.cell? ⟨g, 0, none⟩ = some (.int .i64 n) ∧ w.cell? ⟨g, 1, none⟩ = some (.int .i64 k) := ⟨Blk.cell hm 0, Blk.cell hm 1⟩
  have cf := Blk.frozen hm
  obtain ⟨hb0, -, -⟩ := two_box w 24 #[.int .i64 x.tag, .slice A x.vec.length c, .string x.str] #[.int .i64 y.tag, .slice A' y.vec.length c', .string y.str]
  have hm2 := Blk.below hm hb0 hm.lt
  have p0 := Blk.cell hm2 0
  have p1 := Blk.cell hm2 1
  have pf := Blk.frozen hm2
  simp only [List.getElem?_toArray] at p0 p1
  unfold upv at hD ⊢
  generalize ups (M n x y) most = r at hD ⊢
  generalize decide (M n x y ≤ most) = o at hD ⊢
  have HD := Lib.hid hD
  have HS := Lib.hid hS
  have HE := Lib.hid hend
  clear hD hS hend hgr hmV hba hbb hlt t1 t2 hk s1 s2 hm hm2 hb0 hx hy
  go_enter Try.func16, Try.ntmps16
  go_wp2_with (fail)
  rw [← hV]
  clear hV p0 p1 pf c0 c1 cf hw hw'
  have hB0 : Below V.heap.size V V := Below.refl _ _
  obtain ⟨q0, q1, q2, q3, q4, q5, q6⟩ := HS.out V hB0
  generalize w.heap.size = b at HS q0 q1 q2 q3 q4 q5 q6 ⊢
  go_region_held3 (fun W => W.cell? ⟨g, 0, none⟩ = some (.int .i64 n) ∧ W.cell? ⟨b, 0, none⟩ = some (.int .i64 x.tag) ∧ W.cell? ⟨b, 1, none⟩ = some (.slice A x.vec.length c) ∧ W.cell? ⟨b, 2, none⟩ = some (.string x.str) ∧ W.cell? ⟨b + 1, 0, none⟩ = some (.int .i64 y.tag) ∧ W.cell? ⟨b + 1, 1, none⟩ = some (.slice A' y.vec.length c') ∧ W.cell? ⟨b + 1, 2, none⟩ = some (.string y.str)) ((refine HS.out _ ?_; (first | (with_reducible exact Below.refl _ _) | (with_reducible exact Below.drew (Below.refl _ _)) | (with_reducible assumption))))
    (first
      | (go_at_call 9; (with_reducible refine (obj.on (by first | with_reducible assumption | with_reducible exact Below.drew (Below.refl _ _)) (HD.out _ (by first | with_reducible assumption | with_reducible exact Below.drew (Below.refl _ _)))).mono ?_); rintro e w2 ⟨rfl, hb2⟩))
  all_goals
    go_wp2_with (fail)
    refine bodyPost_ret (v := .tuple #[.int .i64 r, .bool o]) (by simp [results, Try.results16, go_sem]) rfl ?_
    exact ⟨rfl, HE.out _ (by assumption)⟩
/-! ### what it is, and none -/
theorem new_any (n : Int) (w : World) : Calls Try.prog 15 #[.int .i64 n] w fun e w' => e = .returned (.pointer (some ⟨w.heap.size, 0, none⟩)) ∧ Mt w' w.heap.size n 0 ∧ Below w.heap.size w w' := by
  have hb := box_blk w 51 #[.int .i64 n, .int .i64 0]
  have hm : Mt (w.alloc (.cells #[.int .i64 n, .int .i64 0] 51)) w.heap.size n 0 := Blk.new _ _ _
  have HM := Lib.hid hm
  have HB := Lib.hid hb
  clear hm hb
  go_enter Try.func15, Try.ntmps15
  go_wp2_with (fail)
  go_ret
  exact ⟨rfl, HM.out, HB.out⟩
theorem calls_any {g : Nat} {n k : Int} (w : World) (hm : Mt w g n k) : Calls Try.prog 18 #[.pointer (some ⟨g, 0, none⟩)] w fun e w' => e = .returned (.int .i64 k) ∧ w = w' := by
  have c1 : w.cell? ⟨g, 1, none⟩ = some (.int .i64 k) := Blk.cell hm 1
  clear hm
  go_enter Try.func18, Try.ntmps18
  go_wp2_with (fail)
  go_ret
  exact ⟨rfl, rfl⟩
theorem metric_any {g : Nat} {n k : Int} (w : World) (hm : Mt w g n k) : Calls Try.prog 19 #[.pointer (some ⟨g, 0, none⟩)] w fun e w' => e = .returned (.int .i64 n) ∧ w = w' := by
  have c1 : w.cell? ⟨g, 0, none⟩ = some (.int .i64 n) := Blk.cell hm 0
  clear hm
  go_enter Try.func19, Try.ntmps19
  go_wp2_with (fail)
  go_ret
  exact ⟨rfl, rfl⟩
theorem calls_none (w : World) : Calls Try.prog 18 #[.pointer none] w fun e w' => e = .returned (.int .i64 0) ∧ w = w' := by
  go_enter Try.func18, Try.ntmps18
  go_wp2_with (fail)
  go_ret
  exact ⟨rfl, rfl⟩
theorem metric_none (w : World) : Calls Try.prog 19 #[.pointer none] w fun e w' => e = .returned (.int .i64 0) ∧ w = w' := by
  go_enter Try.func19, Try.ntmps19
  go_wp2_with (fail)
  go_ret
  exact ⟨rfl, rfl⟩
theorem cdist_none (A A' : Option Addr) (c c' : Nat) (x y : Thing) (w : World) : Calls Try.prog 17 #[.pointer none, .agg #[.int .i64 x.tag, .slice A x.vec.length c, .string x.str], .agg #[.int .i64 y.tag, .slice A' y.vec.length c', .string y.str]] w (Gives (.int .i64 0) w) := by
  obtain ⟨hb, -, -⟩ := two_box w 24 #[.int .i64 x.tag, .slice A x.vec.length c, .string x.str] #[.int .i64 y.tag, .slice A' y.vec.length c', .string y.str]
  have HB := Lib.hid hb
  clear hb
  go_enter Try.func17, Try.ntmps17
  go_wp2_with (fail)
  go_ret
  exact ⟨rfl, HB.out⟩
theorem cupto_none (A A' : Option Addr) (c c' : Nat) (x y : Thing) (most : Int) (w : World) : Calls Try.prog 16 #[.pointer none, .agg #[.int .i64 x.tag, .slice A x.vec.length c, .string x.str], .agg #[.int .i64 y.tag, .slice A' y.vec.length c', .string y.str], .int .i64 most] w (Gives (.tuple #[.int .i64 0, .bool false]) w) := by
  obtain ⟨hb, -, -⟩ := two_box w 24 #[.int .i64 x.tag, .slice A x.vec.length c, .string x.str] #[.int .i64 y.tag, .slice A' y.vec.length c', .string y.str]
  have HB := Lib.hid hb
  clear hb
  go_enter Try.func16, Try.ntmps16
  go_wp2_with (fail)
  refine bodyPost_ret (v := .tuple #[.int .i64 0, .bool false]) (by simp [results, Try.results16, go_sem]) rfl ?_
  exact ⟨rfl, HB.out⟩
end Go.Proofs.Ytdfakjpchgomdaa.metric
