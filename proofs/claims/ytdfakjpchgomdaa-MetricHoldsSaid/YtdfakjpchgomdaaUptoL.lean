/-
  The contract of lone.Upto: how far two vectors are apart, if it is at most a number.
-/
import Derived.Test.YtdfakjpchgomdaaIter
import Derived.RangeFuncBox
namespace Go.Proofs.Ytdfakjpchgomdaa.lone
open Go.RowKit Go.Shelf law bytes dist
set_option linter.unusedVariables false
attribute [local go_sem] Oper.semAt_some

/-- a value, and nothing that there was has turned -/
def Gives (v : Value) (w : World) (e : Ending) (w' : World) : Prop := e = .returned v ∧ Below w.heap.size w w'
def sumW : List Int → Int := List.foldl (fun s v => wrap64 (s + v)) 0
theorem sumW_snoc (pre : List Int) (x : Int) : sumW (pre ++ [x]) = wrap64 (sumW pre + x) := by simp [sumW]
theorem sumW_gs {a b : List Int} (ha : Bd a) (hb : Bd b) {k : Nat} (hk : k ≤ 1048576) : sumW (gs a b k) = dk a b k := by
  induction k with
  | zero => rfl
  | succ k ih =>
    rw [gs_succ, sumW_snoc, ih (by omega), dk_succ]
    have h1 := dk_nonneg a b k
    have h2 := dk_le ha hb k
    have h3 := gp_nonneg (nm a k) (nm b k)
    have h4 := gp_le (nm_bd ha k) (nm_bd hb k)
    have h5 : (k : Int) * 4294967295 ≤ 1048576 * 4294967295 := Int.mul_le_mul_of_nonneg_right (by omega) (by omega)
    exact w64 _ (by omega)

theorem boxed_held {W W' : World} {B : Nat} {t : TypeId} {v : Value} {row : Option Nat} (h : Boxed W B t v) (hg : W.grownBy W' row) (hr : ∀ r, row = some r → ∃ o : Obj, W.heap[r]? = some o ∧ o.isCells = false) : Boxed W' B t v :=
  h.kept hg fun e => by
    obtain ⟨o, ho, hc⟩ := hr B e.symm
    rw [show W.heap[B]? = _ from h] at ho
    cases ho
    cases hc
theorem boxed_far {W : World} {B C : Nat} {t : TypeId} {v u : Value} (h : Boxed W B t v) (hne : B ≠ C) : Boxed (W.setCell ⟨C, 0, none⟩ u) B t v := h.kept (grownBy_setCell' W C u) (fun e => hne (by injection e))
/-- the four variables of the call: the bound, both results, the sum -/
def Vars (W : World) (g : Nat) (m r : Int) (o : Bool) (s : Int) : Prop :=
  Boxed W g 3 (.int .i64 m) ∧ Boxed W (g + 1) 3 (.int .i64 r) ∧ Boxed W (g + 1 + 1) 4 (.bool o) ∧ Boxed W (g + 1 + 1 + 1) 3 (.int .i64 s)
theorem Vars.held {W W' : World} {g : Nat} {m r s : Int} {o : Bool} {row : Option Nat} (h : Vars W g m r o s) (hg : W.grownBy W' row) (hr : ∀ r, row = some r → ∃ o : Obj, W.heap[r]? = some o ∧ o.isCells = false) : Vars W' g m r o s :=
  ⟨boxed_held h.1 hg hr, boxed_held h.2.1 hg hr, boxed_held h.2.2.1 hg hr, boxed_held h.2.2.2 hg hr⟩
theorem Vars.alloc {W : World} {g : Nat} {m r s : Int} {o : Bool} (h : Vars W g m r o s) (x : Obj) : Vars (W.alloc x) g m r o s := ⟨h.1.alloc x, h.2.1.alloc x, h.2.2.1.alloc x, h.2.2.2.alloc x⟩
theorem Vars.sum {W : World} {g : Nat} {m r s : Int} {o : Bool} (h : Vars W g m r o s) (s' : Int) : Vars (W.setCell ⟨g + 1 + 1 + 1, 0, none⟩ (.int .i64 s')) g m r o s' := ⟨boxed_far h.1 (by omega), boxed_far h.2.1 (by omega), boxed_far h.2.2.1 (by omega), h.2.2.2.set _⟩
theorem Vars.res {W : World} {g : Nat} {m r s : Int} {o : Bool} (h : Vars W g m r o s) (r' : Int) : Vars (W.setCell ⟨g + 1, 0, none⟩ (.int .i64 r')) g m r' o s := ⟨boxed_far h.1 (by omega), h.2.1.set _, boxed_far h.2.2.1 (by omega), boxed_far h.2.2.2 (by omega)⟩
theorem Vars.ok {W : World} {g : Nat} {m r s : Int} {o : Bool} (h : Vars W g m r o s) (o' : Bool) : Vars (W.setCell ⟨g + 1 + 1, 0, none⟩ (.bool o')) g m r o' s := ⟨boxed_far h.1 (by omega), boxed_far h.2.1 (by omega), h.2.2.1.set _, boxed_far h.2.2.2 (by omega)⟩

set_option maxRecDepth 100000 in
set_option maxHeartbeats 2000000 in
theorem upto_any (A1 A2 : Option Addr) (c1 c2 : Nat) (a b : List Int) (ha : Bd a) (hb : Bd b) (hla : a.length ≤ 1048576) (hlb : b.length ≤ 1048576) (most : Int) (w : World) (s1 : Sl w w.heap.size A1 (iv a)) (s2 : Sl w w.heap.size A2 (iv b)) :
    Calls Try.prog 24 #[.slice A1 a.length c1, .slice A2 b.length c2, .int .i64 most] w (Gives (.tuple #[.int .i64 (if D a b ≤ most then D a b else 0), .bool (decide (D a b ≤ most))]) w) := by
  refine (callsIn_wide (n := 6)).1 ?_
  refine callsIn_of_wp_marks Try.func24 rfl trivial ?_ rfl
  simp only [Try.ntmps24, List.size_toArray, List.length_cons, List.length_nil, Nat.reduceAdd, Nat.reduceSub, Array.replicate_succ, Array.replicate_zero, List.push_toArray, List.append_toArray, List.nil_append, List.cons_append]
  have hD0 := D_nonneg a b
  obtain ⟨r, hr⟩ : ∃ r : Int, r = if D a b ≤ most then D a b else 0 := ⟨_, rfl⟩
  obtain ⟨o, ho⟩ : ∃ o : Bool, o = decide (D a b ≤ most) := ⟨_, rfl⟩
  rw [← hr, ← ho]
  have hyes : D a b ≤ most → r = D a b ∧ o = true := fun h => ⟨by rw [hr, if_pos h], by rw [ho, decide_eq_true h]⟩
  have hno : most < D a b → r = 0 ∧ o = false := fun h => ⟨by rw [hr, if_neg (by omega)], by rw [ho, decide_eq_false (by omega)]⟩
  clear hr ho
  have HY := Lib.hid hyes
  have HN := Lib.hid hno
  clear hyes hno
  by_cases hm : most < 0
  · obtain ⟨rfl, rfl⟩ := HN.out (by omega)
    clear HY HN hD0
    have b1 := ((Boxed.new (w.alloc (.cells #[.int .i64 most] 3)) 3 (.int .i64 0)).alloc (.cells #[.bool false] 4)).cell
    have b2 := (Boxed.new ((w.alloc (.cells #[.int .i64 most] 3)).alloc (.cells #[.int .i64 0] 3)) 4 (.bool false)).cell
    rw [World.size_alloc] at b1
    rw [World.size_alloc, World.size_alloc] at b2
    have hB3 : Below w.heap.size w (((w.alloc (.cells #[.int .i64 most] 3)).alloc (.cells #[.int .i64 0] 3)).alloc (.cells #[.bool false] 4)) := (((Below.refl _ w).alloc (Nat.le_refl _) _).alloc (by simp) _).alloc (by simp; omega) _
    gi_wp2
    refine ⟨.tuple #[.int .i64 0, .bool false], ?_, rfl, hB3⟩
    simp [results, Try.f24, go_sem, b1, b2]
  · gi_wp2_with (refine ⟨trivial, ?_⟩; gi_at_call 36; refine (callsIn_wide.2 (gaps_any A1 A2 a.length b.length c1 c2 _)).mono ?_; rintro e w' ⟨rfl, rfl⟩)
    all_goals first | (exfalso; omega) | skip
    have v3 : Vars ((((w.alloc (.cells #[.int .i64 most] 3)).alloc (.cells #[.int .i64 0] 3)).alloc (.cells #[.bool false] 4)).alloc (.cells #[.int .i64 0] 3)) w.heap.size most 0 false 0 := by
      refine ⟨(((Boxed.new w _ _).alloc _).alloc _).alloc _, ?_, ?_, ?_⟩
      · have h := ((Boxed.new (w.alloc (.cells #[.int .i64 most] 3)) 3 (.int .i64 0)).alloc (.cells #[.bool false] 4)).alloc (.cells #[.int .i64 0] 3)
        rwa [World.size_alloc] at h
      · have h := (Boxed.new ((w.alloc (.cells #[.int .i64 most] 3)).alloc (.cells #[.int .i64 0] 3)) 4 (.bool false)).alloc (.cells #[.int .i64 0] 3)
        rwa [World.size_alloc, World.size_alloc] at h
      · have h := Boxed.new (((w.alloc (.cells #[.int .i64 most] 3)).alloc (.cells #[.int .i64 0] 3)).alloc (.cells #[.bool false] 4)) 3 (.int .i64 0)
        rwa [World.size_alloc, World.size_alloc, World.size_alloc] at h
    obtain ⟨W4, hW4⟩ : ∃ V, V = (((w.alloc (.cells #[.int .i64 most] 3)).alloc (.cells #[.int .i64 0] 3)).alloc (.cells #[.bool false] 4)).alloc (.cells #[.int .i64 0] 3) := ⟨_, rfl⟩
    have hB4 : Below w.heap.size w W4 := by rw [hW4]; exact ((((Below.refl _ w).alloc (Nat.le_refl _) _).alloc (by simp) _).alloc (by simp; omega) _).alloc (by simp; omega) _
    have hz4 : W4.heap.size = w.heap.size + 1 + 1 + 1 + 1 := by rw [hW4]; simp
    rw [← hW4] at v3 ⊢
    clear hW4
    have bA := (Boxed.new W4 22 (.slice A1 a.length c1)).alloc (.cells #[.slice A2 b.length c2] 22)
    have bB := Boxed.new (W4.alloc (.cells #[.slice A1 a.length c1] 22)) 22 (.slice A2 b.length c2)
    rw [World.size_alloc] at bB
    rw [hz4] at bA bB
    have v5 := (v3.alloc (.cells #[.slice A1 a.length c1] 22)).alloc (.cells #[.slice A2 b.length c2] 22)
    have hB5 : Below w.heap.size w ((W4.alloc (.cells #[.slice A1 a.length c1] 22)).alloc (.cells #[.slice A2 b.length c2] 22)) := (hB4.alloc (by omega) _).alloc (by simp; omega) _
    have hz5 : ((W4.alloc (.cells #[.slice A1 a.length c1] 22)).alloc (.cells #[.slice A2 b.length c2] 22)).heap.size = w.heap.size + 1 + 1 + 1 + 1 + 1 + 1 := by simp [hz4]
    obtain ⟨W5, hW5⟩ : ∃ V, V = (W4.alloc (.cells #[.slice A1 a.length c1] 22)).alloc (.cells #[.slice A2 b.length c2] 22) := ⟨_, rfl⟩
    rw [← hW5] at v5 bA bB hB5 hz5 ⊢
    clear hW5 v3 hz4 hB4
    refine wpIn_rangeFunc_ownF rfl (by omega) (gf := 45) (lb := #[.pointer (some ⟨w.heap.size + 1 + 1 + 1 + 1, 0, none⟩), .pointer (some ⟨w.heap.size + 1 + 1 + 1 + 1 + 1, 0, none⟩)]) rfl trivial (enters_of Try.func45 (by kernel_rfl) rfl)
      (iter_stops (6 - 1) (by omega) (w.heap.size + 1 + 1 + 1 + 1) (w.heap.size + 1 + 1 + 1 + 1 + 1) w.heap.size A1 A2 c1 c2 a b ha hb hla hlb W5 (by omega) (by omega) (by omega) bA.cell bB.cell (s1.below hB5) (s2.below hB5)) Kp.trans
      ?keeps (Below.refl _ _) (fun _ => rfl)
      (fun pre W => (Vars W w.heap.size most 0 false (sumW pre) ∧ sumW pre ≤ most) ∧ Below w.heap.size w W)
      (fun c pre W => (c = .ret ∧ most < sumW pre ∧ ∃ s, Vars W w.heap.size most 0 false s) ∧ Below w.heap.size w W)
      (OwnFrom.and (Own.from (fun s A B row hs hg hr => ⟨hs.1.held hg hr, hs.2⟩) _) (ownFrom_below (by omega) (by omega)))
      (fun c => OwnFrom.and (Own.from (fun s A B row hs hg hr => by obtain ⟨h1, h2, s', h3⟩ := hs; exact ⟨h1, h2, s', h3.held hg hr⟩) _) (ownFrom_below (by omega) (by omega)))
      ⟨⟨v5, by show (0 : Int) ≤ most; omega⟩, hB5⟩
      (fun x => { tmps := #[.slice A1 a.length c1, .slice A2 b.length c2, .int .i64 most, undef, undef, .pointer (some ⟨w.heap.size, 0, none⟩), .pointer (some ⟨w.heap.size + 1, 0, none⟩), .pointer (some ⟨w.heap.size + 1 + 1, 0, none⟩), .pointer (some ⟨w.heap.size + 1 + 1 + 1, 0, none⟩), .int .i64 x, .int .i64 most, .bool false, .slice A1 a.length c1, .slice A2 b.length c2, .func (.func 45) #[] #[.pointer (some ⟨w.heap.size + 1 + 1 + 1 + 1, 0, none⟩), .pointer (some ⟨w.heap.size + 1 + 1 + 1 + 1 + 1, 0, none⟩)], .int .i64 x, undef, undef, undef, undef, undef, undef, undef], defers := [] }) ?assign ?body ?done ?stop
    case keeps =>
      intro W l o o' hl h hc hw
      have hg := grownBy_putObj' W l o'
      have hlt := (Array.getElem?_eq_some_iff.1 h).1
      exact ⟨belowK_b (w := W5) (by omega) W l o o' hl h hc hw, World.cell?_of_block (hg.block (w.heap.size + 1 + 1 + 1 + 1) (by omega) (fun e => by injection e; omega)), World.cell?_of_block (hg.block (w.heap.size + 1 + 1 + 1 + 1 + 1) (by omega) (fun e => by injection e; omega))⟩
    case assign =>
      intro l x W K hK
      gi_wp2
      exact hK
    case body =>
      rintro l pre x W ⟨⟨hv, hs⟩, hB⟩ _
      have m0 := hv.1.cell
      have f1 := hv.2.1.frozen
      have e1 := hv.2.1.cell
      have f2 := hv.2.2.1.frozen
      have e2 := hv.2.2.1.cell
      have f3 := hv.2.2.2.frozen
      have e3 := hv.2.2.2.cell
      have hv1 := hv.sum (wrap64 (sumW pre + x))
      have hB1 := hB.setCell (p := ⟨w.heap.size + 1 + 1 + 1, 0, none⟩) (by simp; omega) (.int .i64 (wrap64 (sumW pre + x)))
      have k1 := KeepsOthers.setCell W ⟨w.heap.size + 1 + 1 + 1, 0, none⟩ (.int .i64 (wrap64 (sumW pre + x)))
      gi_wp2
      · rename_i h
        refine ⟨(k1.trans (KeepsOthers.setCell _ _ _)).trans (KeepsOthers.setCell _ _ _), ⟨rfl, by rw [sumW_snoc]; exact h, _, (hv1.res 0).ok false⟩, (hB1.setCell (p := ⟨w.heap.size + 1, 0, none⟩) (by simp) _).setCell (p := ⟨w.heap.size + 1 + 1, 0, none⟩) (by simp; omega) _⟩
      · rename_i h
        refine ⟨k1, ⟨(Below.refl w.heap.size W).setCell (p := ⟨w.heap.size + 1 + 1 + 1, 0, none⟩) (by simp; omega) _, World.cell?_setCell_other W _ _ _ (by simp), World.cell?_setCell_other W _ _ _ (by simp)⟩, ⟨by rw [sumW_snoc]; exact hv1, by rw [sumW_snoc]; omega⟩, hB1⟩
    case done =>
      rintro D' ys W hD rfl ⟨⟨hv, hs⟩, hB⟩ hK
      have f1 := hv.2.1.frozen
      have e1 := hv.2.1.cell
      have f2 := hv.2.2.1.frozen
      have e2 := hv.2.2.1.cell
      have e3 := hv.2.2.2.cell
      have hm3 : mx a b ≤ 1048576 := by unfold mx; omega
      rw [sumW_gs ha hb hm3] at hs e3
      obtain ⟨rfl, rfl⟩ := HY.out hs
      gi_wp2
      have hv2 := (hv.res (dk a b (mx a b))).ok true
      have hB2 := (hB.setCell (p := ⟨w.heap.size + 1, 0, none⟩) (by simp) (.int .i64 (dk a b (mx a b)))).setCell (p := ⟨w.heap.size + 1 + 1, 0, none⟩) (by simp; omega) (.bool true)
      have hK' := ((KeepsOthers.setCell W ⟨w.heap.size + 1, 0, none⟩ (.int .i64 (dk a b (mx a b)))).trans (KeepsOthers.setCell _ ⟨w.heap.size + 1 + 1, 0, none⟩ (.bool true))).same D' _ hK rfl
      have hv3 := hv2.held (grownBy_putObj' _ D' (.deferred none)) (fun r e => by cases e; exact ⟨_, hK', rfl⟩)
      have q1 := hv3.2.1.cell
      have q2 := hv3.2.2.1.cell
      refine ⟨by simp, .inl ⟨_, _, rfl, run_takeDeferred hK', ?_⟩⟩
      refine ⟨.tuple #[.int .i64 (dk a b (mx a b)), .bool true], ?_, rfl, hB2.trans (belowK_b (w := w) (Nat.le_refl _) _ D' _ _ (by omega) hK' rfl rfl)⟩
      simp [results, Try.f24, go_sem, q1, q2]
    case stop =>
      rintro D' c pre W hD ⟨k, hk, rfl⟩ ⟨⟨rfl, hs, s', hv⟩, hB⟩ hK
      have hm3 : mx a b ≤ 1048576 := by unfold mx; omega
      rw [sumW_gs ha hb (by omega)] at hs
      have hmono := dk_mono a b hk
      obtain ⟨rfl, rfl⟩ := HN.out (by unfold D; omega)
      gi_wp2
      have hK' := hK
      have hv3 := hv.held (grownBy_putObj' _ D' (.deferred none)) (fun r e => by cases e; exact ⟨_, hK', rfl⟩)
      have q1 := hv3.2.1.cell
      have q2 := hv3.2.2.1.cell
      refine ⟨by simp, .inl ⟨_, _, rfl, run_takeDeferred hK', ?_⟩⟩
      refine ⟨.tuple #[.int .i64 0, .bool false], ?_, rfl, hB.trans (belowK_b (w := w) (Nat.le_refl _) _ D' _ _ (by omega) hK' rfl rfl)⟩
      simp [results, Try.f24, go_sem, q1, q2]
end Go.Proofs.Ytdfakjpchgomdaa.lone
