/-
  The contract of Heap.Pop at ints.
-/
import Derived.Test.YtcnncfjplmejhaaHSink
import Derived.Lib.SliceRun
namespace Go.Proofs.Ytcnncfjplmejhaa.heap
open Go.RowKit law bytes only heapM Go.Sort Go.Shelf
set_option linter.unusedVariables false

theorem pop_int_none (w : World) : Calls Try.prog 8 #[.pointer none] w fun e w' => e = .returned (.tuple #[.int .i64 0, .bool false]) ∧ w = w' := by
  go_enter Try.func8, Try.ntmps8
  go_wp2_with (go_at_call 11; (with_reducible refine (top_int_none _).mono ?_); rintro e w' ⟨rfl, rfl⟩)
  refine bodyPost_ret (v := .tuple #[.int .i64 0, .bool false]) (by simp [results, Try.results8, go_sem]) rfl ?_
  exact ⟨rfl, rfl⟩
theorem pop_int_empty {w : World} {base hb : Nat} {v : Value} {K : Nat} {d : Array Int} (h : Hp w base hb v K d) (h0 : d.size = 0) : Calls Try.prog 8 #[.pointer (some ⟨hb, 0, none⟩)] w fun e w' => e = .returned (.tuple #[.int .i64 0, .bool false]) ∧ w = w' := by
  have HT := top_int h
  unfold topv at HT
  rw [if_pos h0] at HT
  have HT2 := Lib.hid HT
  clear HT h
  go_enter Try.func8, Try.ntmps8
  go_wp2_with (go_at_call 11; (with_reducible refine HT2.out.mono ?_); rintro e w' ⟨rfl, rfl⟩)
  refine bodyPost_ret (v := .tuple #[.int .i64 0, .bool false]) (by simp [results, Try.results8, go_sem]) rfl ?_
  exact ⟨rfl, rfl⟩
theorem iv_cut (d : Array Int) (x : Int) (h0 : 0 < d.size) : (iv ((d.setIfInBounds 0 d[d.size - 1]!).setIfInBounds (d.size - 1) x)).take (d.size - 1) = iv (cut d) := by
  unfold iv cut
  rw [Array.toList_setIfInBounds, ← List.map_take, List.take_set, List.set_eq_of_length_le (by simp), Array.toList_pop, List.dropLast_eq_take]
  simp
theorem Row.cut {w : World} {base g c : Nat} {d : Array Int} {x : Int} (h : Row w base g c ((d.setIfInBounds 0 d[d.size - 1]!).setIfInBounds (d.size - 1) x)) (h0 : 0 < d.size) : w.ownsRow base 3 1 (.slice (some ⟨g, 0, none⟩) (d.size - 1) c) (d.size - 1) (iv (heapM.cut d)) := by
  have h2 : w.ownsRow base 3 1 (.slice (some ⟨g, 0, none⟩) d.size c) d.size (iv ((d.setIfInBounds 0 d[d.size - 1]!).setIfInBounds (d.size - 1) x)) := by
    have := h
    unfold Row at this
    simpa using this
  have := own_take h2 (d.size - 1) (by omega)
  rwa [iv_cut d x h0] at this
theorem int_zero : ∀ w : World, (zeroValue 3).run Try.prog w = .ok (.int .i64 0) w := by
  obtain ⟨i, hi, hz, _⟩ := intE
  intro w
  simp [zeroValue, typeInfo, hi, hz]
set_option maxRecDepth 100000 in
set_option maxHeartbeats 3200000 in
theorem pop_int {base hb : Nat} {v : Value} {K : Nat} {d : Array Int} (cf : Int → Int → Int) (hK : Enters Try.prog K) (hO : Ordr K iE cf) (hS : SWO (lf cf)) (w : World) (h : Hp w base hb v K d) (hH : Heap (lf cf) d) (h0 : 0 < d.size) (hsz : d.size < 2305843009213693952) :
    Calls Try.prog 8 #[.pointer (some ⟨hb, 0, none⟩)] w fun e w' =>
      e = .returned (.tuple #[.int .i64 d[0]!, .bool true]) ∧ Only (Mine hb v) w w' ∧ ∃ v' d', Hp w' base hb v' K d' ∧ Heap (lf cf) d' ∧ (d[0]! :: d'.toList).Perm d.toList ∧ v'.ownBlock = v.ownBlock := by
  have HT := top_int h
  unfold topv at HT
  rw [if_neg (by omega)] at HT
  have HT2 := Lib.hid HT
  obtain ⟨g, c, rfl, hr, hne⟩ := h.form h0
  obtain ⟨hs, -, -⟩ := h
  have hR := fun W v => sink_int K hb v cf hK hO hS base g c (cut d) W
  rw [cut_size] at hR
  have HR := Lib.hid hR
  have HCD := Lib.hid (cut_down hH)
  have HCP := Lib.hid (cut_perm h0)
  have c1 : w.cell? ⟨hb, 1, none⟩ = some (.slice (some ⟨g, 0, none⟩) d.size c) := hs.cell 1
  have q0 := hr.cell 0 (by omega)
  have q1 := hr.cell (d.size - 1) (by omega)
  have f0 := hr.frozen 0
  have f1 := hr.frozen (d.size - 1)
  have hcap := own_cap hr
  obtain ⟨last, hlast⟩ : ∃ last, last = d.size - 1 := ⟨_, rfl⟩
  have i0 : IntKind.i64.wrap ((d.size : Int) - 1) = (last : Int) := by rw [IntKind.wrap_i64]; omega
  have i1 : (0 : Int) < (d.size : Int) := by omega
  have i2 : (last : Int) < (d.size : Int) := by omega
  have i3 : (last : Int) ≤ (d.size : Int) := by omega
  rw [← hlast] at q1 f1
  have hcl : (Builtin.clear_ #[26] 0 #[.slice (some ⟨g, last, none⟩) (d.size - last) (c - last)]).run Try.prog (w.setCell ⟨g, 0, none⟩ (.int .i64 d[last]!)) = .ok (.tuple #[]) ((w.setCell ⟨g, 0, none⟩ (.int .i64 d[last]!)).setCell ⟨g, last, none⟩ (.int .i64 0)) := by
    have e1 : d.size - last = 1 := by omega
    have hr1 := hr.set 0 d[last]! h0
    have := Lib.run_clear_slice (P := Try.prog) (w.setCell ⟨g, 0, none⟩ (.int .i64 d[last]!)) 26 3 0 (.int .i64 0) Try.underlying26 int_zero rfl rfl g last 1 (c - last) (by omega)
      (fun j hj => by
        obtain rfl : j = 0 := by omega
        rw [hr1.cell (last + 0) (by simp; omega)]; rfl) (fun j hj => hr1.frozen _)
    rw [e1]
    exact this
  have hrw : Row ((w.setCell ⟨g, 0, none⟩ (.int .i64 d[last]!)).setCell ⟨g, last, none⟩ (.int .i64 0)) base g c ((d.setIfInBounds 0 d[last]!).setIfInBounds last 0) := (hr.set 0 _ h0).set last 0 (by simp; omega)
  have ho1 : Only (· = g) w ((w.setCell ⟨g, 0, none⟩ (.int .i64 d[last]!)).setCell ⟨g, last, none⟩ (.int .i64 0)) := Only.setCell (S := (· = g)) (p := ⟨g, last, none⟩) (Only.setCell (S := (· = g)) (p := ⟨g, 0, none⟩) (Only.refl _ _) (.inl rfl) _) (.inl rfl) _
  have hs1 := Blk.only hs ho1 hne
  have hown := Row.cut (x := 0) (by rw [← hlast]; exact hrw) h0
  rw [← hlast] at hown HR
  have hnc : ¬ c = last := by omega
  have i5 : (last : Int) ≤ (c : Int) := by omega
  have hnd : decide (c = last) = false := decide_eq_false hnc
  have HLA := Lib.hid hlast
  clear hlast
  generalize hx : d[0]! = x at q0 HT2 HCP ⊢
  generalize hy : d[last]! = y at q1 hcl hrw ho1 hs1 hown
  clear HT hR hK hO hrw
  have c2 : ((w.setCell ⟨g, 0, none⟩ (.int .i64 y)).setCell ⟨g, last, none⟩ (.int .i64 0)).cell? ⟨hb, 1, none⟩ = some (.slice (some ⟨g, 0, none⟩) d.size c) := hs1.cell 1
  have f2 : ((w.setCell ⟨g, 0, none⟩ (.int .i64 y)).setCell ⟨g, last, none⟩ (.int .i64 0)).frozen? ⟨hb, 1, none⟩ = false := hs1.frozen 1
  have f3 := hs.frozen 1
  have hs2 := hs1.set_ 1 (.slice (some ⟨g, 0, none⟩) last c)
  have c3 : (((w.setCell ⟨g, 0, none⟩ (.int .i64 y)).setCell ⟨g, last, none⟩ (.int .i64 0)).setCell ⟨hb, 1, none⟩ (.slice (some ⟨g, 0, none⟩) last c)).cell? ⟨hb, 1, none⟩ = some (.slice (some ⟨g, 0, none⟩) last c) := hs2.cell 1
  have hrow2 : Row (((w.setCell ⟨g, 0, none⟩ (.int .i64 y)).setCell ⟨g, last, none⟩ (.int .i64 0)).setCell ⟨hb, 1, none⟩ (.slice (some ⟨g, 0, none⟩) last c)) base g c (cut d) := by
    refine Row.only (S := fun i => i = hb) ?_ (Only.setCell (S := fun i => i = hb) (p := ⟨hb, 1, none⟩) (Only.refl _ _) (.inl rfl) _) (fun e => hne e.symm)
    unfold Row
    rw [cut_size, ← HLA.out]
    exact hown
  have ho2 : Only (Mine hb (.slice (some ⟨g, 0, none⟩) d.size c)) w (((w.setCell ⟨g, 0, none⟩ (.int .i64 y)).setCell ⟨g, last, none⟩ (.int .i64 0)).setCell ⟨hb, 1, none⟩ (.slice (some ⟨g, 0, none⟩) last c)) :=
    Only.setCell (p := ⟨hb, 1, none⟩) (ho1.mono fun i e => .inl (.inr (by rw [e]; rfl))) (.inl (.inl rfl)) _
  obtain ⟨w2, hw2⟩ : ∃ w2, w2 = (((w.setCell ⟨g, 0, none⟩ (.int .i64 y)).setCell ⟨g, last, none⟩ (.int .i64 0)).setCell ⟨hb, 1, none⟩ (.slice (some ⟨g, 0, none⟩) last c)) := ⟨_, rfl⟩
  have HW := Lib.hid hw2
  rw [← hw2] at hs2 hrow2 ho2
  clear hw2
  have HR2 := Lib.hid (HR.out _ _ hs2 hrow2 hne HCD.out (by omega))
  have HO2 := Lib.hid ho2
  have HS2 := Lib.hid hs2
  clear hs2 hrow2 ho2 hs1 hs ho1 hown HR hr hcap
  go_enter Try.func8, Try.ntmps8
  go_wp2_with (go_at_call 11; (with_reducible refine HT2.out.mono ?_); rintro e w' ⟨rfl, rfl⟩)
  rw [← HW.out]
  refine HR2.out.mono ?_
  rintro e w5 ⟨rfl, ho, d', hd', hp', hH', hr'⟩
  have k1 : Only (Mine hb (.slice (some ⟨g, 0, none⟩) d.size c)) w w5 := HO2.out.trans ho fun i e => .inl (.inr (by rw [e]; rfl))
  have k2 : Hp w5 base hb (.slice (some ⟨g, 0, none⟩) last c) K d' := ⟨Blk.only HS2.out ho hne, by rw [← hd']; exact hr', by simp only [Value.ownBlock]; intro e; exact hne (by injection e with e; exact e.symm)⟩
  have k3 : (x :: d'.toList).Perm d.toList := (List.Perm.cons x hp').trans HCP.out
  have KK := Lib.hid (And.intro k1 (And.intro k2 k3))
  clear k1 k2 k3 hp' hr' ho
  go_wp2_with (fail)
  refine bodyPost_ret (v := .tuple #[.int .i64 x, .bool true]) (by simp [results, Try.results8, go_sem]) rfl ?_
  exact ⟨rfl, KK.out.1, _, d', KK.out.2.1, hH', KK.out.2.2, rfl⟩
end Go.Proofs.Ytcnncfjplmejhaa.heap
