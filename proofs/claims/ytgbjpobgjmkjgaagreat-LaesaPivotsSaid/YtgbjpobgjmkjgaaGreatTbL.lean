/-
  The contract of Pivots: copies in new memory.
-/
import Derived.Test.YtgbjpobgjmkjgaaGreatTbC
namespace Go.Proofs.YtgbjpobgjmkjgaaGreat.tab
open Go.RowKit Go.WideShapes law bytes only flat nums ord obj metric pv lae Go.Maps
open told (own_types blk_types)
set_option linter.unusedVariables false
set_option maxRecDepth 100000

/-- things' numbers, each in memory of the call's own -/
def OwT (n0 : Nat) (W : World) (l : List At) : Prop := ∀ p ∈ l, W.ownsRow n0 21 1 (.slice p.a p.x.vec.length p.c) p.x.vec.length (iv p.x.vec)
theorem OwT.below {n0 : Nat} {W W' : World} {l : List At} (h : OwT n0 W l) (o : Below W.heap.size W W') : OwT n0 W' l := fun p hp => own_below (h p hp) o (Nat.le_refl _)
theorem OwT.grown {n0 m : Nat} {W W' : World} {l : List At} {v : Value} {xs : List Value} (h : OwT n0 W l) (o : Only (fun i => v.ownBlock = some i) W W') (hr : W.ownsRow n0 35 3 v m xs) : OwT n0 W' l := fun p hp =>
  own_only (h p hp) o fun i e e2 => own_types hr (h p hp) (by decide) e2 e
/-- what Pivots leaves -/
def Pivs (w : World) (P : List At) (e : Ending) (w' : World) : Prop := ∃ A c l, e = .returned (.slice A P.length c) ∧ w'.ownsRow w.heap.size 35 3 (.slice A P.length c) P.length (ocs l) ∧ l.map At.x = P.map At.x ∧ OwT w.heap.size w' l ∧ Below w.heap.size w w'
section
variable {w w' : World} {base tb g mb : Nat} {n k most : Int} {T S : Nat → Prop} {vP vR : Value} {P : List At} {R : List Ro} {r : Ro}
set_option maxHeartbeats 3200000 in
theorem pivots_any (h : Tx w base tb g mb n k most T vP vR P R) (hP : P.length ≤ 1048576) :
    Calls Tryz.prog 14 #[.pointer (some ⟨tb, 0, none⟩)] w (Pivs w P) := by
  obtain ⟨AP, cP, rfl, hcP, hts⟩ := h.ts
  obtain ⟨-, -, c2, -⟩ := h.cells
  obtain ⟨Z, hZ, hmk⟩ := make_objs P.length (by omega) w
  obtain ⟨V, hV⟩ : ∃ V, V = w.alloc (.cells Z 35) := ⟨_, rfl⟩
  have hbV : Below w.heap.size w V := by rw [hV]; exact (Below.refl _ _).alloc (Nat.le_refl _) _
  have hoV : V.ownsRow w.heap.size 35 3 (.slice (some ⟨w.heap.size, 0, none⟩) 0 P.length) 0 (ocs []) := by
    rw [hV]; exact World.ownsRow_made w Z _ (Nat.le_refl _) (by unfold maxLen; omega) hZ
  have e2 : V.cell? ⟨tb, 2, none⟩ = some (.slice AP P.length cP) := (h.below hbV).cells.2.2.1
  have HT := Lib.hid hts
  have HBF := Lib.hid h.bP
  have HO := Lib.hid (And.intro hoV hbV)
  have HV := Lib.hid hV
  rw [hV] at e2
  have hl63 : (P.length : Int) < 9223372036854775807 := by omega
  clear h hts hoV hbV hZ hV hcP
  go_enter Tryz.func14, Tryz.ntmps14
  go_wp2_with (fail)
  rw [← HV.out]
  clear hmk HV c2 e2
  go_loopg [3, 19] P.length (fun gk s3 s19 wr => ∃ (i c1 : Nat) (A1 : Option Addr) (l : List At), gk = P.length - i ∧ i ≤ P.length ∧ s3 = .slice A1 i c1 ∧ s19 = .int .i64 i ∧ wr.ownsRow w.heap.size 35 3 (.slice A1 i c1) i (ocs l) ∧ l.map At.x = (P.take i).map At.x ∧ OwT w.heap.size wr l ∧ Below w.heap.size w wr)
  case atStart => exact ⟨0, _, _, [], rfl, Nat.zero_le _, rfl, rfl, HO.out.1, rfl, fun p hp => by simp at hp, HO.out.2⟩
  case round =>
    clear HO
    obtain ⟨i, c1, A1, l, rfl, hi, rfl, rfl, hown, hlm, how, hb⟩ := hrel
    have hsz := hb.size
    by_cases hlt : i < P.length
    · have i1 : (i : Int) < (P.length : Int) := by omega
      have hT1 : Ts wr (· = g) AP P := HT.out.only (Only.of_below hb (Nat.le_refl _) _)
      obtain ⟨bb, oo, rfl, -, -, hcells⟩ := hT1.place (by omega)
      obtain ⟨d0, d1, d2⟩ := hcells i hlt
      have hv := (hT1.vec _ (List.getElem_mem hlt)).sl
      have hbf := HBF.out _ (List.getElem_mem hlt)
      have htk : (P.take (i + 1)).map At.x = (P.take i).map At.x ++ [P[i].x] := by rw [List.take_succ_eq_append_getElem hlt, List.map_append]; rfl
      generalize P[i] = y at d0 d1 d2 hv hbf htk
      obtain ⟨Y, hY⟩ : ∃ Y, Y = wr.alloc (.cells #[.int .i64 y.x.tag, .slice y.a y.x.vec.length y.c, .string y.x.str] 35) := ⟨_, rfl⟩
      have hbY : Below wr.heap.size wr Y := by rw [hY]; exact (Below.refl _ _).alloc (Nat.le_refl _) _
      have hky : Blk Y wr.heap.size 35 #[.int .i64 y.x.tag, .slice y.a y.x.vec.length y.c, .string y.x.str] := by rw [hY]; exact Blk.new wr _ _
      have hzY : Y.heap.size = wr.heap.size + 1 := by rw [hY]; simp
      obtain ⟨q0, q1, q2, -⟩ := cells3 hky
      have HC : Hid (Calls Tryz.prog 52 #[.agg #[.int .i64 y.x.tag, .slice y.a y.x.vec.length y.c, .string y.x.str]] Y (ClonedO y.x Y)) := Lib.hid (cloneO_any y.a y.c wr.heap.size y.x Y (by have := hbf.2.1; omega) (by have := hbf.2.2; omega) (by omega) (hv.below hbY))
      have HB := Lib.hid (And.intro (own_below hown hbY (Nat.le_refl _)) (And.intro (how.below hbY) (And.intro (hb.trans (hbY.mono hsz)) (And.intro hlm (And.intro htk (show w.heap.size ≤ Y.heap.size by omega))))))
      have HY := Lib.hid hY
      rw [hY] at q0 q1 q2
      clear hT1 hcells hv hbf htk hbY hky hzY hY hown hlm how hb hsz
      go_wp2_with (fail)
      rw [← HY.out]
      refine HC.out.mono ?_
      rintro e w4 ⟨A4, k4, rfl, ho4, hb4⟩
      have H4 : Hid (w4.ownsRow w.heap.size 35 3 (.slice A1 i c1) i (ocs l) ∧ OwT w.heap.size w4 (l ++ [⟨A4, k4, y.x⟩]) ∧ Below w.heap.size w w4 ∧ w.heap.size ≤ w4.heap.size) := Lib.hid (by
        obtain ⟨h1, h2, h3, h4, h5, h6⟩ := HB.out
        refine ⟨own_below h1 hb4 (Nat.le_refl _), fun p hp => ?_, h3.trans (hb4.mono h6), by have := hb4.size; omega⟩
        rcases List.mem_append.1 hp with hp | hp
        · exact (h2.below hb4) p hp
        · simp only [List.mem_singleton] at hp
          subst hp
          exact pv.own_base ho4 h6)
      have HM : Hid ((l ++ [(⟨A4, k4, y.x⟩ : At)]).map At.x = (P.take (i + 1)).map At.x) := Lib.hid (by
        obtain ⟨h1, h2, h3, h4, h5, h6⟩ := HB.out
        rw [List.map_append, h4, h5]
        rfl)
      clear HC ho4 hb4 HB q0 q1 q2 HY d0 d1 d2
      go_wp2_with (at_builtin
                   refine wpList_append_slk _ rfl (.tmp 23) (.tmp 26) _ rfl w.heap.size 35 3 48 Tryz.underlying42 objK (by omega) (.slice A1 i c1) i (ocs l) rfl (World.ownsRow.alloc (w := w4) H4.out.1 _) _ _ 1 1 (oc ⟨A4, k4, y.x⟩) rfl (Sl.lit w4 _ _) rfl (oc_one _) (by omega) (by unfold maxLen; omega) (by have := H4.out.2.2.2; simp; omega) ?_
                   intro v5 w5 hown5 hg5 hat5
                   obtain ⟨A5, c5, rfl, hc5⟩ := own_slice hown5)
      have HN : Hid (w5.ownsRow w.heap.size 35 3 (.slice A5 (i + 1) c5) (i + 1) (ocs (l ++ [⟨A4, k4, y.x⟩])) ∧ OwT w.heap.size w5 (l ++ [⟨A4, k4, y.x⟩]) ∧ Below w.heap.size w w5) := Lib.hid (by
        obtain ⟨h1, h2, h3, h4⟩ := H4.out
        have ho : Only (fun j => (Value.slice A1 i c1).ownBlock = some j) w4 w5 := ((Only.refl _ w4).alloc _).trans (Only.of_grown hg5 fun j e => .inl e) fun j e => .inl e
        refine ⟨by have e : ocs (l ++ [(⟨A4, k4, y.x⟩ : At)]) = ocs l ++ oc ⟨A4, k4, y.x⟩ := by simp [ocs]
                   rw [e]; exact hown5, h2.grown ho h1, below_appendK1 h3 h4 _ h1 (Nat.le_refl _) hg5⟩)
      clear hown5 hg5 hat5 H4
      go_wp2_with (fail)
      go_roundg (P.length - (i + 1))
      case measure => omega
      case rel => exact ⟨i + 1, c5, A5, _, rfl, by omega, rfl, by go_num, HN.out.1, HM.out, HN.out.2.1, HN.out.2.2⟩
    · obtain rfl : i = P.length := by omega
      have i1 : ¬ (P.length : Int) < (P.length : Int) := by omega
      rw [List.take_length] at hlm
      have HE : Hid (Pivs w P (.returned (.slice A1 P.length c1)) wr) := Lib.hid ⟨A1, c1, l, rfl, hown, hlm, how, hb⟩
      clear hown hlm how hb
      go_wp2_with (fail)
      go_ret
      exact HE.out
end
end Go.Proofs.YtgbjpobgjmkjgaaGreat.tab
