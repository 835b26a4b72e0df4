/-
  The contracts of Next, Low, Opened of a walk.
-/
import Derived.Test.YtjahgiplaogmlaaFrW
namespace Go.Proofs.Ytjahgiplaogmlaa.fro
open Go.RowKit law bytes only flat heapM Go.Sort Go.Shelf
set_option linter.unusedVariables false

/-- the greatest int -/
def maxI : Int := 9223372036854775807
section
variable {σ : Type} {F : Value} {base wb hb o k c : Nat} {T TO : Nat → Prop} {J : σ → World → Prop} {N : Int → Prop} {beh : σ → Int → List Ent} {nxt : σ → Int → σ} {wt : Int → Nat} {d d1 : Array Ent} {s s1 : σ} {w wr W : World} {x : Ent} {r : Int}
theorem Within.size {e : Ending} (h : Within F base wb hb T TO J beh nxt s d o w r e wr) : w.heap.size ≤ wr.heap.size := by
  obtain ⟨k, s1, l1, h1, h2, h3⟩ := h
  rcases h3 with ⟨x, rest, a1, a2, a3, a4, a5, d', a6, T', a7, a8, a9⟩ | ⟨a1, a2, d', a6, T', a7, a8, a9⟩
  · exact a8.size
  · exact a8.size
theorem Within.val {e : Ending} (h : Within F base wb hb T TO J beh nxt s d o w r e wr) : ∃ i q t, e = .returned (.tuple #[.agg #[.int .u64 i, .int .i64 q], .bool t]) := by
  obtain ⟨k, s1, l1, h1, h2, h3⟩ := h
  rcases h3 with ⟨x, rest, a1, a2, a3, a4, a5, a6⟩ | ⟨a1, a2, a6⟩
  · exact ⟨_, _, _, a5⟩
  · exact ⟨_, _, _, a2⟩
theorem Left.put {d' : Array Ent} {o' : Nat} {V V2 : World} (hT : ∀ i, T i → i < w.heap.size) (hV : Below w.heap.size w V) (hz : w.heap.size < V.heap.size) (h : Left base wb hb F T TO V wr d' o') (ho : Only (· = w.heap.size) wr V2) : Left base wb hb F T TO w V2 d' o' := by
  obtain ⟨T', h1, h2, h3⟩ := h
  refine ⟨T', h1.only ho fun i e e2 => ?_, ((Only.of_below hV (Nat.le_refl _) (fun i => T i ∨ TO i)).trans h2 fun i e => .inl e).trans ho fun i e => .inr (Nat.le_of_eq e.symm), fun i e => (h3 i e).imp id fun e => Nat.le_trans hV.size e⟩
  rcases h3 i e with e3 | e3
  · have := hT i e3; omega
  · omega
/-- a walk asked by a call that lays its result in a new block -/
theorem Within.put (H : Op F base TO J N beh nxt wt) (hbw : base ≤ w.heap.size) (hT : ∀ i, T i → i < w.heap.size) {e : Ending} {V V2 : World} (hV : Below w.heap.size w V) (hz : w.heap.size < V.heap.size) (h : Within F base wb hb T TO J beh nxt s d o V r e wr) (ho : Only (· = w.heap.size) wr V2) : Within F base wb hb T TO J beh nxt s d o w r e V2 := by
  have hsz := h.size
  obtain ⟨k, s1, l1, h1, h2, h3⟩ := h
  refine ⟨k, s1, l1, h1, H.keep _ _ _ h2 (ho.below (by omega) fun i e => by rw [e]; exact hbw), ?_⟩
  rcases h3 with ⟨x, rest, a1, a2, a3, a4, a5, d', a6, a7⟩ | ⟨a1, a2, d', a6, a7⟩
  · exact .inl ⟨x, rest, a1, a2, a3, a4, a5, d', a6, a7.put hT hV hz ho⟩
  · exact .inr ⟨a1, a2, d', a6, a7.put hT hV hz ho⟩
theorem Within.blk (H : Op F base TO J N beh nxt wt) {e : Ending} {g : Nat} {t : TypeId} {cs : Array Value} (h : Within F base wb hb T TO J beh nxt s d o w r e wr) (hg : Blk w g t cs) (h1 : ¬ T g) (h2 : base ≤ g) : Blk wr g t cs := by
  have hn : ¬ (T g ∨ TO g) := fun e => e.elim h1 fun e => by have := H.low _ e; omega
  obtain ⟨k, s1, l1, -, -, h3⟩ := h
  rcases h3 with ⟨x, rest, a1, a2, a3, a4, a5, d', a6, T', a7, a8, a9⟩ | ⟨a1, a2, d', a6, T', a7, a8, a9⟩
  · exact Blk.only hg a8 hn
  · exact Blk.only hg a8 hn
set_option maxRecDepth 100000 in
set_option maxHeartbeats 1600000 in
theorem next_any (H : Op F base TO J N beh nxt wt) (h : Wk w base wb hb T F d o) (hJ : J s w) (h0 : Nds N d.toList) (hsz : wsum wt d.toList + o ≤ 1099511627776) :
    Calls Try.prog 9 #[.pointer (some ⟨wb, 0, none⟩)] w fun e w' => Within F base wb hb T TO J beh nxt s d o w maxI e w' := by
  have hbw := h.base_le
  have hT := fun i e => (h.low i e).2
  obtain ⟨V, hV⟩ : ∃ V, V = w.alloc (.cells #[.int .u64 0, .int .i64 0] 37) := ⟨_, rfl⟩
  have hB : Below w.heap.size w V := by rw [hV]; exact (Below.refl _ _).alloc (Nat.le_refl _) _
  have hz : w.heap.size < V.heap.size := by rw [hV]; simp
  have b0 : Blk V w.heap.size 37 #[.int .u64 0, .int .i64 0] := by rw [hV]; exact Blk.new w _ _
  have HW := Lib.hid (within_any H (h.below hB) (H.keep _ _ _ hJ (hB.mono hbw)) h0 hsz maxI)
  obtain ⟨P, hP⟩ : ∃ P : Ending → World → Prop, P = fun e w' => Within F base wb hb T TO J beh nxt s d o w maxI e w' := ⟨_, rfl⟩
  rw [show (fun e w' => Within F base wb hb T TO J beh nxt s d o w maxI e w') = P from hP.symm]
  have HE : Hid (∀ e w1, Within F base wb hb T TO J beh nxt s d o V maxI e w1 → (∃ i q t, e = .returned (.tuple #[.agg #[.int .u64 i, .int .i64 q], .bool t])) ∧ Blk w1 w.heap.size 37 #[.int .u64 0, .int .i64 0] ∧ ∀ V2, Only (· = w.heap.size) w1 V2 → P e V2) := Lib.hid fun e w1 hh =>
    ⟨hh.val, hh.blk H b0 (fun e => by have := hT _ e; omega) hbw, fun V2 ho => by rw [hP]; exact hh.put H hbw hT hB hz ho⟩
  have HV := Lib.hid hV
  have em : maxI = 9223372036854775807 := rfl
  generalize maxI = mx at HW HE em
  clear hP hB hz b0 hV h hJ h0 hsz hbw hT
  subst em
  go_enter Try.func9, Try.ntmps9
  go_wp2_with (fail)
  rw [← HV.out]
  refine HW.out.mono ?_
  intro e w1 hh
  obtain ⟨⟨i, q, t, rfl⟩, b1, hE⟩ := HE.out _ _ hh
  have c0 := b1.cell 0
  have c1 := b1.cell 1
  have f0 := b1.frozen 0
  have f1 := b1.frozen 1
  simp only [List.getElem?_toArray, List.getElem?_cons_succ, List.getElem?_cons_zero] at c0 c1
  have b2 := (b1.set_ 0 (.int .u64 i)).set_ 1 (.int .i64 q)
  have HP2 := Lib.hid (hE ((w1.setCell ⟨w.heap.size, 0, none⟩ (.int .u64 i)).setCell ⟨w.heap.size, 1, none⟩ (.int .i64 q)) (Only.setCell (S := (· = w.heap.size)) (p := ⟨w.heap.size, 1, none⟩) (Only.setCell (S := (· = w.heap.size)) (p := ⟨w.heap.size, 0, none⟩) (Only.refl _ _) (.inl rfl) _) (.inl rfl) _))
  have HB2 := Lib.hid b2
  clear hh b1 b2 hE HE HW HV
  go_wp2_with (fail)
  obtain ⟨V2, hV2⟩ : ∃ V2, V2 = (w1.setCell ⟨w.heap.size, 0, none⟩ (.int .u64 i)).setCell ⟨w.heap.size, 1, none⟩ (.int .i64 q) := ⟨_, rfl⟩
  rw [← hV2] at HP2 HB2 ⊢
  clear hV2
  have z0 := HB2.out.cell 0
  have z1 := HB2.out.cell 1
  simp at z0 z1
  refine bodyPost_ret (v := .tuple #[.agg #[.int .u64 i, .int .i64 q], .bool t]) (by simp [results, Try.results9, go_sem, z0, z1]) rfl ?_
  exact HP2.out
/-- how near the next thing may be -/
def lowT (d : Array Ent) : Int := if d.size = 0 then 1125899906842624 else d[0]!.1
set_option maxHeartbeats 800000 in
theorem low_any (h : Wk w base wb hb T F d o) : Calls Try.prog 10 #[.pointer (some ⟨wb, 0, none⟩)] w fun e w' => e = .returned (.int .i64 (lowT d)) ∧ Below w.heap.size w w' := by
  have hF := first_any h
  by_cases hd : d.size = 0
  · have HL : Hid (lowT d = 1125899906842624) := Lib.hid (if_pos hd)
    rw [topT_none hd] at hF
    unfold tE at hF
    have HF := Lib.hid hF
    clear hF h hd
    go_enter Try.func10, Try.ntmps10
    go_wp2_with (fail)
    refine HF.out.mono ?_
    rintro e w1 ⟨rfl, hb1⟩
    have HB : Hid (Below w.heap.size w (w1.alloc (.cells #[.int .i64 0, .int .i64 0, .int .u64 0] 44))) := Lib.hid (hb1.alloc hb1.size _)
    clear hb1 HF
    go_wp2_with (fail)
    go_ret
    exact ⟨by rw [HL.out]; rfl, HB.out⟩
  · have HL : Hid (lowT d = d[0]!.1) := Lib.hid (if_neg hd)
    rw [topT_some hd] at hF
    unfold tE at hF
    have HF := Lib.hid hF
    clear hF h hd
    generalize d[0]! = x at HF HL
    go_enter Try.func10, Try.ntmps10
    go_wp2_with (fail)
    refine HF.out.mono ?_
    rintro e w1 ⟨rfl, hb1⟩
    have HB : Hid (Below w.heap.size w (w1.alloc (.cells #[.int .i64 x.1, .int .i64 x.2.1, .int .u64 x.2.2] 44))) := Lib.hid (hb1.alloc hb1.size _)
    clear hb1 HF
    go_wp2_with (fail)
    go_ret
    exact ⟨by rw [HL.out]; rfl, HB.out⟩
theorem opened_any (h : Wk w base wb hb T F d o) : Calls Try.prog 11 #[.pointer (some ⟨wb, 0, none⟩)] w fun e w' => e = .returned (.int .i64 o) ∧ w = w' := by
  have c2 : w.cell? ⟨wb, 2, none⟩ = some (.int .i64 o) := h.blk.cell 2
  clear h
  go_enter Try.func11, Try.ntmps11
  go_wp2_with (fail)
  go_ret
  exact ⟨rfl, rfl⟩
end
end Go.Proofs.Ytjahgiplaogmlaa.fro
