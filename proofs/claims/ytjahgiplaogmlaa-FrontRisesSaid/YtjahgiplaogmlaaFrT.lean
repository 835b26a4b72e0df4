/-
  The contract of Take.
-/
import Derived.Test.YtjahgiplaogmlaaFrX
import Derived.Test.YtjahgiplaogmlaaHitM
namespace Go.Proofs.Ytjahgiplaogmlaa.fro
open Go.RowKit law bytes only flat heapM Go.Sort Go.Shelf
set_option linter.unusedVariables false

theorem hiE : ElemK Try.prog 37 2 16 := elemK_mk (z := .agg #[.int .u64 0, .int .i64 0]) (by kernel_rfl) rfl
theorem hi_one (a b : Int) : ∀ u ∈ [Value.int .u64 a, Value.int .i64 b], u.oneCell' = true := by simp [Value.oneCell']
section
variable {σ : Type} (F : Value) (base wb hb : Nat) (T TO : Nat → Prop) (J : σ → World → Prop) (beh : σ → Int → List Ent) (nxt : σ → Int → σ) (s : σ) (d : Array Ent) (o : Nat) (w : World)
/-- a walk behind so many told things, with a row v of the call's own that holds vs -/
def TaS (t : List (Int × Int)) (v : Value) (vs : List (Int × Int)) (k : Nat) (s1 : σ) (d1 : Array Ent) (wr : World) : Prop :=
  ∃ T', Wk wr base wb hb T' F d1 (o + k) ∧ Told beh nxt s d.toList t k s1 d1.toList ∧ Only (fun i => T i ∨ TO i) w wr ∧ (∀ i, T' i → T i ∨ w.heap.size ≤ i) ∧ J s1 wr ∧
    wr.ownsRow w.heap.size 37 2 v vs.length (hit.hv vs) ∧ ∀ g, v.ownBlock = some g → ¬ T' g
/-- what Take leaves: what is told, in a row of the call's own; fewer than asked: nothing is left -/
def Takes (n : Int) (e : Ending) (w' : World) : Prop := ∃ t k s1 l1 j s2 l2 d2 A c T', e = .returned (.slice A t.length c) ∧ w'.ownsRow w.heap.size 37 2 (.slice A t.length c) t.length (hit.hv t) ∧
  Told beh nxt s d.toList t k s1 l1 ∧ Run beh nxt s1 l1 j s2 l2 ∧ d2.toList.Perm l2 ∧ ((t.length : Int) < n → ∀ x ∈ d2.toList, maxI < x.1) ∧ (n ≤ t.length → j = 0) ∧ (t.length = 0 ∨ (t.length : Int) ≤ n) ∧
  Wk w' base wb hb T' F d2 (o + k + j) ∧ Only (fun i => T i ∨ TO i) w w' ∧ (∀ i, T' i → T i ∨ w.heap.size ≤ i) ∧ J s2 w' ∧ ∀ g, (Value.slice A t.length c).ownBlock = some g → ¬ T' g
end
section
variable {σ : Type} {F : Value} {base wb hb o k c : Nat} {T TO : Nat → Prop} {J : σ → World → Prop} {N : Int → Prop} {beh : σ → Int → List Ent} {nxt : σ → Int → σ} {wt : Int → Nat} {d d1 : Array Ent} {s s1 : σ} {w wr W : World} {t vs : List (Int × Int)} {v : Value} {A0 : Option Addr}
theorem TaS.below (H : Op F base TO J N beh nxt wt) (h : TaS F base wb hb T TO J beh nxt s d o w t v vs k s1 d1 wr) (hb' : Below wr.heap.size wr W) : TaS F base wb hb T TO J beh nxt s d o w t v vs k s1 d1 W := by
  obtain ⟨T', h1, h2, h3, h4, h5, h6, h7⟩ := h
  exact ⟨T', h1.below hb', h2, h3.on hb', h4, H.keep _ _ _ h5 (hb'.mono h1.base_le), own_below h6 hb' (Nat.le_refl _), h7⟩
theorem TaS.size (h : TaS F base wb hb T TO J beh nxt s d o w t v vs k s1 d1 wr) : w.heap.size ≤ wr.heap.size := by
  obtain ⟨T', h1, h2, h3, h4, h5, h6, h7⟩ := h
  exact h3.size
/-- Next asked of it: a thing more, or the end -/
theorem TaS.next (H : Op F base TO J N beh nxt wt) (hbw : base ≤ w.heap.size) (h : TaS F base wb hb T TO J beh nxt s d o w t v t k s1 d1 wr) (h0 : Nds N d.toList) (hsz : wsum wt d.toList + o ≤ 1099511627776) (n : Int) (hn : (t.length : Int) < n) (A : Option Addr) (hv : v = .slice A t.length c) :
    Calls Try.prog 9 #[.pointer (some ⟨wb, 0, none⟩)] wr fun e w' => ∃ i q b, e = .returned (.tuple #[.agg #[.int .u64 i, .int .i64 q], .bool b]) ∧
      (b = true → ∃ k2 s2 d2, TaS F base wb hb T TO J beh nxt s d o w (t ++ [(i, q)]) v t k2 s2 d2 w' ∧ wsum wt d2.toList < wsum wt d1.toList) ∧
      (b = false → ∀ W, Below w'.heap.size w' W → Takes F base wb hb T TO J beh nxt s d o w n (.returned v) W) := by
  obtain ⟨T', h1, h2, h3, h4, h5, h6, h7⟩ := h
  obtain ⟨k1, k2⟩ := h2.keeps H.next H.less h0
  refine (next_any H h1 h5 k1 (by omega)).mono fun e w' hh => ?_
  obtain ⟨j, s2, l2, hr, hj, hc⟩ := hh
  obtain ⟨r1, r2⟩ := hr.keeps H.next H.less k1
  have hrow : ∀ W, Only (fun i => T' i ∨ TO i) wr W → W.ownsRow w.heap.size 37 2 v t.length (hit.hv t) := fun W ho => own_only h6 ho fun g e e2 => by
    rcases e2 with e2 | e2
    · exact h7 g e e2
    · have := (own_lt h6 e).1
      have := H.low _ e2
      omega
  have hlt : ∀ g, v.ownBlock = some g → g < wr.heap.size := fun g e => (own_lt h6 e).2
  have hon : ∀ W, Only (fun i => T' i ∨ TO i) wr W → Only (fun i => T i ∨ TO i) w W := fun W ho => h3.trans ho fun i e => by
    rcases e with e | e
    · exact (h4 i e).imp .inl id
    · exact .inl (.inr e)
  have hsw := h3.size
  rcases hc with ⟨x, rest, a1, a2, a3, a4, a5, d', a6, T2, a7, a8, a9⟩ | ⟨a1, a2, d', a6, T2, a7, a8, a9⟩
  · refine ⟨_, _, true, a5, fun _ => ⟨k + j, s2, d', ⟨T2, by rw [← Nat.add_assoc]; exact a7, .snoc h2 hr a1 a2 (a4.trans (List.Perm.cons x a6.symm)), hon _ a8, fun i e => ?_, hj, hrow _ a8, fun g e e2 => ?_⟩, ?_⟩, fun e => by cases e⟩
    · rcases a9 i e with e2 | e2
      · exact h4 i e2
      · exact .inr (by omega)
    · rcases a9 g e2 with e3 | e3
      · exact h7 g e e3
      · have := hlt g e; omega
    · have e1 := wsum_perm (wt := wt) a4
      have e2 := wsum_perm (wt := wt) a6
      rw [wsum_cons] at e1
      have := H.pos x.2.1
      omega
  · refine ⟨_, _, false, a2, (fun e => by cases e), fun _ W hW => ?_⟩
    subst hv
    refine ⟨t, k, s1, d1.toList, j, s2, l2, d', A, c, T2, rfl, own_below (hrow _ a8) hW (Nat.le_refl _), h2, hr, a6, fun _ x hx => a1 x (a6.subset hx), fun e => by omega, .inr (by omega), a7.below hW, (hon _ a8).on hW, fun i e => ?_, H.keep _ _ _ hj (hW.mono a7.base_le), fun g e e2 => ?_⟩
    · rcases a9 i e with e2 | e2
      · exact h4 i e2
      · exact .inr (by omega)
    · rcases a9 g e2 with e3 | e3
      · exact h7 g e e3
      · have := hlt g e; omega
theorem TaS.append (H : Op F base TO J N beh nxt wt) (hbw : base ≤ w.heap.size) (h : TaS F base wb hb T TO J beh nxt s d o w t v vs k s1 d1 wr) {v4 : Value} {w4 : World} {ts : List (Int × Int)} (hown : w4.ownsRow w.heap.size 37 2 v4 ts.length (hit.hv ts)) (hg : wr.grownBy w4 v.ownBlock) (hat : v4.ownBlock = v.ownBlock ∨ v4.ownBlock = some wr.heap.size) : TaS F base wb hb T TO J beh nxt s d o w t v4 ts k s1 d1 w4 := by
  obtain ⟨T', h1, h2, h3, h4, h5, h6, h7⟩ := h
  have ho : Only (fun i => v.ownBlock = some i) wr w4 := Only.of_grown hg fun g e => .inl e
  refine ⟨T', h1.only ho fun i e e2 => h7 i e2 e, h2, h3.trans ho fun i e => .inr (own_lt h6 e).1, h4, H.keep _ _ _ h5 (ho.below h1.base_le fun i e => Nat.le_trans hbw (own_lt h6 e).1), hown, fun g e e2 => ?_⟩
  rcases hat with e3 | e3
  · exact h7 g (e3 ▸ e) e2
  · rw [e3] at e
    injection e with e
    have := (h1.low g e2).2
    omega
theorem TaS.stop (h : TaS F base wb hb T TO J beh nxt s d o w t (.slice A0 t.length c) t k s1 d1 wr) (n : Int) (hn : n ≤ t.length) (h2 : t.length = 0 ∨ (t.length : Int) ≤ n) : Takes F base wb hb T TO J beh nxt s d o w n (.returned (.slice A0 t.length c)) wr := by
  obtain ⟨T', h1, h2, h3, h4, h5, h6, h7⟩ := h
  exact ⟨t, k, s1, d1.toList, 0, s1, d1.toList, d1, A0, c, T', rfl, h6, h2, .refl _ _, List.Perm.refl _, fun e => by omega, fun _ => rfl, by assumption, h1, h3, h4, h5, h7⟩
theorem TaS.len (H : Op F base TO J N beh nxt wt) (h : TaS F base wb hb T TO J beh nxt s d o w t v vs k s1 d1 wr) (h0 : Nds N d.toList) : t.length + wsum wt d1.toList ≤ wsum wt d.toList := by
  obtain ⟨T', h1, h2, -⟩ := h
  exact h2.many H.pos H.next H.less h0
set_option maxRecDepth 100000 in
set_option maxHeartbeats 1600000 in
theorem take_any (H : Op F base TO J N beh nxt wt) (h : Wk w base wb hb T F d o) (hJ : J s w) (h0 : Nds N d.toList) (hsz : wsum wt d.toList + o ≤ 1099511627776) (n : Int) :
    Calls Try.prog 8 #[.pointer (some ⟨wb, 0, none⟩), .int .i64 n] w fun e w' => Takes F base wb hb T TO J beh nxt s d o w n e w' := by
  have hbw := h.base_le
  obtain ⟨P, hP⟩ : ∃ P : Ending → World → Prop, P = fun e w' => Takes F base wb hb T TO J beh nxt s d o w n e w' := ⟨_, rfl⟩
  rw [show (fun e w' => Takes F base wb hb T TO J beh nxt s d o w n e w') = P from hP.symm]
  obtain ⟨M, hM⟩ : ∃ M : List (Int × Int) → Value → List (Int × Int) → Nat → σ → Array Ent → World → Prop, M = fun t v vs k s1 d1 wr => TaS F base wb hb T TO J beh nxt s d o w t v vs k s1 d1 wr := ⟨_, rfl⟩
  have HST : Hid (M [] (.slice none 0 0) [] 0 s d w) := Lib.hid (by rw [hM]; exact ⟨T, h, .nil _ _, Only.refl _ _, fun i e => .inl e, hJ, World.ownsRow_nil _ _ _ _, fun g e => by cases e⟩)
  have HMN : Hid (∀ t k s1 d1 wr A c, M t (.slice A t.length c) t k s1 d1 wr → (t.length : Int) < n → Calls Try.prog 9 #[.pointer (some ⟨wb, 0, none⟩)] wr fun e w' => ∃ i q b, e = .returned (.tuple #[.agg #[.int .u64 i, .int .i64 q], .bool b]) ∧
      (b = true → ∃ k2 s2 d2, M (t ++ [(i, q)]) (.slice A t.length c) t k2 s2 d2 w' ∧ wsum wt d2.toList < wsum wt d1.toList) ∧
      (b = false → ∀ W, Below w'.heap.size w' W → P (.returned (.slice A t.length c)) W)) := Lib.hid fun t k s1 d1 wr A c hh hn => by
    rw [hM] at hh ⊢; rw [hP]
    exact hh.next H hbw h0 hsz n hn A rfl
  have HMS : Hid (∀ t k s1 d1 wr A c, M t (.slice A t.length c) t k s1 d1 wr → n ≤ t.length → (t.length = 0 ∨ (t.length : Int) ≤ n) → P (.returned (.slice A t.length c)) wr) := Lib.hid fun t k s1 d1 wr A c hh h1 h2 => by
    rw [hM] at hh; rw [hP]
    exact hh.stop n h1 h2
  have HMB : Hid (∀ t v vs k s1 d1 wr W, M t v vs k s1 d1 wr → Below wr.heap.size wr W → M t v vs k s1 d1 W) := Lib.hid fun t v vs k s1 d1 wr W hh hb => by rw [hM] at hh ⊢; exact hh.below H hb
  have HMA : Hid (∀ t v vs k s1 d1 wr v4 w4 (ts : List (Int × Int)), M t v vs k s1 d1 wr → w4.ownsRow w.heap.size 37 2 v4 ts.length (hit.hv ts) → wr.grownBy w4 v.ownBlock → (v4.ownBlock = v.ownBlock ∨ v4.ownBlock = some wr.heap.size) → M t v4 ts k s1 d1 w4) := Lib.hid fun t v vs k s1 d1 wr v4 w4 ts hh h1 h2 h3 => by
    rw [hM] at hh ⊢
    exact hh.append H hbw h1 h2 h3
  have HML : Hid (∀ t v vs k s1 d1 wr, M t v vs k s1 d1 wr → t.length + wsum wt d1.toList ≤ 1099511627776 ∧ wr.ownsRow w.heap.size 37 2 v vs.length (hit.hv vs) ∧ w.heap.size ≤ wr.heap.size) := Lib.hid fun t v vs k s1 d1 wr hh => by
    rw [hM] at hh
    have := hh.len H h0
    refine ⟨by omega, ?_, hh.size⟩
    obtain ⟨T', h1, h2, h3, h4, h5, h6, h7⟩ := hh
    exact h6
  clear hM hP h hJ h0 hsz hbw H
  go_enter Try.func8, Try.ntmps8
  go_wp2_with (fail)
  go_loopg [5] (wsum wt d.toList) (fun gk s5 wr => ∃ t k s1 d1 A c, gk = wsum wt d1.toList ∧ s5 = .slice A t.length c ∧ M t (.slice A t.length c) t k s1 d1 wr ∧ (t.length = 0 ∨ (t.length : Int) ≤ n))
  case atStart => exact ⟨[], 0, s, d, none, 0, rfl, rfl, HST.out, .inl rfl⟩
  case round =>
    obtain ⟨t, k, s1, d1, A, c, rfl, rfl, hm, hle⟩ := hrel
    clear HST
    by_cases hn : (t.length : Int) < n
    · have HN := Lib.hid (HMN.out t k s1 d1 wr A c hm hn)
      clear hm hle HMN HMS
      go_wp2_with (fail)
      refine HN.out.mono ?_
      rintro e w2 ⟨i, q, b, rfl, hyes, hno⟩
      cases b with
      | false =>
        have HP := Lib.hid (hno rfl (w2.alloc (.cells #[.int .u64 i, .int .i64 q] 37)) ((Below.refl _ _).alloc (Nat.le_refl _) _))
        clear hyes hno HMB HMA HML HN
        go_wp2_with (fail)
        exact HP.out
      | true =>
        obtain ⟨k2, s2, d2, hm2, hlt⟩ := hyes rfl
        have hm3 := HMB.out _ _ _ _ _ _ _ (w2.alloc (.cells #[.int .u64 i, .int .i64 q] 37)) hm2 ((Below.refl _ _).alloc (Nat.le_refl _) _)
        obtain ⟨hl, hown, hsz⟩ := HML.out _ _ _ _ _ _ _ hm3
        simp only [List.length_append, List.length_cons, List.length_nil] at hl
        simp at hsz
        have HM3 := Lib.hid (HMB.out _ _ _ _ _ _ _ ((w2.alloc (.cells #[.int .u64 i, .int .i64 q] 37)).alloc (.cells #[.int .u64 i, .int .i64 q] 37)) hm3 ((Below.refl _ _).alloc (Nat.le_refl _) _))
        have hsl := Sl.lit (w2.alloc (.cells #[.int .u64 i, .int .i64 q] 37)) [.int .u64 i, .int .i64 q] 37
        rw [show (w2.alloc (.cells #[.int .u64 i, .int .i64 q] 37)).heap.size = w2.heap.size + 1 by simp] at hsl
        have HLT := Lib.hid hlt
        clear hyes hno hm2 hm3 hlt HN HML HMB
        go_wp2_with (at_builtin
                     refine wpList_append_slk _ rfl (.tmp 19) (.tmp 21) _ rfl w.heap.size 37 2 16 Try.underlying33 hiE (by omega) (.slice A t.length c) t.length (hit.hv t) rfl (World.ownsRow.alloc (w := w2.alloc (.cells #[.int .u64 i, .int .i64 q] 37)) hown _) _ _ 1 1 [.int .u64 i, .int .i64 q] rfl hsl rfl (hi_one _ _) (by omega) (by unfold maxLen; omega) (by simp; omega) ?_
                     intro v4 w4 hown4 hg4 hat4
                     obtain ⟨A4, c4, rfl, hc4⟩ := own_slice hown4)
        have HM4 := Lib.hid (HMA.out _ _ _ _ _ _ _ _ _ (t ++ [(i, q)]) HM3.out (by rw [hit.hv_append, List.length_append]; exact hown4) hg4 hat4)
        clear hown4 hg4 hat4 HM3 HMA
        go_wp2_with (fail)
        go_roundg (wsum wt d2.toList)
        case measure => exact HLT.out
        case rel => exact ⟨t ++ [(i, q)], k2, s2, d2, A4, c4, rfl, by rw [List.length_append]; rfl, by rw [List.length_append]; exact HM4.out, .inr (by rw [List.length_append]; simp; omega)⟩
    · have HP := Lib.hid (HMS.out t k s1 d1 wr A c hm (by omega) hle)
      clear hm hle HMN HMS HMB HMA HML
      go_wp2_with (fail)
      exact HP.out
end
end Go.Proofs.Ytjahgiplaogmlaa.fro
