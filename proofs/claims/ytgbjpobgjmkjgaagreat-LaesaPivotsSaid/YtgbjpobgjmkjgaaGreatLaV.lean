/-
  What lives (layer 22).
-/
import Derived.Test.YtgbjpobgjmkjgaaGreatTbD
import Derived.Test.YtgbjpobgjmkjgaaGreatTbH
import Derived.Test.YtgbjpobgjmkjgaaGreatDrs
namespace Go.Proofs.YtgbjpobgjmkjgaaGreat.tab
open Go.RowKit Go.WideShapes law bytes only flat nums ord obj metric pv lae Go.Maps
open aro (Kept)
open store (iE iE_len itemAt)
open fro (Ent)
open hit (Hit hv hc sortH)
set_option linter.unusedVariables false

/-! ### what comes out, reckoned -/
def lvT (n : Int) : Thing := ⟨1, [n], ⟨#[]⟩⟩
def lvI (id n : Int) (b : Nat) : Int × Kept := (id, ⟨lvT n, some ⟨b, 0, none⟩, 1⟩)
def lvL (a b c : Nat) : List (Int × Kept) := [lvI 1 0 a, lvI 2 3 b, lvI 3 9 c]
theorem lv_fe (a b c : Nat) : idx.fe (fun id => (ids []).contains id) (idx.ids (lvL a b c)) = 0 := by rfl
theorem lv_chs (a b c : Nat) : chs (dt 1 (ths (lvL a b c))) U63 (ths (lvL a b c)) 1 0 = [0] := by rfl
theorem lv_att (a b c : Nat) : att (lvL a b c) [0] = [lvT 0] := by rfl
theorem lv_ptl (a b c : Nat) : ptl 1 1 [lvT 0] ((lvL a b c).map fun q => q.2.x) = [lvT 0] := by rfl
theorem lv_ix (a b c : Nat) : (lvL a b c).map (fun q => (q.1, q.2.x)) = [(1, lvT 0), (2, lvT 3), (3, lvT 9)] := by rfl
theorem lv_bf (a b c : Nat) : ∀ q ∈ lvL a b c, Bf q.2.x := fun p hp => by
  simp only [lvL, List.mem_cons, List.not_mem_nil, or_false] at hp
  have h : ∀ n ∈ [(0 : Int), 3, 9], Bf (lvT n) := by unfold Bf dist.Bd; decide
  rcases hp with rfl | rfl | rfl
  · exact h 0 (by simp)
  · exact h 3 (by simp)
  · exact h 9 (by simp)
theorem lv_wf (a b c : Nat) : idx.Wf (lvL a b c) := fun p hp => by
  simp only [lvL, List.mem_cons, List.not_mem_nil, or_false] at hp
  rcases hp with rfl | rfl | rfl <;> rfl
theorem lv_small : Small (lvT 8) := by unfold Small dist.Bd; decide
theorem nrs_ix (n : Int) (q : Thing) (R : List Ro) (r : Int) : nrs n q R r = ((R.map ix).map fun p => (p.1, M n q p.2)).filter fun h => decide (h.2 ≤ r) := by
  unfold nrs
  rw [List.map_map]
  rfl
/-- how many are looked at -/
def lks (n : Int) (PT : List Thing) (q : Thing) (r : Int) (RT : List (Int × Thing)) : Nat := (RT.filter fun p => decide (lw (row (M n) PT p.2) (row (M n) PT q) ≤ r)).length
theorem cnd_lks (n : Int) (P : List At) (q : Thing) (r : Int) (R : List Ro) : (cnd (nr n P q) r R R.length).length = lks n (P.map At.x) q r (R.map ix) := by
  have key : ∀ k, k ≤ R.length → (cnd (nr n P q) r R k).length = lks n (P.map At.x) q r ((R.take k).map ix) := by
    intro k
    induction k with
    | zero => intro _; rfl
    | succ k ih =>
      intro hk
      have h := ih (by omega)
      have hk2 : k < R.length := by omega
      have e : lks n (P.map At.x) q r ((R.take (k + 1)).map ix) = lks n (P.map At.x) q r ((R.take k).map ix) + (if nr n P q R[k] ≤ r then 1 else 0) := by
        unfold lks
        rw [List.take_succ_eq_append_getElem hk2, List.map_append, List.filter_append, List.length_append]
        congr 1
        by_cases hc : nr n P q R[k] ≤ r
        · rw [if_pos hc]
          have : decide (lw (row (M n) (P.map At.x) (ix R[k]).2) (row (M n) (P.map At.x) q) ≤ r) = true := decide_eq_true hc
          simp [this]
        · rw [if_neg hc]
          have : decide (lw (row (M n) (P.map At.x) (ix R[k]).2) (row (M n) (P.map At.x) q) ≤ r) = false := decide_eq_false hc
          simp [this]
      rw [e]
      by_cases hc : nr n P q R[k] ≤ r
      · rw [cnd_yes hk2 hc, if_pos hc, List.length_append, h]; rfl
      · rw [cnd_no hk2 hc, if_neg hc, h]; rfl
  have := key R.length (Nat.le_refl _)
  rwa [List.take_length] at this
theorem lv_hits : sortH ((([(1, lvT 0), (2, lvT 3), (3, lvT 9)] : List (Int × Thing)).map fun p => (p.1, M 1 (lvT 8) p.2)).filter fun h => decide (h.2 ≤ 2)) = [(3, 1)] := by decide
theorem lv_lks : lks 1 [lvT 0] (lvT 8) 2 [(1, lvT 0), (2, lvT 3), (3, lvT 9)] = 1 := by rfl
/-! ### a thing made -/
/-- an item of one number in a block of its own -/
def Made1 (id n : Int) (w : World) (e : Ending) (w' : World) : Prop := ∃ b, e = .returned (.agg #[.int .u64 id, .int .i64 1, .slice (some ⟨b, 0, none⟩) 1 1, .string ⟨#[]⟩]) ∧ w.heap.size ≤ b ∧ Blk w' b 21 #[.int .i32 n] ∧ Below w.heap.size w w'
set_option maxHeartbeats 1600000 in
theorem v_any (id n : Int) (w : World) : Calls Tryz.prog 42 #[.int .u64 id, .int .i32 n] w (Made1 id n w) := by
  go_enter Tryz.func42, Tryz.ntmps42
  go_wp2_with (fail)
  obtain ⟨q0, q1, q2, q3, -⟩ := cells4' ((Blk.new w 37 #[.int .u64 id, .int .i64 1, .slice (some ⟨w.heap.size + 1, 0, none⟩) 1 1, .string ⟨#[]⟩]).alloc (.cells #[.int .i32 n] 21))
  have hb := Blk.new (w.alloc (.cells #[.int .u64 id, .int .i64 1, .slice (some ⟨w.heap.size + 1, 0, none⟩) 1 1, .string ⟨#[]⟩] 37)) 21 #[.int .i32 n]
  rw [show (w.alloc (.cells #[.int .u64 id, .int .i64 1, .slice (some ⟨w.heap.size + 1, 0, none⟩) 1 1, .string ⟨#[]⟩] 37)).heap.size = w.heap.size + 1 by simp] at hb
  refine bodyPost_ret (v := .agg #[.int .u64 id, .int .i64 1, .slice (some ⟨w.heap.size + 1, 0, none⟩) 1 1, .string ⟨#[]⟩]) (by simp [results, Tryz.results42, go_sem, q0, q1, q2, q3]) rfl ?_
  exact ⟨w.heap.size + 1, rfl, by omega, hb, ((Below.refl _ _).alloc (Nat.le_refl _) _).alloc (by simp) _⟩
theorem Made1.sl {W : World} {b : Nat} {n : Int} (h : Blk W b 21 #[.int .i32 n]) : Sl W W.heap.size (some ⟨b, 0, none⟩) (iv [n]) := fun j u hj => by
  have hj0 : j = 0 := by have := (List.getElem?_eq_some_iff.1 hj).1; simp [iv] at this; exact this
  subst hj0
  refine ⟨_, rfl, h.lt, ?_⟩
  have : (⟨b, 0, none⟩ : Addr).add 0 = ⟨b, 0, none⟩ := by simp [Addr.add]
  rw [this, h.cell 0]
  simpa [iv] using hj
theorem away1 {W : World} {b : Nat} {n : Int} {T : Nat → Prop} (h : Blk W b 21 #[.int .i32 n]) (hT : ¬ T b) : Away W T (some ⟨b, 0, none⟩) (iv [n]) := fun j u hj => by
  obtain ⟨ad, e, hb, hc⟩ := Made1.sl h j u hj
  injection e with e
  subst e
  exact ⟨_, rfl, hb, hT, hc⟩
theorem dr_none (n : Int) : Dr (.pointer none) (fun _ => False) (fun _ => True) n 0 where
  keep _ _ _ _ _ _ := trivial
  pick W _ := (draws.pick_none n W).mono fun e w' ⟨he, hw⟩ => ⟨he, hw ▸ Only.refl _ _⟩
  form := ⟨none, rfl⟩
/-! ### what lives -/
/-- behind Bulk -/
def LvS (w : World) (g tb : Nat) (W : World) : Prop := ∃ (base mb : Nat) (k : Int) (vP vR : Value) (T : Nat → Prop) (P : List At) (R : List Ro), Tx W base tb g mb 1 k 1 T vP vR P R ∧ P.map At.x = [lvT 0] ∧ R.map ix = [(1, lvT 0), (2, lvT 3), (3, lvT 9)] ∧ 0 ≤ k ∧ k ≤ 12582912 ∧ Below w.heap.size w W
set_option maxHeartbeats 1600000 in
/-- what Bulk of three things leaves -/
theorem bulk_lives {w w2 W : World} {tb mb a b c base : Nat} {T : Nat → Prop} {t : TypeId} (hm : Below w.heap.size w w2) (h : Tx w2 base tb w.heap.size mb 1 0 1 T (.slice none 0 0) (.slice none 0 0) [] []) (hbl : Below w2.heap.size w2 W) (ha : w2.heap.size ≤ a) (hb : w2.heap.size ≤ b) (hc : w2.heap.size ≤ c)
    (h1 : Blk W a 21 #[.int .i32 0]) (h2 : Blk W b 21 #[.int .i32 3]) (h3 : Blk W c 21 #[.int .i32 9]) :
    Calls Tryz.prog 18 #[.pointer (some ⟨tb, 0, none⟩), .slice (some ⟨W.heap.size, 0, none⟩) 3 3, .pointer none] (W.alloc (.cells ((lvL a b c).flatMap iE).toArray t)) fun e w' => e = .returned (.int .i64 0) ∧ LvS w w.heap.size tb w' := by
  have hT := h.below hbl
  have hlow := h.low
  have hgb := h.gb
  obtain ⟨V, hV⟩ : ∃ V, V = W.alloc (.cells ((lvL a b c).flatMap iE).toArray t) := ⟨_, rfl⟩
  have hbV : Below W.heap.size W V := by rw [hV]; exact (Below.refl _ _).alloc (Nat.le_refl _) _
  have hz : V.heap.size = W.heap.size + 1 := by rw [hV]; simp
  have hsl : Sl V V.heap.size (some ⟨W.heap.size, 0, none⟩) ((lvL a b c).flatMap iE) := by rw [hV]; exact Sl.lit W _ t
  have hs := hbl.size
  have hs0 := hm.size
  have hlt : ∀ i, (i = w.heap.size ∨ T i ∨ False) → i < w2.heap.size := fun i e => by
    rcases e with e | e | e
    · have := h.mt.lt; omega
    · exact (hlow i e).2
    · exact e.elim
  have hits : Its V (fun i => i = w.heap.size ∨ T i ∨ False) (some ⟨W.heap.size, 0, none⟩) (lvL a b c) := by
    refine ⟨fun j u hj => ?_, fun p hp => ?_⟩
    · obtain ⟨ad, e, hbk, hcell⟩ := hsl j u hj
      injection e with e
      subst e
      exact ⟨_, rfl, hbk, fun e => by have := hlt _ e; simp only at this; omega, hcell⟩
    · simp only [lvL, List.mem_cons, List.not_mem_nil, or_false] at hp
      rcases hp with rfl | rfl | rfl
      · exact away1 (h1.below hbV h1.lt) fun e => by have := hlt _ e; omega
      · exact away1 (h2.below hbV h2.lt) fun e => by have := hlt _ e; omega
      · exact away1 (h3.below hbV h3.lt) fun e => by have := hlt _ e; omega
  rw [← hV]
  refine (bulk_any (c := 3) (l := lvL a b c) (hT.below hbV) hits (lv_bf a b c) (lv_wf a b c) (dr_none _) trivial (fun i e => e.elim) (show 0 + 2 * 3 ≤ 1048576 by decide) (show 0 + 3 ≤ 1048576 by decide) ⟨by omega, by omega⟩).mono fun e w' ⟨he, k', vP', vR', T', P', R', g1, g2, g3, g4, _, g6, _⟩ => ?_
  rw [lv_fe] at he g4
  obtain ⟨g41, g42⟩ := g4 rfl
  rw [if_pos (show ([] : List At).length = 0 from rfl), lv_chs, lv_att, lv_ptl] at g41
  rw [lv_ix] at g42
  refine ⟨he, _, mb, k', vP', vR', T', P', R', g1, g41, by simpa using g42, g2, by have e3 : (lvL a b c).length = 3 := rfl; rw [e3] at g3; omega, ?_⟩
  have hbw : Below w.heap.size w V := (hm.trans (hbl.mono hs0)).trans (hbV.mono (by omega))
  refine hbw.trans (g6.below (by omega) fun i e => ?_)
  rcases e with e | e | e
  · omega
  · have := (hlow i e).1; omega
  · exact e.elim
set_option maxHeartbeats 1600000 in
/-- what Range tells then -/
theorem range_lives {w W W2 : World} {g tb d : Nat} (h : LvS w g tb W) (hb : Below W.heap.size W W2) (h8 : Blk W2 d 21 #[.int .i32 8]) : ∃ k : Int, 0 ≤ k ∧ k ≤ 12582912 ∧ Mt W g 1 k ∧
    Calls Tryz.prog 37 #[.pointer (some ⟨tb, 0, none⟩), .agg #[.int .i64 1, .slice (some ⟨d, 0, none⟩) 1 1, .string ⟨#[]⟩], .int .i64 2] W2 fun e w' => ∃ b c, e = .returned (.slice (some ⟨b, 0, none⟩) 1 c) ∧ 1 ≤ c ∧ w'.cell? ⟨b, 0, none⟩ = some (.int .u64 3) ∧ w'.cell? ⟨b, 1, none⟩ = some (.int .i64 1) ∧ Mt w' g 1 (k + 2) ∧ (w.heap.size ≤ g → Below w.heap.size w w') := by
  obtain ⟨base, mb, k, vP, vR, T, P, R, hT, hP, hR, hk0, hk1, hbw⟩ := h
  refine ⟨k, hk0, hk1, hT.mt, ?_⟩
  have hPl : P.length = 1 := by simpa using congrArg List.length hP
  have hRl : R.length = 3 := by simpa using congrArg List.length hR
  refine (range_any (hT.below hb) ⟨some ⟨d, 0, none⟩, 1, lvT 8⟩ lv_small (Made1.sl h8) ⟨hk0, by omega⟩ (by omega) (by omega) 2).mono fun e w' ⟨A, c, he, hown, hO, hM⟩ => ?_
  rw [nrs_ix, hR, lv_hits] at he hown
  rw [cnd_lks, hP, hR] at hM
  obtain ⟨b, c', hv, -, -, hc⟩ := own_form hown (by decide)
  injection hv with e1 e2 e3
  subst e1 e3
  refine ⟨b, c, he, hc, ?_, ?_, ?_, fun hg => ?_⟩
  · rw [World.ownsRow.cellAt hown 0 (by decide)]; rfl
  · rw [World.ownsRow.cellAt hown 1 (by decide)]; rfl
  · rw [hPl, show lks 1 [lvT 0] (⟨some ⟨d, 0, none⟩, 1, lvT 8⟩ : At).x 2 [(1, lvT 0), (2, lvT 3), (3, lvT 9)] = 1 from rfl] at hM
    exact hM
  · exact (hbw.trans (hb.mono hbw.size)).trans (hO.below (by have := hbw.size; have := hb.size; omega) fun i e => by rw [e]; exact hg)
set_option maxRecDepth 100000 in
set_option maxHeartbeats 3200000 in
theorem lives_any (w : World) : Calls Tryz.prog 9 #[] w fun e w' => e = .returned (.bool true) ∧ Below w.heap.size w w' := by
  have HN := Lib.hid (metric.new_any 1 w)
  go_enter Tryz.func9, Tryz.ntmps9
  go_wp2_with (fail)
  refine HN.out.mono ?_
  rintro e w1 ⟨rfl, hm1, hb1⟩
  have HT := Lib.hid (new_tb w.heap.size 1 0 1 w1 hm1)
  clear HN hm1
  go_wp2_with (fail)
  refine HT.out.mono ?_
  rintro e w2 ⟨tb, mb, T, rfl, hT, hb2⟩
  have H2 := Lib.hid (And.intro hT (hb1.trans (hb2.mono hb1.size)))
  clear HT hT hb1 hb2
  go_wp2_with (fail)
  refine (v_any 1 0 w2).mono ?_
  rintro e w3 ⟨a, rfl, ha, hka, hb3⟩
  have H3 := Lib.hid (And.intro ha (And.intro hka hb3))
  clear ha hka hb3
  go_wp2_with (fail)
  refine (v_any 2 3 w3).mono ?_
  rintro e w4 ⟨b, rfl, hbb, hkb, hb4⟩
  have H4 := Lib.hid (And.intro hbb (And.intro hkb hb4))
  clear hbb hkb hb4
  go_wp2_with (fail)
  refine (v_any 3 9 w4).mono ?_
  rintro e w5 ⟨c, rfl, hcc, hkc, hb5⟩
  have HB : Hid (Calls Tryz.prog 18 #[.pointer (some ⟨tb, 0, none⟩), .slice (some ⟨w5.heap.size, 0, none⟩) 3 3, .pointer none] (w5.alloc (.cells #[.int .u64 1, .int .i64 1, .slice (some ⟨a, 0, none⟩) 1 1, .string ⟨#[]⟩, .int .u64 2, .int .i64 1, .slice (some ⟨b, 0, none⟩) 1 1, .string ⟨#[]⟩, .int .u64 3, .int .i64 1, .slice (some ⟨c, 0, none⟩) 1 1, .string ⟨#[]⟩] 37)) fun e w' => e = .returned (.int .i64 0) ∧ LvS w w.heap.size tb w') := Lib.hid (by
    obtain ⟨h3, hk3, hb3⟩ := H3.out
    obtain ⟨h4, hk4, hb4⟩ := H4.out
    obtain ⟨hT, hb2⟩ := H2.out
    have s3 := hb3.size
    have s4 := hb4.size
    exact bulk_lives (a := a) (b := b) (c := c) (t := 37) hb2 hT ((hb3.trans (hb4.mono s3)).trans (hb5.mono (by omega))) h3 (by omega) (by omega) ((hk3.below hb4 hk3.lt).below hb5 (Nat.lt_of_lt_of_le hk3.lt s4)) (hk4.below hb5 hk4.lt) hkc)
  clear H3 H4 H2 hcc hkc hb5
  go_wp2_with (fail)
  refine HB.out.mono ?_
  rintro e w6 ⟨rfl, hls⟩
  clear HB
  have HLS := Lib.hid hls
  obtain ⟨k0, hk0⟩ : ∃ k0 : Int, Mt w6 w.heap.size 1 k0 := by
    obtain ⟨_, _, k0, _, _, _, _, _, h1, _⟩ := hls
    exact ⟨k0, h1.mt⟩
  clear hls
  have HC := Lib.hid (metric.calls_any w6 hk0)
  have HK := Lib.hid hk0
  clear hk0
  go_wp2_with (fail)
  refine HC.out.mono ?_
  rintro e w7 ⟨rfl, rfl⟩
  clear HC
  go_wp2_with (fail)
  have hfld : ∀ (d : Nat) (W : World), (Instr.field 37 (.agg #[.int .u64 0, .int .i64 1, .slice (some ⟨d, 0, none⟩) 1 1, .string ⟨#[]⟩]) 1).run Tryz.prog W = .ok (.agg #[.int .i64 1, .slice (some ⟨d, 0, none⟩) 1 1, .string ⟨#[]⟩]) W := fun d W => by kernel_rfl
  refine (v_any 0 8 w6).mono ?_
  rintro e w8 ⟨d, rfl, hd, hkd, hb8⟩
  obtain ⟨k, hk1, hk2, hmk, hr⟩ := range_lives HLS.out hb8 hkd
  obtain rfl : k0 = k := by
    have h1 := Blk.cell HK.out 1
    have h2 := Blk.cell hmk 1
    rw [h1] at h2
    simpa using h2
  have HR := Lib.hid hr
  clear hd hkd hb8 hmk hr HK HLS
  go_wp2_with (fail)
  refine HR.out.mono ?_
  rintro e w9 ⟨b9, c9, rfl, hc9, r0, r1, hm9, hbl9⟩
  have HC9 := Lib.hid (metric.calls_any w9 hm9)
  have HE := Lib.hid (hbl9 (Nat.le_refl _))
  clear HR hm9 hbl9
  have hw : IntKind.i64.wrap (k0 + 2) = k0 + 2 := by rw [IntKind.wrap_i64]; omega
  have d0 : decide ((k0 + 2 : Int) = k0 + 2) = true := by simp
  have d1 : ((k0 + 2 : Int) == k0 + 2) = true := by simp
  clear hfld
  go_wp2_with (fail)
  refine HC9.out.mono ?_
  rintro e w10 ⟨rfl, rfl⟩
  go_wp2_with (fail)
  go_ret
  exact ⟨rfl, HE.out⟩
end Go.Proofs.YtgbjpobgjmkjgaaGreat.tab
