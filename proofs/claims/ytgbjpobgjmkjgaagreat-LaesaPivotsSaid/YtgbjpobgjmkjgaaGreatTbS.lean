/-
  The contract of put: a thing put in, a pivot more if it may be one.
-/
import Derived.Test.YtgbjpobgjmkjgaaGreatTbR
import Derived.Test.YtgbjpobgjmkjgaaGreatClo
namespace Go.Proofs.YtgbjpobgjmkjgaaGreat.tab
open Go.RowKit Go.WideShapes law bytes only flat nums ord obj metric pv lae Go.Maps
open told (own_types blk_types)
set_option linter.unusedVariables false

theorem contains_any (A : Option Addr) (c B : Nat) (l : List Int) (x : Int) (w : World) (hs : Sl w B A (nv l)) (hl : l.length ≤ 9223372036854775807) :
    Calls Tryz.prog 93 #[.slice A l.length c, .int .i64 x] w fun e w' => e = .returned (.bool (l.contains x)) ∧ w = w' := by
  rcases Nat.eq_zero_or_pos l.length with h0 | h0
  · obtain rfl := List.eq_nil_of_length_eq_zero h0
    exact (Tryz.slices_Contains_int_empty A c x w).mono fun e w' ⟨he, hw⟩ => ⟨he, hw.symm⟩
  · obtain ⟨b, o, rfl, -, hc⟩ := Sl.place hs (by rw [nv_length]; exact h0)
    have := Tryz.slices_Contains_int b o l.length c l x w (Nat.le_refl _) hl fun j hj => by
      rw [hc j (by rw [nv_length]; exact hj)]
      simp [nv, List.getD, hj]
    refine this.mono fun e w' ⟨he, hw⟩ => ⟨?_, hw.symm⟩
    rw [he, List.take_length]
/-- a row's number and thing -/
def ix (r : Ro) : Int × Thing := (r.id, r.t.x)
/-- may a thing be a pivot more? -/
def more (n most : Int) (P : List At) (x : Thing) : Bool := decide ((P.length : Int) < most) && !((fs n P x).contains 0)
/-- what put leaves -/
def PutX (w : World) (base tb g mb : Nat) (n k most : Int) (T : Nat → Prop) (P : List At) (R : List Ro) (id : Int) (x : Thing) (e : Ending) (w' : World) : Prop :=
  e = .returned (.tuple #[]) ∧ ∃ vP' vR' T' P' R', Tx w' base tb g mb n (k + P.length + (if more n most P x then R.length else 0 : Nat)) most T' vP' vR' P' R' ∧ P'.map At.x = (if more n most P x then P.map At.x ++ [x] else P.map At.x) ∧ R'.map ix = R.map ix ++ [(id, x)] ∧
    Only (fun i => i = g ∨ T i) w w' ∧ ∀ i, T' i → T i ∨ w.heap.size ≤ i
section
variable {w w' : World} {base tb g mb B i : Nat} {n k most : Int} {T S X : Nat → Prop} {vP vR : Value} {P : List At} {R D : List Ro} {r : Ro} {A : Option Addr} {xs : List Value}
theorem keys_ix (h : D.map kk = R.map kk) : D.map ix = R.map ix := by
  have := congrArg (List.map fun q : Int × At × Nat => (q.1, q.2.1.x)) h
  show D.map (fun r => (r.id, r.t.x)) = R.map fun r => (r.id, r.t.x)
  simpa [kk, Function.comp_def] using this
theorem cells4' {w : World} {b t : Nat} {x0 x1 x2 x3 : Value} (h : Blk w b t #[x0, x1, x2, x3]) : w.cell? ⟨b, 0, none⟩ = some x0 ∧ w.cell? ⟨b, 1, none⟩ = some x1 ∧ w.cell? ⟨b, 2, none⟩ = some x2 ∧ w.cell? ⟨b, 3, none⟩ = some x3 ∧ ∀ i, w.frozen? ⟨b, i, none⟩ = false :=
  ⟨h.cell 0, h.cell 1, h.cell 2, h.cell 3, h.frozen⟩
/-- three cells of a box -/
theorem blk_store3 {W : World} {g : Nat} {t : TypeId} {a x y z x' y' z' : Value} (h : Blk W g t #[a, x, y, z]) : Blk (((W.setCell ⟨g, 1, none⟩ x').setCell ⟨g, 2, none⟩ y').setCell ⟨g, 3, none⟩ z') g t #[a, x', y', z'] ∧ Only (· = g) W (((W.setCell ⟨g, 1, none⟩ x').setCell ⟨g, 2, none⟩ y').setCell ⟨g, 3, none⟩ z') :=
  ⟨((h.set_ 1 x').set_ 2 y').set_ 3 z', Only.setCell (S := (· = g)) (p := ⟨g, 3, none⟩) (Only.setCell (S := (· = g)) (p := ⟨g, 2, none⟩) (Only.setCell (S := (· = g)) (p := ⟨g, 1, none⟩) (Only.refl _ _) (.inl rfl) _) (.inl rfl) _) (.inl rfl) _⟩
set_option maxRecDepth 100000 in
set_option maxHeartbeats 3200000 in
theorem put_any {id : Int} {x : At} (h : Tx w base tb g mb n k most T vP vR P R) (hnew : (ids R).contains id = false) (hwf : (Lit.int .u64 id).wf = true) (hbf : Bf x.x) (hxs : Sl w w.heap.size x.a (iv x.x.vec))
    (hP : P.length ≤ 1048576) (hR : R.length ≤ 1048576) (hk : 0 ≤ k ∧ k ≤ 2305843009213693952) :
    Calls Tryz.prog 59 #[.pointer (some ⟨tb, 0, none⟩), .agg #[.int .u64 id, .int .i64 x.x.tag, .slice x.a x.x.vec.length x.c, .string x.x.str]] w (PutX w base tb g mb n k most T P R id x.x) := by
  have hgb := h.gb
  have hbw := h.base_le
  have hlow := h.low
  obtain ⟨V, hV⟩ : ∃ V, V = w.alloc (.cells #[.int .u64 id, .int .i64 x.x.tag, .slice x.a x.x.vec.length x.c, .string x.x.str] 37) := ⟨_, rfl⟩
  have hbV : Below w.heap.size w V := by rw [hV]; exact (Below.refl _ _).alloc (Nat.le_refl _) _
  have hkx : Blk V w.heap.size 37 #[.int .u64 id, .int .i64 x.x.tag, .slice x.a x.x.vec.length x.c, .string x.x.str] := by rw [hV]; exact Blk.new w _ _
  have hzV : V.heap.size = w.heap.size + 1 := by rw [hV]; simp
  obtain ⟨-, c1, c2, c3, cf⟩ := cells4' hkx
  have HC : Hid (Calls Tryz.prog 52 #[.agg #[.int .i64 x.x.tag, .slice x.a x.x.vec.length x.c, .string x.x.str]] V (ClonedO x.x V)) :=
    Lib.hid (cloneO_any x.a x.c w.heap.size x.x V (by have := hbf.2.1; omega) (by have := hbf.2.2; omega) (by omega) (hxs.below hbV))
  -- what holds behind the copy
  have HW2 : Hid (∀ w1 A2 c2, Below V.heap.size V w1 → w1.ownsRow V.heap.size 21 1 (.slice A2 x.x.vec.length c2) x.x.vec.length (iv x.x.vec) → w1.cell? ⟨w.heap.size, 1, none⟩ = some (.int .i64 x.x.tag) ∧ w1.cell? ⟨w.heap.size, 2, none⟩ = some (.slice x.a x.x.vec.length x.c) ∧ w1.cell? ⟨w.heap.size, 3, none⟩ = some (.string x.x.str) ∧ (∀ i, w1.frozen? ⟨w.heap.size, i, none⟩ = false) ∧
      ∀ w2, w2 = ((w1.setCell ⟨w.heap.size, 1, none⟩ (.int .i64 x.x.tag)).setCell ⟨w.heap.size, 2, none⟩ (.slice A2 x.x.vec.length c2)).setCell ⟨w.heap.size, 3, none⟩ (.string x.x.str) →
        Blk w2 w.heap.size 37 #[.int .u64 id, .int .i64 x.x.tag, .slice A2 x.x.vec.length c2, .string x.x.str] ∧ Tx w2 base tb g mb n k most T vP vR P R ∧ w2.ownsRow V.heap.size 21 1 (.slice A2 x.x.vec.length c2) x.x.vec.length (iv x.x.vec) ∧ Below w.heap.size w w2 ∧ V.heap.size ≤ w2.heap.size) := Lib.hid fun w1 A2 c2 hb1 ho1 => by
    have b1 := hkx.below hb1 hkx.lt
    obtain ⟨-, d1, d2, d3, df⟩ := cells4' b1
    refine ⟨d1, d2, d3, b1.frozen, fun w2 hw2 => ?_⟩
    obtain ⟨e1, e2⟩ := blk_store3 (x' := .int .i64 x.x.tag) (y' := .slice A2 x.x.vec.length c2) (z' := .string x.x.str) b1
    rw [← hw2] at e1 e2
    have hb2 : Below w.heap.size w w2 := (hbV.trans (hb1.mono (by omega))).trans (e2.below (by have := hb1.size; omega) fun i e => by omega)
    refine ⟨e1, h.below hb2, own_only ho1 e2 fun i e e3 => ?_, hb2, by have := hb1.size; have := e2.size; omega⟩
    have := (own_lt ho1 e).1
    omega
  have HH := Lib.hid (And.intro h (And.intro hxs (And.intro hbf (And.intro hnew hwf))))
  have HK := Lib.hid (And.intro hP (And.intro hR hk))
  have HN := Lib.hid (And.intro hgb (And.intro hbw (And.intro hlow hzV)))
  have HV := Lib.hid hV
  clear h hxs hbf hnew hwf hP hR hk hkx hbV hV hgb hbw hlow hzV
  go_enter Tryz.func59, Tryz.ntmps59
  go_wp2_with (fail)
  rw [← HV.out]
  refine HC.out.mono ?_
  rintro e w1 ⟨A2, k2, rfl, ho1, hb1⟩
  obtain ⟨d1, d2, d3, df, hw2⟩ := HW2.out w1 A2 k2 hb1 ho1
  obtain ⟨w2, hW2⟩ : ∃ w2, w2 = ((w1.setCell ⟨w.heap.size, 1, none⟩ (.int .i64 x.x.tag)).setCell ⟨w.heap.size, 2, none⟩ (.slice A2 x.x.vec.length k2)).setCell ⟨w.heap.size, 3, none⟩ (.string x.x.str) := ⟨_, rfl⟩
  obtain ⟨e1, e2, e3, e4, e5⟩ := hw2 w2 hW2
  have HW := Lib.hid hW2
  have HE := Lib.hid (And.intro e1 (And.intro e2 (And.intro e3 (And.intro e4 e5))))
  have df1 := df 1
  have df2 := df 2
  have df3 := df 3
  clear HC HW2 HV hw2 hb1 ho1 c1 c2 c3 cf e1 e2 e3 e4 e5 hW2 df
  have HFA : Hid (Calls Tryz.prog 92 #[.pointer (some ⟨tb, 0, none⟩), .agg #[.int .i64 x.x.tag, .slice A2 x.x.vec.length k2, .string x.x.str]] w2 (Fars w2 g n k P x.x)) := Lib.hid (by
    obtain ⟨e1, e2, e3, e4, e5⟩ := HE.out
    obtain ⟨hP, hR, hk⟩ := HK.out
    exact fars_any e2 ⟨A2, k2, x.x⟩ HH.out.2.2.1.small (Sl.of_own e3) ⟨hk.1, by omega⟩ hP)
  obtain ⟨-, q1, q2, q3, qf⟩ := cells4' HE.out.1
  go_wp2_with (fail)
  rw [← HW.out]
  refine HFA.out.mono ?_
  rintro e w3 ⟨A3, c3, rfl, hrow, hO3, hM3⟩
  -- what holds behind fars
  have H3 : Hid (Tx w3 base tb g mb n (k + P.length) most T vP vR P R ∧ Blk w3 w.heap.size 37 #[.int .u64 id, .int .i64 x.x.tag, .slice A2 x.x.vec.length k2, .string x.x.str] ∧ w3.ownsRow V.heap.size 21 1 (.slice A2 x.x.vec.length k2) x.x.vec.length (iv x.x.vec) ∧
      w3.ownsRow V.heap.size 3 1 (.slice A3 P.length c3) P.length (nv (fs n P x.x)) ∧ V.heap.size ≤ w3.heap.size ∧ Only (fun i => i = g ∨ T i) w w3 ∧ (∀ i, (Value.slice A3 P.length c3).ownBlock = some i → w2.heap.size ≤ i) ∧ w2.heap.size ≤ w3.heap.size ∧ V.heap.size ≤ w2.heap.size) := Lib.hid (by
    obtain ⟨e1, e2, e3, e4, e5⟩ := HE.out
    obtain ⟨hgb, hbw, hlow, hz⟩ := HN.out
    have s3 := hO3.size
    refine ⟨e2.asked hO3 hM3, Blk.only e1 hO3 (by omega), own_only e3 hO3 fun i e e' => by have := (own_lt e3 e).1; omega, pv.own_base hrow e5, by omega, (Only.of_below e4 (Nat.le_refl _) _).trans hO3 fun i e => .inl (.inl e), fun i e => (own_lt hrow e).1, s3, e5⟩)
  clear hrow hO3 hM3 HFA HE q1 q2 q3 qf HW
  obtain ⟨-, -, r2, -⟩ := H3.out.1.cells
  obtain ⟨-, r1, -⟩ := H3.out.1.cells
  obtain ⟨AP, cP, hvP, hcP⟩ := own_slice H3.out.1.piv
  rw [hvP] at r2
  have HCN : Hid (∀ m, Calls Tryz.prog 93 #[.slice A3 P.length c3, .int .i64 0] (w3.drewN m) fun e w' => e = .returned (.bool ((fs n P x.x).contains 0)) ∧ w3.drewN m = w') := Lib.hid fun m => by
    have hs := Sl.of_ownK H3.out.2.2.2.1
    have hl := fs_length n P x.x
    have := contains_any A3 c3 _ (fs n P x.x) 0 (w3.drewN m) (hs.drewN m) (by have := HK.out.1; omega)
    rwa [hl] at this
  -- add where no pivot came
  have HADD : Hid (∀ m, more n most P x.x = false → Calls Tryz.prog 94 #[.pointer (some ⟨tb, 0, none⟩), .agg #[.int .u64 id, .int .i64 x.x.tag, .slice A2 x.x.vec.length k2, .string x.x.str], .slice A3 P.length c3] (w3.drewN m) (PutX w base tb g mb n k most T P R id x.x)) := Lib.hid fun m hmo => by
    obtain ⟨i1, i2, i3, i4, i5, i6, i7, i8, i9⟩ := H3.out
    obtain ⟨hh, hxs, hbf, hnew, hwf⟩ := HH.out
    obtain ⟨hP, hR, hk⟩ := HK.out
    obtain ⟨hgb, hbw, hlow, hz⟩ := HN.out
    refine (add_any (id := id) (x := ⟨A2, k2, x.x⟩) (i1.drewN m) (B := V.heap.size) (by omega) i5 hnew hwf hbf i4 (fun i e e2 => by have := i7 i e; have := (hlow i e2).2; omega) i3 hR).mono fun e w' ⟨he, b, v4, T', hT, hO, hT'⟩ => ⟨he, vP, v4, T', P, R ++ [⟨id, ⟨A2, k2, x.x⟩, b, .slice A3 P.length c3⟩], ?_, ?_, ?_, (i6.drewN m).trans hO fun i e => .inl (.inr e), fun i e => (hT' i e).imp (fun e => e) fun e => by omega⟩
    · rw [hmo]
      simpa using hT
    · rw [hmo]
      rfl
    · rw [List.map_append]
      rfl
  by_cases hlm : (P.length : Int) < most
  · have d0 : decide ((P.length : Int) < most) = true := decide_eq_true hlm
    cases hcn : (fs n P x.x).contains 0 with
    | true =>
      have hmo : more n most P x.x = false := by unfold more; rw [hcn]; simp
      rw [hcn] at HCN
      have HMO := Lib.hid hmo
      have hbx := H3.out.2.1
      obtain ⟨q0, q1, q2, q3, qf⟩ := cells4' hbx
      clear hcn hmo hbx hvP hcP
      go_wp2_with (fail)
      go_quiet ((go_at_call 93; first | exact quiet0 (HCN.out _) | exact quietA (HCN.out _)))
      go_wp2_with (fail)
      refine (HADD.out _ HMO.out).mono ?_
      rintro e w4 hp
      have hp2 := hp
      obtain ⟨rfl, -⟩ := hp2
      have HP := Lib.hid hp
      clear hp
      go_wp2_with (fail)
      refine bodyPost_ret (v := .tuple #[]) (by simp [results, Tryz.results59, go_sem]) rfl ?_
      exact HP.out
    | false =>
      have hmo : more n most P x.x = true := by unfold more; rw [hcn, d0]; rfl
      rw [hcn] at HCN
      have hbx := H3.out.2.1
      obtain ⟨q0, q1, q2, q3, qf⟩ := cells4' hbx
      have HPV : Hid (∀ m, Calls Tryz.prog 91 #[.pointer (some ⟨tb, 0, none⟩), .agg #[.int .i64 x.x.tag, .slice A2 x.x.vec.length k2, .string x.x.str]] (w3.drewN m) fun e w4 => e = .returned (.tuple #[]) ∧
          w4.ownsRow V.heap.size 3 1 (.slice A3 P.length c3) P.length (nv (fs n P x.x)) ∧ V.heap.size ≤ w4.heap.size ∧
          Hid (∀ w5 A5 c5, (w4.alloc (.cells #[.int .i64 0] 3)).grownBy w5 (Value.slice A3 P.length c3).ownBlock → ((Value.slice A5 (P.length + 1) c5).ownBlock = (Value.slice A3 P.length c3).ownBlock ∨ (Value.slice A5 (P.length + 1) c5).ownBlock = some (w4.heap.size + 1)) → w5.ownsRow V.heap.size 3 1 (.slice A5 (P.length + 1) c5) (P.length + 1) (nv (fs n P x.x) ++ [.int .i64 0]) →
            Blk w5 w.heap.size 37 #[.int .u64 id, .int .i64 x.x.tag, .slice A2 x.x.vec.length k2, .string x.x.str] ∧
            Calls Tryz.prog 94 #[.pointer (some ⟨tb, 0, none⟩), .agg #[.int .u64 id, .int .i64 x.x.tag, .slice A2 x.x.vec.length k2, .string x.x.str], .slice A5 (P.length + 1) c5] w5 (PutX w base tb g mb n k most T P R id x.x))) := Lib.hid fun m => by
        obtain ⟨i1, i2, i3, i4, i5, i6, i7, i8, i9⟩ := H3.out
        obtain ⟨hh, hxs, hbf, hnew, hwf⟩ := HH.out
        obtain ⟨hP, hR, hk⟩ := HK.out
        obtain ⟨hgb, hbw, hlow, hz⟩ := HN.out
        refine (addPivot_any (x := ⟨A2, k2, x.x⟩) (i1.drewN m) hbf i3 (by omega) hP hR ⟨by omega, by omega⟩).mono fun e w4 ⟨he, vP', D, hT, hkk, hO⟩ => ?_
        have hgT : ∀ i, (i = g ∨ T i) → i < w.heap.size := fun i e => by
          rcases e with e | e
          · omega
          · exact (hlow i e).2
        have hO3 : Only (fun i => i = g ∨ T i) w3 w4 := ⟨hO.os, hO.tape, hO.output, hO.size, hO.block⟩
        have s4 : w3.heap.size ≤ w4.heap.size := hO.size
        have j4 : w4.ownsRow V.heap.size 3 1 (.slice A3 P.length c3) P.length (nv (fs n P x.x)) := own_only i4 hO3 fun i e e2 => by have := hgT i e2; have := i7 i e; omega
        have j2 : Blk w4 w.heap.size 37 #[.int .u64 id, .int .i64 x.x.tag, .slice A2 x.x.vec.length k2, .string x.x.str] := Blk.only i2 hO3 fun e => by have := hgT _ e; omega
        have j3 : w4.ownsRow V.heap.size 21 1 (.slice A2 x.x.vec.length k2) x.x.vec.length (iv x.x.vec) := own_only i3 hO3 fun i e e2 => by have := hgT i e2; have := (own_lt i3 e).1; omega
        refine ⟨he, j4, by omega, Lib.hid fun w5 A5 c5 hg5 hat5 hown5 => ?_⟩
        have ho5 : Only (fun j => (Value.slice A3 P.length c3).ownBlock = some j) w4 w5 := ((Only.refl _ w4).alloc _).trans (Only.of_grown hg5 fun j e => .inl e) fun j e => .inl e
        have hX : ∀ i, Xv ⟨A2, k2, x.x⟩ i → ¬ (Value.slice A3 P.length c3).ownBlock = some i := fun i e e2 => told.own_types j4 j3 (by decide) e2 e
        have hT5 : Tx w5 base tb g mb n (k + P.length + R.length) most (Mr (w3.drewN m).heap.size T (Xv ⟨A2, k2, x.x⟩) w4) vP' vR (P ++ [⟨A2, k2, x.x⟩]) D := hT.only ho5 fun i e e2 => by
          have h7 := i7 i e2
          rcases e with e | e | e | e
          · omega
          · have := (hlow i e).2; omega
          · exact hX i e e2
          · have h8 := (own_lt i4 e2).2
            have h9 : w3.heap.size ≤ i := e.1
            omega
        have hkl : D.length = R.length := by simpa using congrArg List.length hkk
        have hfs : nv (fs n (P ++ [⟨A2, k2, x.x⟩]) x.x) = nv (fs n P x.x) ++ [.int .i64 0] := by rw [fs_snoc, nv_snoc]; show _ ++ [Value.int .i64 (M n x.x x.x)] = _; rw [pv.M_self]
        have hlen : (P ++ [(⟨A2, k2, x.x⟩ : At)]).length = P.length + 1 := by simp
        have j5 : w5.ownsRow V.heap.size 21 1 (.slice A2 x.x.vec.length k2) x.x.vec.length (iv x.x.vec) := own_only j3 ho5 fun i e e2 => hX i e e2
        have j6 : Blk w5 w.heap.size 37 #[.int .u64 id, .int .i64 x.x.tag, .slice A2 x.x.vec.length k2, .string x.x.str] := Blk.only j2 ho5 fun e => by have := i7 _ e; omega
        have hA := add_any (id := id) (x := ⟨A2, k2, x.x⟩) (Av := A5) (cv := c5) (B := V.heap.size) hT5 (by omega) (by have := ho5.size; omega) (by rw [keys_ids hkk]; exact hnew) hwf hbf (by rw [hlen, hfs]; exact hown5) (fun i e e2 => by
          rw [hlen] at e
          rcases hat5 with e5 | e5
          · rw [e5] at e
            have h7 := i7 i e
            rcases e2 with e2 | e2 | e2
            · have := (hlow i e2).2; omega
            · exact hX i e2 e
            · have h8 := (own_lt i4 e).2
              have h9 : w3.heap.size ≤ i := e2.1
              omega
          · rw [e5] at e
            injection e with e
            rcases e2 with e2 | e2 | e2
            · have := (hlow i e2).2; omega
            · have := (own_lt j3 e2).2; omega
            · have := e2.2; omega) j5 (by omega)
        rw [hlen] at hA
        refine ⟨j6, hA.mono fun e w6 ⟨he, b, v4, T', hT6, hO6, hT'⟩ => ⟨he, vP', v4, T', P ++ [⟨A2, k2, x.x⟩], D ++ [⟨id, ⟨A2, k2, x.x⟩, b, .slice A5 (P.length + 1) c5⟩], ?_, ?_, ?_, ?_, fun i e => ?_⟩⟩
        · rw [hmo]
          simpa using hT6
        · rw [hmo]
          simp
        · rw [List.map_append, keys_ix hkk]
          rfl
        · have hB : ∀ i, Mr (w3.drewN m).heap.size T (Xv ⟨A2, k2, x.x⟩) w4 i → T i ∨ w.heap.size ≤ i := fun i e => by
            rcases e with e | e | e
            · exact .inl e
            · exact .inr (by have := (own_lt i3 e).1; omega)
            · exact .inr (by have h9 : w3.heap.size ≤ i := e.1; omega)
          refine (((i6.drewN m).trans hO fun i e => .inl e).trans ho5 fun i e => .inr (by have := i7 i e; omega)).trans hO6 fun i e => (hB i e).imp .inr (fun e => e)
        · rcases hT' i e with e | e
          · rcases e with e | e | e
            · exact .inl e
            · exact .inr (by have := (own_lt i3 e).1; omega)
            · exact .inr (by have h9 : w3.heap.size ≤ i := e.1; omega)
          · exact .inr (by omega)
      have HPB := Lib.hid (And.intro HK.out.1 (HN.out.2.2.2))
      clear hcn hmo hbx hvP hcP HADD H3 HH HN HK hlm
      go_wp2_with (fail)
      go_quiet ((go_at_call 93; first | exact quiet0 (HCN.out _) | exact quietA (HCN.out _)))
      go_wp2_with (fail)
      refine (HPV.out _).mono ?_
      rintro e w4 ⟨rfl, hown4, hs4, hx4⟩
      clear HPV HCN q0 q1 q2 q3 qf r1 r2
      go_wp2_with (at_builtin
                   refine wpList_append_slk _ rfl (.tmp 32) (.tmp 33) _ rfl V.heap.size 3 1 8 Tryz.underlying39 intK (by omega) (.slice A3 P.length c3) P.length (nv (fs n P x.x)) rfl (World.ownsRow.alloc (w := w4) hown4 _) _ _ 1 1 [.int .i64 0] rfl (Sl.lit w4 _ _) rfl (by simp [Value.oneCell']) (by have := HPB.out.1; omega) (by have := HPB.out.1; unfold maxLen; omega) (by simp; omega) ?_
                   intro v5 w5 hown5 hg5 hat5
                   obtain ⟨A5, c5, rfl, hc5⟩ := own_slice hown5
                   obtain ⟨hb5, hadd⟩ := hx4.out w5 _ _ hg5 (hat5.imp (fun e => e) fun e => e.trans (by simp)) hown5
                   have HA5 := Lib.hid hadd
                   obtain ⟨p0, p1, p2, p3, pf⟩ := cells4' hb5
                   clear hown5 hg5 hat5 hc5 hx4 hown4 hs4 hb5 hadd)
      refine HA5.out.mono ?_
      rintro e w6 hp
      have hp2 := hp
      obtain ⟨rfl, -⟩ := hp2
      have HP := Lib.hid hp
      clear hp
      go_wp2_with (fail)
      refine bodyPost_ret (v := .tuple #[]) (by simp [results, Tryz.results59, go_sem]) rfl ?_
      exact HP.out
  · have d0 : decide ((P.length : Int) < most) = false := decide_eq_false hlm
    have hmo : more n most P x.x = false := by unfold more; rw [d0]; rfl
    have HMO := Lib.hid hmo
    obtain ⟨q0, q1, q2, q3, qf⟩ := cells4' H3.out.2.1
    clear hmo hvP hcP HCN
    go_wp2_with (fail)
    go_quiet (fail)
    go_wp2_with (fail)
    refine (HADD.out _ HMO.out).mono ?_
    rintro e w4 hp
    have hp2 := hp
    obtain ⟨rfl, -⟩ := hp2
    have HP := Lib.hid hp
    clear hp
    go_wp2_with (fail)
    refine bodyPost_ret (v := .tuple #[]) (by simp [results, Tryz.results59, go_sem]) rfl ?_
    exact HP.out
end
end Go.Proofs.YtgbjpobgjmkjgaaGreat.tab
