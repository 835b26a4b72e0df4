/-
  The contracts of hang, put, has, New: a thing more.
-/
import Derived.Test.YtaamlidflfdjkaaBkB
import Derived.Test.YtaamlidflfdjkaaClo
namespace Go.Proofs.Ytaamlidflfdjkaa.bk
open Go.RowKit Go.WideShapes law bytes only flat nums ord obj metric tab
open told (own_types blk_types)
open Go.Maps Go.ChangeAt
set_option linter.unusedVariables false
set_option maxRecDepth 100000

theorem cells4' {w : World} {b t : Nat} {x0 x1 x2 x3 : Value} (h : Blk w b t #[x0, x1, x2, x3]) : w.cell? ⟨b, 0, none⟩ = some x0 ∧ w.cell? ⟨b, 1, none⟩ = some x1 ∧ w.cell? ⟨b, 2, none⟩ = some x2 ∧ w.cell? ⟨b, 3, none⟩ = some x3 ∧ ∀ i, w.frozen? ⟨b, i, none⟩ = false :=
  ⟨h.cell 0, h.cell 1, h.cell 2, h.cell 3, h.frozen⟩
theorem blk_store3 {W : World} {g : Nat} {t : TypeId} {a x y z x' y' z' : Value} (h : Blk W g t #[a, x, y, z]) : Blk (((W.setCell ⟨g, 1, none⟩ x').setCell ⟨g, 2, none⟩ y').setCell ⟨g, 3, none⟩ z') g t #[a, x', y', z'] ∧ Only (· = g) W (((W.setCell ⟨g, 1, none⟩ x').setCell ⟨g, 2, none⟩ y').setCell ⟨g, 3, none⟩ z') :=
  ⟨((h.set_ 1 x').set_ 2 y').set_ 3 z', Only.setCell (S := (· = g)) (p := ⟨g, 3, none⟩) (Only.setCell (S := (· = g)) (p := ⟨g, 2, none⟩) (Only.setCell (S := (· = g)) (p := ⟨g, 1, none⟩) (Only.refl _ _) (.inl rfl) _) (.inl rfl) _) (.inl rfl) _⟩
/-- the node that a thing becomes -/
def node (n : Int) (L : List Bn) (id : Int) (x : Thing) : Bn := ⟨id, x, false, (seek n L x).1, (seek n L x).2⟩
/-- what hang, and put, leave -/
def Hung (w : World) (base tb g : Nat) (n k : Int) (T : Nat → Prop) (L : List Bn) (id : Int) (x : Thing) (e : Ending) (w' : World) : Prop :=
  e = .returned (.tuple #[]) ∧ ∃ k' T' N', k ≤ k' ∧ k' ≤ k + (L.length : Int) ∧ Bx w' base tb g n k' T' N' ∧ N'.map bn = L ++ [node n L id x] ∧ Only (fun i => i = g ∨ T i) w w' ∧ (∀ i, T' i → T i ∨ w.heap.size ≤ i) ∧ Kv w w'
section
variable {w w' w1 W W' : World} {base tb g hb pb mh mp B : Nat} {n k : Int} {T S : Nat → Prop} {vN v4 : Value} {N : List Nd} {DH DP D1 : DataW Unit} {d : Nd} {t t' : TypeId} {A : Option Addr} {xs : List Value} {id : Int} {x : At} {gone : Bool} {par edge : Int}
theorem Vc.below (h : Vc w T A xs) (o : Below w.heap.size w w') : Vc w' T A xs := h.only (S := fun _ => False) (Only.of_below o (Nat.le_refl _) _) fun _ _ _ e => e
theorem Bx.base_le (h : Bx w base tb g n k T N) : base ≤ w.heap.size := by have := h.low _ h.tt; omega
set_option maxHeartbeats 3200000 in
theorem hang_any (h : Bx w base tb g n k T N) (id : Int) (x : At) (hvec : Vc w T x.a (iv x.x.vec)) (hbf : Bf x.x) (hwf : (Lit.int .u64 id).wf = true) (hlive : lv (N.map bn) id = none) (hN : N.length < 1048576) (hk : 0 ≤ k ∧ k + (N.length : Int) < 9223372036854775807) :
    Calls Try.prog 33 #[.pointer (some ⟨tb, 0, none⟩), .agg #[.int .u64 id, .int .i64 x.x.tag, .slice x.a x.x.vec.length x.c, .string x.x.str]] w (Hung w base tb g n k T (N.map bn) id x.x) := by
  obtain ⟨V, hV⟩ : ∃ V, V = w.alloc (.cells #[.int .u64 id, .int .i64 x.x.tag, .slice x.a x.x.vec.length x.c, .string x.x.str] 38) := ⟨_, rfl⟩
  have hbV : Below w.heap.size w V := by rw [hV]; exact (Below.refl _ _).alloc (Nat.le_refl _) _
  have hkx : Blk V w.heap.size 38 #[.int .u64 id, .int .i64 x.x.tag, .slice x.a x.x.vec.length x.c, .string x.x.str] := by rw [hV]; exact Blk.new w _ _
  have hzV : V.heap.size = w.heap.size + 1 := by rw [hV]; simp
  have hX := h.below hbV
  have hgl := h.mt.lt
  have hgb := h.gb
  have hlow := h.low
  have HS : Hid (Calls Try.prog 41 #[.pointer (some ⟨tb, 0, none⟩), .agg #[.int .i64 x.x.tag, .slice x.a x.x.vec.length x.c, .string x.x.str]] V (Sought V g n k (N.map bn) x.x)) :=
    Lib.hid (seek_any hX x hbf.small ((Vc.below hvec hbV).sl) hk (by omega))
  have HA : Hid (∀ w1, (∃ k', k ≤ k' ∧ k' ≤ k + ((N.map bn).length : Int) ∧ Only (· = g) V w1 ∧ Mt w1 g n k') → ∀ W2, W2 = w1.alloc (.cells #[.int .i64 (seek n (N.map bn) x.x).1, .int .i64 (seek n (N.map bn) x.x).2] 97) →
      (W2.cell? ⟨w.heap.size, 0, none⟩ = some (.int .u64 id) ∧ W2.cell? ⟨w.heap.size, 1, none⟩ = some (.int .i64 x.x.tag) ∧ W2.cell? ⟨w.heap.size, 2, none⟩ = some (.slice x.a x.x.vec.length x.c) ∧ W2.cell? ⟨w.heap.size, 3, none⟩ = some (.string x.x.str) ∧ W2.cell? ⟨w1.heap.size, 0, none⟩ = some (.int .i64 (seek n (N.map bn) x.x).1) ∧ W2.cell? ⟨w1.heap.size, 1, none⟩ = some (.int .i64 (seek n (N.map bn) x.x).2)) ∧
      Calls Try.prog 42 #[.pointer (some ⟨tb, 0, none⟩), .agg #[.int .u64 id, .int .i64 x.x.tag, .slice x.a x.x.vec.length x.c, .string x.x.str, .bool false, .int .i64 (seek n (N.map bn) x.x).1, .int .i64 (seek n (N.map bn) x.x).2]] W2 fun e w' => e = .returned (.tuple #[]) ∧ Hid (Hung w base tb g n k T (N.map bn) id x.x (.returned (.tuple #[])) w')) := Lib.hid fun w1 hw1 W2 hW2 => by
    obtain ⟨k', hk1, hk2, hO, hM⟩ := hw1
    have h1 := hX.asked hO hM
    have s1 := hO.size
    have hb2 : Below w1.heap.size w1 W2 := by rw [hW2]; exact (Below.refl _ _).alloc (Nat.le_refl _) _
    have h2 := h1.below hb2
    have x1 := Blk.only hkx hO (by omega)
    have x2 := x1.below hb2 x1.lt
    have q2 : Blk W2 w1.heap.size 97 #[.int .i64 (seek n (N.map bn) x.x).1, .int .i64 (seek n (N.map bn) x.x).2] := by rw [hW2]; exact Blk.new w1 _ _
    have v1 : Vc w1 T x.a (iv x.x.vec) := (Vc.below hvec hbV).only hO fun i hi _ e => by have := (hlow i hi).1; omega
    refine ⟨⟨x2.cell 0, x2.cell 1, x2.cell 2, x2.cell 3, q2.cell 0, q2.cell 1⟩, (add_any h2 id x false _ _ (Vc.below v1 hb2) hbf hwf rfl (fun _ => hlive) hN).mono fun e w' hA => ?_⟩
    obtain ⟨he, T', N', a1, a2, a3, a4, a5⟩ := hA
    have s2 := hb2.size
    have hO2 : Only (fun i => i = g ∨ T i) w W2 := ((Only.of_below hbV (Nat.le_refl _) _).trans hO fun i e => .inl (.inl e)).on hb2
    exact ⟨he, Lib.hid ⟨rfl, k', T', N', hk1, hk2, a1, a2, hO2.trans a3 fun i e => .inl (.inr e), fun i e => (a4 i e).imp (fun e => e) fun e => by omega, (((Kv.below hbV).trans (Kv.cl hO (Cl.blk hX.mt) (by decide))).trans (Kv.below hb2)).trans a5⟩⟩
  have HV := Lib.hid hV
  obtain ⟨c0, c1, c2, c3, -⟩ := cells4' hkx
  clear hV hbV hkx hzV hX hgl hgb hlow h hvec hbf hwf hlive hN hk
  go_enter Try.func33, Try.ntmps33
  go_wp2_with (fail)
  rw [← HV.out]
  refine HS.out.mono ?_
  rintro e w1 ⟨rfl, hs⟩
  obtain ⟨W2, hW2⟩ : ∃ W2, W2 = w1.alloc (.cells #[.int .i64 (seek n (N.map bn) x.x).1, .int .i64 (seek n (N.map bn) x.x).2] 97) := ⟨_, rfl⟩
  obtain ⟨⟨r0, r1, r2, r3, r4, r5⟩, hA⟩ := HA.out w1 hs W2 hW2
  have HA2 := Lib.hid hA
  have HW := Lib.hid hW2
  rw [hW2] at r0 r1 r2 r3 r4 r5
  clear HA HS hs hA hW2 c0 c1 c2 c3
  go_wp2_with (fail)
  rw [← HW.out]
  refine HA2.out.mono ?_
  rintro e w3 ⟨rfl, hx⟩
  go_wp2_with (fail)
  refine bodyPost_ret (v := .tuple #[]) (by simp [results, Try.results33, go_sem]) rfl ?_
  exact hx.out
theorem Hung.of {V : World} {e : Ending} (hb : Below w.heap.size w V) {T2 : Nat → Prop} {L : List Bn} {y : Thing} (h : Hung V base tb g n k T2 L id y e w') (hT : ∀ i, T2 i → T i ∨ w.heap.size ≤ i) : Hung w base tb g n k T L id y e w' := by
  obtain ⟨he, k', T', N', h1, h2, h3, h4, h5, h6, h7⟩ := h
  refine ⟨he, k', T', N', h1, h2, h3, h4, (Only.of_below hb (Nat.le_refl _) _).trans h5 fun i e => ?_, fun i e => ?_, (Kv.below hb).trans h7⟩
  · rcases e with e | e
    · exact .inl (.inl e)
    · exact (hT i e).imp (fun e => .inr e) fun e => e
  · rcases h6 i e with e | e
    · exact hT i e
    · exact .inr (by have := hb.size; omega)
set_option maxHeartbeats 3200000 in
theorem put_any (h : Bx w base tb g n k T N) (id : Int) (x : At) (hxs : Sl w w.heap.size x.a (iv x.x.vec)) (hbf : Bf x.x) (hwf : (Lit.int .u64 id).wf = true) (hlive : lv (N.map bn) id = none) (hN : N.length < 1048576) (hk : 0 ≤ k ∧ k + (N.length : Int) < 9223372036854775807) :
    Calls Try.prog 25 #[.pointer (some ⟨tb, 0, none⟩), .agg #[.int .u64 id, .int .i64 x.x.tag, .slice x.a x.x.vec.length x.c, .string x.x.str]] w (Hung w base tb g n k T (N.map bn) id x.x) := by
  obtain ⟨V, hV⟩ : ∃ V, V = w.alloc (.cells #[.int .u64 id, .int .i64 x.x.tag, .slice x.a x.x.vec.length x.c, .string x.x.str] 38) := ⟨_, rfl⟩
  have hbV : Below w.heap.size w V := by rw [hV]; exact (Below.refl _ _).alloc (Nat.le_refl _) _
  have hkx : Blk V w.heap.size 38 #[.int .u64 id, .int .i64 x.x.tag, .slice x.a x.x.vec.length x.c, .string x.x.str] := by rw [hV]; exact Blk.new w _ _
  have hzV : V.heap.size = w.heap.size + 1 := by rw [hV]; simp
  obtain ⟨c0, c1, c2, c3, cf⟩ := cells4' hkx
  have hbase := h.base_le
  have HC : Hid (Calls Try.prog 32 #[.agg #[.int .i64 x.x.tag, .slice x.a x.x.vec.length x.c, .string x.x.str]] V (ClonedO x.x V)) :=
    Lib.hid (cloneO_any x.a x.c w.heap.size x.x V (by have := hbf.2.1; omega) (by have := hbf.2.2; omega) (by omega) (hxs.below hbV))
  have HW2 : Hid (∀ w1 A2 c2, Below V.heap.size V w1 → w1.ownsRow V.heap.size 21 1 (.slice A2 x.x.vec.length c2) x.x.vec.length (iv x.x.vec) → (w1.cell? ⟨w.heap.size, 1, none⟩ = some (.int .i64 x.x.tag) ∧ w1.cell? ⟨w.heap.size, 2, none⟩ = some (.slice x.a x.x.vec.length x.c) ∧ w1.cell? ⟨w.heap.size, 3, none⟩ = some (.string x.x.str) ∧ w1.frozen? ⟨w.heap.size, 1, none⟩ = false ∧ w1.frozen? ⟨w.heap.size, 2, none⟩ = false ∧ w1.frozen? ⟨w.heap.size, 3, none⟩ = false) ∧
      ∀ w2, w2 = ((w1.setCell ⟨w.heap.size, 1, none⟩ (.int .i64 x.x.tag)).setCell ⟨w.heap.size, 2, none⟩ (.slice A2 x.x.vec.length c2)).setCell ⟨w.heap.size, 3, none⟩ (.string x.x.str) →
        Blk w2 w.heap.size 38 #[.int .u64 id, .int .i64 x.x.tag, .slice A2 x.x.vec.length c2, .string x.x.str] ∧ Calls Try.prog 33 #[.pointer (some ⟨tb, 0, none⟩), .agg #[.int .u64 id, .int .i64 x.x.tag, .slice A2 x.x.vec.length c2, .string x.x.str]] w2 fun e w' => e = .returned (.tuple #[]) ∧ Hid (Hung w base tb g n k T (N.map bn) id x.x (.returned (.tuple #[])) w')) := Lib.hid fun w1 A2 c2 hb1 ho1 => by
    have b1 := hkx.below hb1 hkx.lt
    obtain ⟨-, d1, d2, d3, df⟩ := cells4' b1
    refine ⟨⟨d1, d2, d3, df 1, df 2, df 3⟩, fun w2 hw2 => ?_⟩
    obtain ⟨e1, e2⟩ := blk_store3 (x' := .int .i64 x.x.tag) (y' := .slice A2 x.x.vec.length c2) (z' := .string x.x.str) b1
    rw [← hw2] at e1 e2
    have s1 := hb1.size
    have s2 := e2.size
    have hb2 : Below w.heap.size w w2 := (hbV.trans (hb1.mono (by omega))).trans (e2.below (by omega) fun i e => by omega)
    have ho2 := own_only ho1 e2 fun i e e3 => by have := (own_lt ho1 e).1; omega
    have hX : Bx w2 base tb g n k (fun i => T i ∨ w.heap.size ≤ i ∧ i < w2.heap.size) N := (h.below hb2).mono (fun i e => .inl e) fun i e => by
      rcases e with e | e
      · exact ⟨(h.low i e).1, by have := (h.low i e).2; omega⟩
      · exact ⟨by omega, e.2⟩
    have hv : Vc w2 (fun i => T i ∨ w.heap.size ≤ i ∧ i < w2.heap.size) A2 (iv x.x.vec) := Vc.own ho2 fun i e => .inr ⟨by have := (own_lt ho2 e).1; omega, (own_lt ho2 e).2⟩
    refine ⟨e1, (hang_any hX id ⟨A2, c2, x.x⟩ hv hbf hwf hlive hN hk).mono fun e w' hH => ⟨hH.1, Lib.hid ?_⟩⟩
    rw [hH.1] at hH
    exact hH.of hb2 fun i e => e.imp (fun e => e) fun e => e.1
  have HV := Lib.hid hV
  clear h hxs hbf hwf hlive hN hk hkx hbV hV hbase hzV
  go_enter Try.func25, Try.ntmps25
  go_wp2_with (fail)
  rw [← HV.out]
  refine HC.out.mono ?_
  rintro e w1 ⟨A2, k2, rfl, ho1, hb1⟩
  obtain ⟨⟨d1, d2, d3, df1, df2, df3⟩, hw2⟩ := HW2.out w1 A2 k2 hb1 ho1
  obtain ⟨w2, hW2⟩ : ∃ w2, w2 = ((w1.setCell ⟨w.heap.size, 1, none⟩ (.int .i64 x.x.tag)).setCell ⟨w.heap.size, 2, none⟩ (.slice A2 x.x.vec.length k2)).setCell ⟨w.heap.size, 3, none⟩ (.string x.x.str) := ⟨_, rfl⟩
  obtain ⟨e1, e2⟩ := hw2 w2 hW2
  have HW := Lib.hid hW2
  have HE := Lib.hid e2
  obtain ⟨q0, q1, q2, q3, -⟩ := cells4' e1
  rw [hW2] at q0 q1 q2 q3
  clear HC HW2 HV hw2 hb1 ho1 c0 c1 c2 c3 cf e1 e2 hW2
  go_wp2_with (fail)
  rw [← HW.out]
  refine HE.out.mono ?_
  rintro e w3 ⟨rfl, hx⟩
  go_wp2_with (fail)
  refine bodyPost_ret (v := .tuple #[]) (by simp [results, Try.results25, go_sem]) rfl ?_
  exact hx.out
end
end Go.Proofs.Ytaamlidflfdjkaa.bk
