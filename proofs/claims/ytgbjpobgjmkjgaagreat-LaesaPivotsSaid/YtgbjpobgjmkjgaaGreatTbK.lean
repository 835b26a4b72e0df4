/-
  The contracts of Delete and Insert.
-/
import Derived.Test.YtgbjpobgjmkjgaaGreatTbJ
import Derived.Test.YtgbjpobgjmkjgaaGreatTbS
namespace Go.Proofs.YtgbjpobgjmkjgaaGreat.tab
open Go.RowKit Go.WideShapes law bytes only flat nums ord obj metric pv lae Go.Maps
open told (own_types blk_types)
set_option linter.unusedVariables false
set_option maxRecDepth 100000

section
variable {w w' : World} {base tb g mb : Nat} {n k most : Int} {T S : Nat → Prop} {vP vR : Value} {P : List At} {R : List Ro} {r : Ro}
/-- what Delete leaves -/
def Deleted (w : World) (base tb g mb : Nat) (n k most : Int) (T : Nat → Prop) (vP : Value) (P : List At) (R : List Ro) (id : Int) (e : Ending) (w' : World) : Prop :=
  e = .returned (.int .i64 (if (ids R).contains id then 0 else 5)) ∧ ∃ vR' R', Tx w' base tb g mb n k most T vP vR' P R' ∧ Only T w w' ∧ ((ids R).contains id = false → R' = R) ∧ ((ids R).contains id = true → ∃ j, (ids R)[j]? = some id ∧ R' = cutAt R j)
set_option maxHeartbeats 3200000 in
theorem delete_any (h : Tx w base tb g mb n k most T vP vR P R) (id : Int) (hw : (Lit.int .u64 id).wf = true) (a : Option Addr) (hR : R.length ≤ 1048576) :
    Calls Tryz.prog 36 #[.pointer (some ⟨tb, 0, none⟩), .int .u64 id, .pointer a] w (Deleted w base tb g mb n k most T vP P R id) := by
  obtain ⟨D, h1, h2⟩ := h.map
  obtain ⟨-, -, -, -, c4, -⟩ := h.cells
  have hkey : keyOf Tryz.prog 32 (.int .u64 id) = some (.int .u64 id) := keyOf_int_mk Tryz.underlying32 hw
  have hh := h2.2.2.1 id
  cases hc : (ids R).contains id with
  | false =>
    have HE : Hid (Deleted w base tb g mb n k most T vP P R id (.returned (.int .i64 5)) w) := Lib.hid ⟨by rw [hc]; rfl, vR, R, h, Only.refl _ _, fun _ => rfl, fun e => by rw [hc] at e; cases e⟩
    rw [hc] at hh
    have HH := Lib.hid hh
    clear h h2 hh hc
    go_enter Tryz.func36, Tryz.ntmps36
    go_wp2_with (at_lookup
                 refine wpList_lookup_own_ok_int _ rfl _ _ 92 rfl 32 3 .i64 idx.mlaw Tryz.underlying92 Tryz.underlying3 (intZ _) mb R.length D rfl h1 _ _ rfl hkey ?_
                 intro c hat hwc
                 rw [show (Lit.int IntKind.u64 id) = ky id from rfl, HH.out])
    go_ret
    exact HE.out
  | true =>
    have hm : id ∈ ids R := by simpa using hc
    obtain ⟨j, hj⟩ := List.mem_iff_getElem?.1 hm
    have hjl : j < R.length := by have := (List.getElem?_eq_some_iff.1 hj).1; rwa [ids_length] at this
    have hatk := h2.2.2.2 j id hj (.lit (.int .i64 0))
    have HC : Hid (Calls Tryz.prog 73 #[.pointer (some ⟨tb, 0, none⟩), .int .i64 j] w fun e w' => e = .returned (.tuple #[]) ∧ Deleted w base tb g mb n k most T vP P R id (.returned (.int .i64 0)) w') := Lib.hid
      ((cut_any h j hjl hR).mono fun e w' ⟨he, vR', hT, hO⟩ => ⟨he, by rw [hc]; rfl, vR', _, hT, hO, fun e => by (rw [hc] at e; cases e), fun _ => ⟨j, hj, rfl⟩⟩)
    rw [hc] at hh
    have HH := Lib.hid (And.intro hh hatk)
    clear h h2 hh hc hm hj hjl hatk
    go_enter Tryz.func36, Tryz.ntmps36
    go_wp2_with (at_lookup
                 refine wpList_lookup_own_ok_int _ rfl _ _ 92 rfl 32 3 .i64 idx.mlaw Tryz.underlying92 Tryz.underlying3 (intZ _) mb R.length D rfl h1 _ _ rfl hkey ?_
                 intro c hat hwc
                 have hcj : c = (j : Int) := by
                   have h3 : (DataW.lit (.int .i64 (j : Int)) : DataW Unit) = .lit (.int .i64 c) := HH.out.2.symm.trans hat
                   injection h3 with h3
                   injection h3 with _ h3
                   exact h3.symm
                 subst hcj
                 rw [show (Lit.int IntKind.u64 id) = ky id from rfl, HH.out.1]
                 clear hat hwc)
    refine HC.out.mono ?_
    rintro e w1 ⟨rfl, hd⟩
    have HD := Lib.hid hd
    clear hd HC HH
    go_wp2_with (fail)
    go_ret
    exact HD.out
/-- what Insert leaves -/
def Inserted (w : World) (base tb g mb : Nat) (n k most : Int) (T : Nat → Prop) (P : List At) (R : List Ro) (id : Int) (x : Thing) (e : Ending) (w' : World) : Prop :=
  e = .returned (.int .i64 (if (ids R).contains id then 4 else 0)) ∧ ∃ (k' : Int) (vP' vR' : Value) (T' : Nat → Prop) (P' : List At) (R' : List Ro), Tx w' base tb g mb n k' most T' vP' vR' P' R' ∧ k ≤ k' ∧ k' ≤ k + (P.length + R.length : Nat) ∧
    ((ids R).contains id = true → P'.map At.x = P.map At.x ∧ R'.map ix = R.map ix) ∧ ((ids R).contains id = false → P'.map At.x = (if more n most P x then P.map At.x ++ [x] else P.map At.x) ∧ R'.map ix = R.map ix ++ [(id, x)]) ∧
    Only (fun i => i = g ∨ T i) w w' ∧ ∀ i, T' i → T i ∨ w.heap.size ≤ i
set_option maxHeartbeats 3200000 in
theorem insert_any {id : Int} {x : At} (h : Tx w base tb g mb n k most T vP vR P R) (hwf : (Lit.int .u64 id).wf = true) (hbf : Bf x.x) (hxs : Sl w w.heap.size x.a (iv x.x.vec)) (a : Option Addr)
    (hP : P.length ≤ 1048576) (hR : R.length ≤ 1048576) (hk : 0 ≤ k ∧ k ≤ 2305843009213693952) :
    Calls Tryz.prog 20 #[.pointer (some ⟨tb, 0, none⟩), .agg #[.int .u64 id, .int .i64 x.x.tag, .slice x.a x.x.vec.length x.c, .string x.x.str], .pointer a] w (Inserted w base tb g mb n k most T P R id x.x) := by
  obtain ⟨V, hV⟩ : ∃ V, V = w.alloc (.cells #[.int .u64 id, .int .i64 x.x.tag, .slice x.a x.x.vec.length x.c, .string x.x.str] 37) := ⟨_, rfl⟩
  have hbV : Below w.heap.size w V := by rw [hV]; exact (Below.refl _ _).alloc (Nat.le_refl _) _
  have hkx : Blk V w.heap.size 37 #[.int .u64 id, .int .i64 x.x.tag, .slice x.a x.x.vec.length x.c, .string x.x.str] := by rw [hV]; exact Blk.new w _ _
  have hzV : V.heap.size = w.heap.size + 1 := by rw [hV]; simp
  have HHS := Lib.hid (has_any (h.below hbV) id hwf)
  have HSS : Hid (∀ W, Below V.heap.size V W → W.cell? ⟨w.heap.size, 0, none⟩ = some (.int .u64 id) ∧ W.cell? ⟨w.heap.size, 1, none⟩ = some (.int .i64 x.x.tag) ∧ W.cell? ⟨w.heap.size, 2, none⟩ = some (.slice x.a x.x.vec.length x.c) ∧ W.cell? ⟨w.heap.size, 3, none⟩ = some (.string x.x.str)) := Lib.hid fun W hW => by
    have b := hkx.below hW hkx.lt
    exact ⟨b.cell 0, b.cell 1, b.cell 2, b.cell 3⟩
  obtain ⟨c0, c1, c2, c3⟩ := HSS.out V (Below.refl _ _)
  have HV := Lib.hid hV
  rw [hV] at c0 c1 c2 c3
  cases hc : (ids R).contains id with
  | true =>
    have HE : Hid (∀ w1, Below V.heap.size V w1 → Inserted w base tb g mb n k most T P R id x.x (.returned (.int .i64 4)) w1) := Lib.hid fun w1 hb1 => by
      have hb := hbV.trans (hb1.mono (by omega))
      exact ⟨by rw [hc]; rfl, k, vP, vR, T, P, R, h.below hb, Int.le_refl _, by omega, fun _ => ⟨rfl, rfl⟩, fun e => (by rw [hc] at e; cases e), Only.of_below hb (Nat.le_refl _) _, fun i e => .inl e⟩
    rw [hc] at HHS
    clear h hbV hkx hzV hV hc hbf hxs
    go_enter Tryz.func20, Tryz.ntmps20
    go_wp2_with (fail)
    rw [← HV.out]
    refine HHS.out.mono ?_
    rintro e w1 ⟨rfl, hb⟩
    have HE1 := Lib.hid (HE.out w1 hb)
    clear HHS hb HE c0 c1 c2 c3
    go_wp2_with (fail)
    go_ret
    exact HE1.out
  | false =>
    have HP : Hid (∀ w1, Below V.heap.size V w1 → Calls Tryz.prog 59 #[.pointer (some ⟨tb, 0, none⟩), .agg #[.int .u64 id, .int .i64 x.x.tag, .slice x.a x.x.vec.length x.c, .string x.x.str]] w1 fun e w' => e = .returned (.tuple #[]) ∧ Inserted w base tb g mb n k most T P R id x.x (.returned (.int .i64 0)) w') := Lib.hid fun w1 hb1 => by
      have hb := hbV.trans (hb1.mono (by omega))
      refine (put_any (h.below hb) hc hwf hbf ((hxs.below hb).more hb.size) hP hR hk).mono fun e w' ⟨he, vP', vR', T', P', R', g1, g2, g3, g4, g5⟩ => ⟨he, by rw [hc]; rfl, _, vP', vR', T', P', R', g1, ?_, ?_, fun e => (by rw [hc] at e; cases e), fun _ => ⟨g2, g3⟩, (Only.of_below hb (Nat.le_refl _) _).trans g4 fun i e => .inl e, fun i e => (g5 i e).imp (fun e => e) fun e => Nat.le_trans hb.size e⟩
      · omega
      · have key : ∀ z : Nat, z ≤ R.length → k + (P.length : Int) + (z : Int) ≤ k + ((P.length + R.length : Nat) : Int) := fun z hz => by omega
        refine key _ ?_
        split <;> omega
    rw [hc] at HHS
    clear h hbV hkx hzV hV hc hbf hxs
    go_enter Tryz.func20, Tryz.ntmps20
    go_wp2_with (fail)
    rw [← HV.out]
    refine HHS.out.mono ?_
    rintro e w1 ⟨rfl, hb⟩
    have HP1 := Lib.hid (HP.out w1 hb)
    obtain ⟨d0, d1, d2, d3⟩ := HSS.out w1 hb
    clear HHS hb HP c0 c1 c2 c3
    go_wp2_with (fail)
    refine HP1.out.mono ?_
    rintro e w2 ⟨rfl, hi⟩
    have HI := Lib.hid hi
    clear hi HP1 d0 d1 d2 d3
    go_wp2_with (fail)
    go_ret
    exact HI.out
end
end Go.Proofs.YtgbjpobgjmkjgaaGreat.tab
