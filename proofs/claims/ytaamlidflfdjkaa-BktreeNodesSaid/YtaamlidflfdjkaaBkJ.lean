/-
  The contract of Image: all nodes, their things in new memory.
-/
import Derived.Test.YtaamlidflfdjkaaBkI
import Derived.Deep.CutRange
import Derived.Deep.CutBlock
import Derived.Deep.DeepCutAuto
namespace Go.Proofs.Ytaamlidflfdjkaa.bk
open Go.RowKit Go.WideShapes law bytes only flat nums ord obj metric tab
open aro (Kept)
open store (iE iE_len itemAt rM)
open told (own_types blk_types)
open Go.Maps Go.ChangeAt
set_option linter.unusedVariables false
set_option maxRecDepth 100000

/-- a node of an image: its cells -/
def bkE (d : Nd) : List Value := [.int .u64 d.id, .int .i64 d.t.x.tag, .slice d.t.a d.t.x.vec.length d.t.c, .string d.t.x.str, .bool d.gone, .int .i64 d.par, .int .i64 d.edge]
theorem bkE_len (d : Nd) : (bkE d).length = 7 := rfl
theorem bkK : ElemK Try.prog 67 7 80 := elemK_mk (z := .agg #[.int .u64 0, .int .i64 0, .slice none 0 0, .string ⟨#[]⟩, .bool false, .int .i64 0, .int .i64 0]) (by kernel_rfl) rfl
theorem make_bks (n : Nat) (hn : n ≤ 1048577) (u : World) : ∃ Z : Array Value, Z.size = n * 7 ∧ (Instr.makeSlice 31 (.int .i64 0) (.int .i64 (n : Int))).run Try.prog u =
    .ok (.slice (some ⟨u.heap.size, 0, none⟩) 0 n) (u.alloc (.cells Z 67)) := by
  obtain ⟨i, z, hi, hz, hsz, hby, hzs⟩ := bkK
  have h := run_make (P := Try.prog) u 31 67 i z Try.underlying31 hi hz .i64 .i64 0 (n : Int) (by omega) (by omega) (by rw [hby]; omega) (by omega)
  simp only [Int.toNat_zero, Int.toNat_natCast] at h
  exact ⟨_, by rw [size_madeCells, hsz], h⟩
/-- an image of nodes alone -/
def imC (v : Value) : Array Value := #[v, .slice none 0 0, .slice none 0 0, .int .i64 0, .slice none 0 0, .slice none 0 0]
/-- what Image leaves -/
def Imaged (w : World) (L : List Bn) (e : Ending) (w' : World) : Prop :=
  ∃ (A : Option Addr) (c : Nat) (M : List Nd), e = .returned (.agg (imC (.slice A M.length c))) ∧ Below w.heap.size w w' ∧ w'.ownsRow w.heap.size 67 7 (.slice A M.length c) M.length (M.flatMap bkE) ∧ M.map bn = L ∧ ∀ m ∈ M, Vc w' (fun q => w.heap.size ≤ q) m.t.a (iv m.t.x.vec)
/-- while Image goes on -/
def ImS (w : World) (N : List Nd) (i : Nat) (M : List Nd) (A : Option Addr) (c : Nat) (wr : World) : Prop :=
  Below w.heap.size w wr ∧ Blk wr w.heap.size 58 (imC (.slice none 0 0)) ∧ Blk wr (w.heap.size + 2) 58 (imC (.slice A i c)) ∧ wr.ownsRow w.heap.size 67 7 (.slice A i c) i (M.flatMap bkE) ∧ M.map bn = (N.take i).map bn ∧ ∀ m ∈ M, Vc wr (fun q => w.heap.size ≤ q) m.t.a (iv m.t.x.vec)
section
variable {w w' w1 W W' : World} {base tb g hb pb mh mp B i : Nat} {n k : Int} {T S : Nat → Prop} {vN v4 : Value} {N : List Nd} {DH DP D1 : DataW Unit} {d : Nd} {t t' : TypeId} {A : Option Addr} {xs : List Value} {id : Int} {x : At} {gone : Bool} {par edge : Int}
theorem blk_cells8 {W : World} {b : Nat} {t : TypeId} {y0 y1 y2 y3 y4 y5 y6 y7 : Value} (h : Blk W b t #[y0, y1, y2, y3, y4, y5, y6, y7]) : W.cell? ⟨b, 0, none⟩ = some y0 ∧ W.cell? ⟨b, 1, none⟩ = some y1 ∧ W.cell? ⟨b, 2, none⟩ = some y2 ∧ W.cell? ⟨b, 3, none⟩ = some y3 ∧ W.cell? ⟨b, 4, none⟩ = some y4 ∧ W.cell? ⟨b, 5, none⟩ = some y5 ∧ W.cell? ⟨b, 6, none⟩ = some y6 ∧ W.frozen? ⟨b, 1, none⟩ = false ∧ W.frozen? ⟨b, 2, none⟩ = false ∧ W.frozen? ⟨b, 3, none⟩ = false :=
  ⟨h.cell 0, h.cell 1, h.cell 2, h.cell 3, h.cell 4, h.cell 5, h.cell 6, h.frozen 1, h.frozen 2, h.frozen 3⟩
theorem blk_store8 {W : World} {b : Nat} {t : TypeId} {y0 y1 y2 y3 y4 y5 y6 y7 z1 z2 z3 : Value} (h : Blk W b t #[y0, y1, y2, y3, y4, y5, y6, y7]) : Blk (((W.setCell ⟨b, 1, none⟩ z1).setCell ⟨b, 2, none⟩ z2).setCell ⟨b, 3, none⟩ z3) b t #[y0, z1, z2, z3, y4, y5, y6, y7] ∧ Only (· = b) W (((W.setCell ⟨b, 1, none⟩ z1).setCell ⟨b, 2, none⟩ z2).setCell ⟨b, 3, none⟩ z3) :=
  ⟨((h.set_ 1 z1).set_ 2 z2).set_ 3 z3, Only.setCell (S := (· = b)) (p := ⟨b, 3, none⟩) (Only.setCell (S := (· = b)) (p := ⟨b, 2, none⟩) (Only.setCell (S := (· = b)) (p := ⟨b, 1, none⟩) (Only.refl _ _) (.inl rfl) _) (.inl rfl) _) (.inl rfl) _⟩
set_option maxHeartbeats 3200000 in
/-- one node more in the image -/
theorem ImS.round {M : List Nd} {A : Option Addr} {c : Nat} {wr : World} {y : Nd} {Av : Option Addr} {lk cv : Nat} (h : ImS w N i M A c wr) (hy : N[i]? = some y) (hN : N.length ≤ 1048577) (hbf : Bf y.t.x) (hvec : Sl wr wr.heap.size y.t.a (iv y.t.x.vec)) :
    ∀ Y, Y = wr.alloc (.cells #[.int .u64 y.id, .int .i64 y.t.x.tag, .slice y.t.a y.t.x.vec.length y.t.c, .string y.t.x.str, .bool y.gone, .int .i64 y.par, .int .i64 y.edge, .slice Av lk cv] 82) →
      Calls Try.prog 32 #[.agg #[.int .i64 y.t.x.tag, .slice y.t.a y.t.x.vec.length y.t.c, .string y.t.x.str]] Y fun e w1 => ∃ A2 c2, e = .returned (.agg #[.int .i64 y.t.x.tag, .slice A2 y.t.x.vec.length c2, .string y.t.x.str]) ∧
        (w1.cell? ⟨wr.heap.size, 1, none⟩ = some (.int .i64 y.t.x.tag) ∧ w1.cell? ⟨wr.heap.size, 2, none⟩ = some (.slice y.t.a y.t.x.vec.length y.t.c) ∧ w1.cell? ⟨wr.heap.size, 3, none⟩ = some (.string y.t.x.str) ∧ w1.frozen? ⟨wr.heap.size, 1, none⟩ = false ∧ w1.frozen? ⟨wr.heap.size, 2, none⟩ = false ∧ w1.frozen? ⟨wr.heap.size, 3, none⟩ = false) ∧
        Hid (∀ w2, w2 = ((w1.setCell ⟨wr.heap.size, 1, none⟩ (.int .i64 y.t.x.tag)).setCell ⟨wr.heap.size, 2, none⟩ (.slice A2 y.t.x.vec.length c2)).setCell ⟨wr.heap.size, 3, none⟩ (.string y.t.x.str) →
          (w2.cell? ⟨w.heap.size + 2, 0, none⟩ = some (.slice A i c) ∧ w2.cell? ⟨wr.heap.size, 0, none⟩ = some (.int .u64 y.id) ∧ w2.cell? ⟨wr.heap.size, 1, none⟩ = some (.int .i64 y.t.x.tag) ∧ w2.cell? ⟨wr.heap.size, 2, none⟩ = some (.slice A2 y.t.x.vec.length c2) ∧ w2.cell? ⟨wr.heap.size, 3, none⟩ = some (.string y.t.x.str) ∧ w2.cell? ⟨wr.heap.size, 4, none⟩ = some (.bool y.gone) ∧ w2.cell? ⟨wr.heap.size, 5, none⟩ = some (.int .i64 y.par) ∧ w2.cell? ⟨wr.heap.size, 6, none⟩ = some (.int .i64 y.edge)) ∧
          w2.ownsRow w.heap.size 67 7 (.slice A i c) i (M.flatMap bkE) ∧ w.heap.size + 2 < w2.heap.size ∧
          ∀ w4 A4 c4, (w2.alloc (.cells #[.int .u64 y.id, .int .i64 y.t.x.tag, .slice A2 y.t.x.vec.length c2, .string y.t.x.str, .bool y.gone, .int .i64 y.par, .int .i64 y.edge] 67)).grownBy w4 (Value.slice A i c).ownBlock → w4.ownsRow w.heap.size 67 7 (.slice A4 (i + 1) c4) (i + 1) (M.flatMap bkE ++ [.int .u64 y.id, .int .i64 y.t.x.tag, .slice A2 y.t.x.vec.length c2, .string y.t.x.str, .bool y.gone, .int .i64 y.par, .int .i64 y.edge]) →
            w4.cell? ⟨w.heap.size + 2, 0, none⟩ = some (.slice A i c) ∧ w4.frozen? ⟨w.heap.size + 2, 0, none⟩ = false ∧ ∃ M', ImS w N (i + 1) M' A4 c4 (w4.setCell ⟨w.heap.size + 2, 0, none⟩ (.slice A4 (i + 1) c4))) := by
  intro Y hY
  obtain ⟨hb, q0, q2, hrow, hM, hvM⟩ := h
  have hz := hb.size
  have hbY : Below wr.heap.size wr Y := by rw [hY]; exact (Below.refl _ _).alloc (Nat.le_refl _) _
  have hky : Blk Y wr.heap.size 82 #[.int .u64 y.id, .int .i64 y.t.x.tag, .slice y.t.a y.t.x.vec.length y.t.c, .string y.t.x.str, .bool y.gone, .int .i64 y.par, .int .i64 y.edge, .slice Av lk cv] := by rw [hY]; exact Blk.new wr _ _
  have hzY : Y.heap.size = wr.heap.size + 1 := by rw [hY]; simp
  refine (cloneO_any y.t.a y.t.c wr.heap.size y.t.x Y (by have := hbf.2.1; omega) (by have := hbf.2.2; omega) (by omega) (hvec.below hbY)).mono fun e w1 ⟨A2, c2, he, ho1, hb1⟩ => ⟨A2, c2, he, ?_⟩
  have b1 := hky.below hb1 hky.lt
  obtain ⟨-, d1, d2, d3, -, -, -, f1, f2, f3⟩ := blk_cells8 b1
  refine ⟨⟨d1, d2, d3, f1, f2, f3⟩, Lib.hid fun w2 hw2 => ?_⟩
  obtain ⟨e1, e2⟩ := blk_store8 (z1 := .int .i64 y.t.x.tag) (z2 := .slice A2 y.t.x.vec.length c2) (z3 := .string y.t.x.str) b1
  rw [← hw2] at e1 e2
  have s1 := hb1.size
  have s2 := e2.size
  have hq2 := q2.lt
  have hb01 : Below wr.heap.size wr w1 := hbY.trans (hb1.mono (by omega))
  have hb12 : Below wr.heap.size wr w2 := hb01.trans (e2.below (by omega) fun i e => by omega)
  have p0 := q0.below hb12 q0.lt
  have p2 := q2.below hb12 hq2
  have hr2 := own_below hrow hb12 (Nat.le_refl _)
  have ho2 := own_only ho1 e2 fun q e e3 => by have := (own_lt ho1 e).1; omega
  obtain ⟨g0, g1, g2, g3, g4, g5, g6, -⟩ := blk_cells8 e1
  refine ⟨⟨p2.cell 0, g0, g1, g2, g3, g4, g5, g6⟩, hr2, by omega, fun w4 A4 c4 hg hr4 => ?_⟩
  have hO : Only (fun q => (Value.slice A i c).ownBlock = some q) w2 w4 := ((Only.refl _ w2).alloc _).trans (Only.of_grown hg fun j e => .inl e) fun j e => .inl e
  have cl : Cl w2 (fun q => (Value.slice A i c).ownBlock = some q) 67 := Cl.row hr2
  have p0' := Blk.only p0 hO (cl.off (by decide) (Ty.blk p0))
  have p2' := Blk.only p2 hO (cl.off (by decide) (Ty.blk p2))
  obtain ⟨w5, hw5⟩ : ∃ w5, w5 = w4.setCell ⟨w.heap.size + 2, 0, none⟩ (.slice A4 (i + 1) c4) := ⟨_, rfl⟩
  have ho5 : Only (· = w.heap.size + 2) w4 w5 := by rw [hw5]; exact Only.setCell (S := (· = w.heap.size + 2)) (p := ⟨w.heap.size + 2, 0, none⟩) (Only.refl _ _) (.inl rfl) _
  have c5 : Cl w4 (· = w.heap.size + 2) 58 := Cl.blk p2'
  have hb24 : Below w.heap.size w2 w4 := hO.below (by omega) fun q e => (own_lt hr2 e).1
  have hb45 : Below w.heap.size w4 w5 := ho5.below (by have := hO.size; omega) fun q e => by omega
  refine ⟨p2'.cell 0, p2'.frozen 0, M ++ [{ y with t := ⟨A2, c2, y.t.x⟩ }], ?_⟩
  rw [← hw5]
  have hil := (List.getElem?_eq_some_iff.1 hy).1
  refine ⟨((hb.trans (hb12.mono (by omega))).trans hb24).trans hb45, Blk.only p0' ho5 (by omega), ?_, ?_, ?_, ?_⟩
  · rw [hw5]
    exact p2'.set_ 0 _
  · have e7 : (M ++ [{ y with t := ⟨A2, c2, y.t.x⟩ }]).flatMap bkE = M.flatMap bkE ++ [.int .u64 y.id, .int .i64 y.t.x.tag, .slice A2 y.t.x.vec.length c2, .string y.t.x.str, .bool y.gone, .int .i64 y.par, .int .i64 y.edge] := by
      rw [List.flatMap_append]
      rfl
    rw [e7]
    exact own_only hr4 ho5 fun q e => c5.off (by decide) (Ty.own hr4 e)
  · have e8 : N.take (i + 1) = N.take i ++ [y] := by
      rw [List.take_add_one, hy]
      rfl
    rw [e8, List.map_append, List.map_append, hM]
    rfl
  · intro m hm
    have key : Vc w2 (fun q => w.heap.size ≤ q) m.t.a (iv m.t.x.vec) := by
      rcases List.mem_append.1 hm with hm | hm
      · exact (hvM m hm).only (S := fun _ => False) (Only.of_below hb12 (Nat.le_refl _) _) fun _ _ _ e => e
      · simp only [List.mem_singleton] at hm
        subst hm
        exact Vc.own ho2 fun q e => by have := (own_lt ho2 e).1; omega
    exact (key.only hO fun q _ e => cl.off (by decide) e).only ho5 fun q _ e => c5.off (by decide) e
theorem blk_store6 {W : World} {b : Nat} {t : TypeId} {y0 y1 y2 y3 y4 y5 z0 z1 z2 z3 z4 z5 : Value} (h : Blk W b t #[y0, y1, y2, y3, y4, y5]) : ∀ F, F = ((((((W.setCell ⟨b, 0, none⟩ z0).setCell ⟨b, 1, none⟩ z1).setCell ⟨b, 2, none⟩ z2).setCell ⟨b, 3, none⟩ z3).setCell ⟨b, 4, none⟩ z4).setCell ⟨b, 5, none⟩ z5) →
    (F.cell? ⟨b, 0, none⟩ = some z0 ∧ F.cell? ⟨b, 1, none⟩ = some z1 ∧ F.cell? ⟨b, 2, none⟩ = some z2 ∧ F.cell? ⟨b, 3, none⟩ = some z3 ∧ F.cell? ⟨b, 4, none⟩ = some z4 ∧ F.cell? ⟨b, 5, none⟩ = some z5) ∧ Only (· = b) W F := fun F hF => by
  have h0 : Blk (W.setCell ⟨b, 0, none⟩ z0) b t #[z0, y1, y2, y3, y4, y5] := h.set_ 0 z0
  have h1 : Blk ((W.setCell ⟨b, 0, none⟩ z0).setCell ⟨b, 1, none⟩ z1) b t #[z0, z1, y2, y3, y4, y5] := h0.set_ 1 z1
  have h2 : Blk (((W.setCell ⟨b, 0, none⟩ z0).setCell ⟨b, 1, none⟩ z1).setCell ⟨b, 2, none⟩ z2) b t #[z0, z1, z2, y3, y4, y5] := h1.set_ 2 z2
  have h3 : Blk ((((W.setCell ⟨b, 0, none⟩ z0).setCell ⟨b, 1, none⟩ z1).setCell ⟨b, 2, none⟩ z2).setCell ⟨b, 3, none⟩ z3) b t #[z0, z1, z2, z3, y4, y5] := h2.set_ 3 z3
  have h4 : Blk (((((W.setCell ⟨b, 0, none⟩ z0).setCell ⟨b, 1, none⟩ z1).setCell ⟨b, 2, none⟩ z2).setCell ⟨b, 3, none⟩ z3).setCell ⟨b, 4, none⟩ z4) b t #[z0, z1, z2, z3, z4, y5] := h3.set_ 4 z4
  have h5 : Blk ((((((W.setCell ⟨b, 0, none⟩ z0).setCell ⟨b, 1, none⟩ z1).setCell ⟨b, 2, none⟩ z2).setCell ⟨b, 3, none⟩ z3).setCell ⟨b, 4, none⟩ z4).setCell ⟨b, 5, none⟩ z5) b t #[z0, z1, z2, z3, z4, z5] := h4.set_ 5 z5
  have q : Blk F b t #[z0, z1, z2, z3, z4, z5] := by rw [hF]; exact h5
  refine ⟨⟨q.cell 0, q.cell 1, q.cell 2, q.cell 3, q.cell 4, q.cell 5⟩, ?_⟩
  rw [hF]
  exact Only.setCell (S := (· = b)) (p := ⟨b, 5, none⟩) (Only.setCell (S := (· = b)) (p := ⟨b, 4, none⟩) (Only.setCell (S := (· = b)) (p := ⟨b, 3, none⟩) (Only.setCell (S := (· = b)) (p := ⟨b, 2, none⟩) (Only.setCell (S := (· = b)) (p := ⟨b, 1, none⟩) (Only.setCell (S := (· = b)) (p := ⟨b, 0, none⟩) (Only.refl _ _) (.inl rfl) _) (.inl rfl) _) (.inl rfl) _) (.inl rfl) _) (.inl rfl) _) (.inl rfl) _
set_option maxHeartbeats 3200000 in
theorem image_any (h : Bx w base tb g n k T N) (hN : N.length ≤ 1048577) :
    Calls Try.prog 17 #[.pointer (some ⟨tb, 0, none⟩)] w (Imaged w (N.map bn)) := by
  have htl := (h.low _ h.tt).2
  obtain ⟨AN, cN, hcN, hnd⟩ := h.nodes
  have HKV := Lib.hid h.kidsV
  have hbf : ∀ y ∈ N, Bf y.t.x := fun y hy => h.bf (bn y) (List.mem_map_of_mem hy)
  have hvc : ∀ W, Below w.heap.size w W → ∀ y ∈ N, Sl W W.heap.size y.t.a (iv y.t.x.vec) := fun W hW y hy => by
    obtain ⟨hb, pb, mh, mp, vN, DH, DP, hm, hl, -, -⟩ := h
    exact (((hm.below hW).nx y hy).vec).sl
  obtain ⟨c1, -⟩ := hnd w (Below.refl _ _)
  obtain ⟨V, hV⟩ : ∃ V, V = w.alloc (.cells #[.slice none 0 0, .slice none 0 0, .slice none 0 0, .int .i64 0, .slice none 0 0, .slice none 0 0] 58) := ⟨_, rfl⟩
  have hbV : Below w.heap.size w V := by rw [hV]; exact (Below.refl _ _).alloc (Nat.le_refl _) _
  have hzV : V.heap.size = w.heap.size + 1 := by rw [hV]; simp
  obtain ⟨Z, hZ, hmk⟩ := make_bks N.length hN V
  obtain ⟨U, hU⟩ : ∃ U, U = (V.alloc (.cells Z 67)) := ⟨_, rfl⟩
  have hbU : Below V.heap.size V U := by rw [hU]; exact (Below.refl _ _).alloc (Nat.le_refl _) _
  have hzU : U.heap.size = w.heap.size + 2 := by rw [hU]; simp [hzV]
  have hoU : U.ownsRow (w.heap.size + 1) 67 7 (.slice (some ⟨w.heap.size + 1, 0, none⟩) 0 N.length) 0 [] := by
    rw [hU, ← hzV]; exact World.ownsRow_made V Z _ (by omega) (by unfold maxLen; omega) hZ
  obtain ⟨X, hX⟩ : ∃ X, X = U.alloc (.cells #[.slice (some ⟨w.heap.size + 1, 0, none⟩) 0 N.length, .slice none 0 0, .slice none 0 0, .int .i64 0, .slice none 0 0, .slice none 0 0] 58) := ⟨_, rfl⟩
  have hbX : Below U.heap.size U X := by rw [hX]; exact (Below.refl _ _).alloc (Nat.le_refl _) _
  have hbw : Below w.heap.size w X := hbV.trans ((hbU.mono (by omega)).trans (hbX.mono (by omega)))
  have HST : Hid (ImS w N 0 [] (some ⟨w.heap.size + 1, 0, none⟩) N.length X) := Lib.hid (by
    have q0 : Blk V w.heap.size 58 (imC (.slice none 0 0)) := by rw [hV]; exact Blk.new w _ _
    have q2 : Blk X (w.heap.size + 2) 58 (imC (.slice (some ⟨w.heap.size + 1, 0, none⟩) 0 N.length)) := by
      have := Blk.new U 58 (imC (.slice (some ⟨w.heap.size + 1, 0, none⟩) 0 N.length))
      rw [hzU] at this
      rw [hX]
      exact this
    refine ⟨hbw, (q0.below hbU q0.lt).below hbX (by omega), q2, ?_, rfl, fun m hm => by simp at hm⟩
    have h1 := own_below hoU hbX (Nat.le_refl _)
    refine ⟨h1.1, ?_⟩
    rcases h1.2 with e | ⟨g', cap, cur, e1, e2, e3⟩
    · exact .inl e
    · exact .inr ⟨g', cap, cur, e1, by omega, e3⟩)
  have c1V : V.cell? ⟨tb, 1, none⟩ = some (.slice AN N.length cN) := (hnd V hbV).1
  have c1X : X.cell? ⟨tb, 1, none⟩ = some (.slice AN N.length cN) := (hnd X hbw).1
  have HND := Lib.hid hnd
  have HX0 := Lib.hid (And.intro hN (And.intro hbf hvc))
  have HV := Lib.hid hV
  have HU := Lib.hid hU
  have HXX := Lib.hid hX
  have HZ := Lib.hid hzV
  have HZU := Lib.hid hzU
  have c1U : U.cell? ⟨tb, 1, none⟩ = some (.slice AN N.length cN) := (hnd U (hbV.trans (hbU.mono (by omega)))).1
  clear h hnd hbf hvc hbV hbU hoU hbX hbw hZ
  rw [hzV] at hmk
  have hl63 : (N.length : Int) < 9223372036854775807 := by omega
  rw [hX] at c1X
  rw [← hU] at hmk
  clear hzV hV hU hX
  go_enter Try.func17, Try.ntmps17
  have c1V' := c1V
  rw [HV.out] at c1V'
  rw [HV.out] at hmk
  have hN2 := HX0.out.1
  go_wp2_with (fail)
  rw [← HXX.out]
  clear c1X c1U c1V c1V' c1 hmk hzU
  go_loopg [21] N.length (fun gk s21 wr => ∃ (i : Nat) (M : List Nd) (A : Option Addr) (c : Nat), gk = N.length - i ∧ i ≤ N.length ∧ s21 = .int .i64 i ∧ ImS w N i M A c wr)
  case atStart => exact ⟨0, _, _, _, rfl, Nat.zero_le _, rfl, HST.out⟩
  case round =>
    clear HST HXX HU HV HZ HZU
    obtain ⟨i, M, A, c, rfl, hi, rfl, hst⟩ := hrel
    by_cases hlt : i < N.length
    · obtain ⟨hN, hbf, hvc⟩ := HX0.out
      have i1 : (i : Int) < (N.length : Int) := by omega
      obtain ⟨rb, rfl, hrl, hcell⟩ := (HND.out wr hst.1).2 i hlt
      obtain ⟨x0, x1, x2, x3, x4, x5, x6, x7⟩ : wr.cell? ⟨rb, i * 8, none⟩ = some (.int .u64 N[i].id) ∧ wr.cell? ⟨rb, i * 8 + 1, none⟩ = some (.int .i64 N[i].t.x.tag) ∧ wr.cell? ⟨rb, i * 8 + 2, none⟩ = some (.slice N[i].t.a N[i].t.x.vec.length N[i].t.c) ∧ wr.cell? ⟨rb, i * 8 + 3, none⟩ = some (.string N[i].t.x.str) ∧ wr.cell? ⟨rb, i * 8 + 4, none⟩ = some (.bool N[i].gone) ∧ wr.cell? ⟨rb, i * 8 + 5, none⟩ = some (.int .i64 N[i].par) ∧ wr.cell? ⟨rb, i * 8 + 6, none⟩ = some (.int .i64 N[i].edge) ∧ wr.cell? ⟨rb, i * 8 + 7, none⟩ = some N[i].v :=
        ⟨hcell 0 (by omega), hcell 1 (by omega), hcell 2 (by omega), hcell 3 (by omega), hcell 4 (by omega), hcell 5 (by omega), hcell 6 (by omega), hcell 7 (by omega)⟩
      obtain ⟨Av, cv, hv⟩ := HKV.out N[i] (List.getElem_mem hlt)
      rw [hv] at x7
      have hy := List.getElem?_eq_getElem hlt
      have hb1 := hbf _ (List.getElem_mem hlt)
      have hv1 := hvc wr hst.1 _ (List.getElem_mem hlt)
      have hbw := hst.1.size
      generalize N[i] = y at x0 x1 x2 x3 x4 x5 x6 x7 hy hb1 hv1
      generalize y.ks.length = lk at x7
      obtain ⟨Y, hY⟩ : ∃ Y, Y = wr.alloc (.cells #[.int .u64 y.id, .int .i64 y.t.x.tag, .slice y.t.a y.t.x.vec.length y.t.c, .string y.t.x.str, .bool y.gone, .int .i64 y.par, .int .i64 y.edge, .slice Av lk cv] 82) := ⟨_, rfl⟩
      have HR := Lib.hid (hst.round (Av := Av) (lk := lk) (cv := cv) hy hN hb1 hv1 Y hY)
      have HN1 := Lib.hid hN
      clear hst hy hb1 hv1 hbf hvc hcell hv hN
      have HY := Lib.hid hY
      obtain ⟨z0, z1, z2, z3, z4, z5, z6, -⟩ := blk_cells8 (Blk.new wr 82 #[.int .u64 y.id, .int .i64 y.t.x.tag, .slice y.t.a y.t.x.vec.length y.t.c, .string y.t.x.str, .bool y.gone, .int .i64 y.par, .int .i64 y.edge, .slice Av lk cv])
      clear hY
      go_wp2_with (fail)
      rw [← HY.out]
      refine HR.out.mono ?_
      rintro e w1 ⟨A2, c2, rfl, ⟨d1, d2, d3, f1, f2, f3⟩, hx⟩
      obtain ⟨w2, hw2⟩ : ∃ w2, w2 = ((w1.setCell ⟨wr.heap.size, 1, none⟩ (.int .i64 y.t.x.tag)).setCell ⟨wr.heap.size, 2, none⟩ (.slice A2 y.t.x.vec.length c2)).setCell ⟨wr.heap.size, 3, none⟩ (.string y.t.x.str) := ⟨_, rfl⟩
      obtain ⟨⟨g0, g1, g2, g3, g4, g5, g6, g7⟩, hrow, hz2, hend⟩ := hx.out w2 hw2
      have HW := Lib.hid hw2
      have HROW := Lib.hid hrow
      have HEND := Lib.hid hend
      clear hx hrow hend hw2 HR HY z0 z1 z2 z3 z4 z5 z6 x0 x1 x2 x3 x4 x5 x6 x7
      have hsl := Sl.lit w2 [.int .u64 y.id, .int .i64 y.t.x.tag, .slice A2 y.t.x.vec.length c2, .string y.t.x.str, .bool y.gone, .int .i64 y.par, .int .i64 y.edge] 67
      have HSL := Lib.hid hsl
      clear hsl
      have hw := HN1.out
      have hbz : w.heap.size ≤ w2.heap.size := by omega
      go_upto_region 8 with (fail)
      rw [← HW.out]
      clear d1 d2 d3 f1 f2 f3
      go_wp2_with (at_builtin
                   refine wpList_append_slk _ rfl (.tmp 34) (.tmp 37) _ rfl w.heap.size 67 7 80 Try.underlying31 bkK (by omega) (.slice A i c) i (M.flatMap bkE) rfl (World.ownsRow.alloc (w := w2) HROW.out _) _ _ 1 1 [.int .u64 y.id, .int .i64 y.t.x.tag, .slice A2 y.t.x.vec.length c2, .string y.t.x.str, .bool y.gone, .int .i64 y.par, .int .i64 y.edge] rfl HSL.out rfl (by simp [Value.oneCell']) (by omega) (by unfold maxLen; omega) (by simp; omega) ?_
                   intro v4 w4 hown4 hg4 hat4
                   obtain ⟨A4, c4, rfl, -⟩ := own_slice hown4
                   obtain ⟨y1, y2, M', hM'⟩ := HEND.out w4 A4 c4 hg4 hown4
                   have HE := Lib.hid hM'
                   clear hown4 hg4 hat4 hM' HEND HROW)
      go_roundg (N.length - (i + 1))
      case measure => omega
      case rel => exact ⟨i + 1, M', A4, c4, rfl, by omega, by go_num, HE.out⟩
    · obtain rfl : i = N.length := by omega
      have i1 : ¬ (N.length : Int) < (N.length : Int) := by omega
      obtain ⟨hb, q0, q2, hrow, hM, hvM⟩ := hst
      have hMl : M.length = N.length := by
        have := congrArg List.length hM
        rw [List.length_map, List.length_map, List.take_of_length_le (Nat.le_refl _)] at this
        exact this
      obtain ⟨e0, e1, e2, e3, e4, e5⟩ : wr.cell? ⟨w.heap.size + 2, 0, none⟩ = some (.slice A N.length c) ∧ wr.cell? ⟨w.heap.size + 2, 1, none⟩ = some (.slice none 0 0) ∧ wr.cell? ⟨w.heap.size + 2, 2, none⟩ = some (.slice none 0 0) ∧ wr.cell? ⟨w.heap.size + 2, 3, none⟩ = some (.int .i64 0) ∧ wr.cell? ⟨w.heap.size + 2, 4, none⟩ = some (.slice none 0 0) ∧ wr.cell? ⟨w.heap.size + 2, 5, none⟩ = some (.slice none 0 0) :=
        ⟨q2.cell 0, q2.cell 1, q2.cell 2, q2.cell 3, q2.cell 4, q2.cell 5⟩
      obtain ⟨r0, r1, r2, r3, r4, r5⟩ : wr.cell? ⟨w.heap.size, 0, none⟩ = some (.slice none 0 0) ∧ wr.cell? ⟨w.heap.size, 1, none⟩ = some (.slice none 0 0) ∧ wr.cell? ⟨w.heap.size, 2, none⟩ = some (.slice none 0 0) ∧ wr.cell? ⟨w.heap.size, 3, none⟩ = some (.int .i64 0) ∧ wr.cell? ⟨w.heap.size, 4, none⟩ = some (.slice none 0 0) ∧ wr.cell? ⟨w.heap.size, 5, none⟩ = some (.slice none 0 0) :=
        ⟨q0.cell 0, q0.cell 1, q0.cell 2, q0.cell 3, q0.cell 4, q0.cell 5⟩
      have rf := q0.frozen
      obtain ⟨rf0, rf1, rf2, rf3, rf4, rf5⟩ : wr.frozen? ⟨w.heap.size, 0, none⟩ = false ∧ wr.frozen? ⟨w.heap.size, 1, none⟩ = false ∧ wr.frozen? ⟨w.heap.size, 2, none⟩ = false ∧ wr.frozen? ⟨w.heap.size, 3, none⟩ = false ∧ wr.frozen? ⟨w.heap.size, 4, none⟩ = false ∧ wr.frozen? ⟨w.heap.size, 5, none⟩ = false := ⟨rf 0, rf 1, rf 2, rf 3, rf 4, rf 5⟩
      have HE := Lib.hid (And.intro hb (And.intro q0 (And.intro hrow (And.intro hM (And.intro hvM hMl)))))
      clear hb q0 q2 hrow hM hvM hMl rf
      go_wp2_with (fail)
      obtain ⟨F, hF⟩ : ∃ F, F = ((((((wr.setCell ⟨w.heap.size, 0, none⟩ (.slice A N.length c)).setCell ⟨w.heap.size, 1, none⟩ (.slice none 0 0)).setCell ⟨w.heap.size, 2, none⟩ (.slice none 0 0)).setCell ⟨w.heap.size, 3, none⟩ (.int .i64 0)).setCell ⟨w.heap.size, 4, none⟩ (.slice none 0 0)).setCell ⟨w.heap.size, 5, none⟩ (.slice none 0 0)) := ⟨_, rfl⟩
      obtain ⟨hb, q0, hrow, hM, hvM, hMl⟩ := HE.out
      obtain ⟨⟨z0, z1, z2, z3, z4, z5⟩, ho⟩ := blk_store6 q0 F hF
      rw [← hF]
      have HI : Imaged w (N.map bn) (.returned (.agg #[.slice A N.length c, .slice none 0 0, .slice none 0 0, .int .i64 0, .slice none 0 0, .slice none 0 0])) F := by
        have cl : Cl wr (· = w.heap.size) 58 := Cl.blk q0
        refine ⟨A, c, M, by rw [hMl]; rfl, hb.trans (ho.below hb.size fun q e => by omega), ?_, by rw [hM, List.take_length], fun m hm => (hvM m hm).only ho fun q _ e => cl.off (by decide) e⟩
        rw [hMl]
        exact own_only hrow ho fun q e => cl.off (by decide) (Ty.own hrow e)
      exact bodyPost_ret (v := .agg #[.slice A N.length c, .slice none 0 0, .slice none 0 0, .int .i64 0, .slice none 0 0, .slice none 0 0]) (by simp [results, Try.results17, go_sem, z0, z1, z2, z3, z4, z5]) rfl HI
end
end Go.Proofs.Ytaamlidflfdjkaa.bk
