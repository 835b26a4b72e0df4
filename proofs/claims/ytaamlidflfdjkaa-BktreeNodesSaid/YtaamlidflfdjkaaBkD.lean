/-
  The contracts of renew and Delete.
-/
import Derived.Test.YtaamlidflfdjkaaBkI
namespace Go.Proofs.Ytaamlidflfdjkaa.bk
open Go.RowKit Go.WideShapes law bytes only flat nums ord obj metric tab
open aro (Kept)
open store (iE iE_len itemAt rM)
open told (own_types blk_types)
open Go.Maps Go.ChangeAt
set_option linter.unusedVariables false
set_option maxRecDepth 100000

theorem own_base {w : World} {base base' : Nat} {e : TypeId} {k n : Nat} {v : Value} {xs : List Value} (h : w.ownsRow base e k v n xs) (hb : base' ≤ base) : w.ownsRow base' e k v n xs := by
  refine ⟨h.1, ?_⟩
  rcases h.2 with e | ⟨g', cap, cur, e1, e2, e3⟩
  · exact .inl e
  · exact .inr ⟨g', cap, cur, e1, Nat.le_trans hb e2, e3⟩
/-- things that are there, as their nodes stand -/
def lvs (L : List Bn) : List (Int × Thing) := (L.filter fun b => !b.gone).map fun b => (b.id, b.x)
theorem lvs_snoc (L : List Bn) (b : Bn) : lvs (L ++ [b]) = if b.gone then lvs L else lvs L ++ [(b.id, b.x)] := by
  unfold lvs
  rw [List.filter_append, List.map_append]
  cases hg : b.gone <;> simp [hg]
theorem lvs_len (L : List Bn) : (lvs L).length ≤ L.length := by
  unfold lvs
  rw [List.length_map]
  exact List.length_filter_le _ _
section
variable {w w' w1 W W' : World} {base tb g hb pb mh mp B i : Nat} {n k : Int} {T S : Nat → Prop} {vN v4 : Value} {N : List Nd} {DH DP D1 : DataW Unit} {d : Nd} {t t' : TypeId} {A : Option Addr} {xs : List Value} {id : Int} {x : At} {gone : Bool} {par edge : Int}
theorem step_bd {k k' : Int} {i : Nat} (h : k' ≤ k + (i * 1048576 : Nat)) : k' ≤ k + ((i + 1) * 1048576 : Nat) := by
  rw [Nat.succ_mul, Int.natCast_add]
  generalize ((i * 1048576 : Nat) : Int) = z at h ⊢
  have : (0 : Int) ≤ ((1048576 : Nat) : Int) := Int.natCast_nonneg _
  exact Int.le_trans h (by rw [← Int.add_assoc]; exact Int.le_add_of_nonneg_right this)
/-- of T's blocks those of numbers; tb; what is new -/
def Pq (w : World) (T : Nat → Prop) (tb q : Nat) : Prop := q = tb ∨ (T q ∧ Ty w q 21) ∨ w.heap.size ≤ q
/-- while renew goes on -/
def ReS (w : World) (base tb g : Nat) (n k : Int) (T : Nat → Prop) (N : List Nd) (i : Nat) (wr : World) : Prop :=
  ∃ (k' : Int) (T' : Nat → Prop) (N' : List Nd), Bx wr base tb g n k' T' N' ∧ N'.map bn = puts n [] (lvs ((N.take i).map bn)) ∧ k ≤ k' ∧ k' ≤ k + (i * 1048576 : Nat) ∧ Only (fun q => q = g ∨ Pq w T tb q) w wr ∧ (∀ q, T' q → Pq w T tb q) ∧ Kv w wr
/-- what renew leaves -/
def Renewed (w : World) (base tb g : Nat) (n k : Int) (T : Nat → Prop) (L : List Bn) (e : Ending) (w' : World) : Prop :=
  e = .returned (.tuple #[]) ∧ ∃ (k' : Int) (T' : Nat → Prop) (N' : List Nd), Bx w' base tb g n k' T' N' ∧ N'.map bn = puts n [] (lvs L) ∧ k ≤ k' ∧ k' ≤ k + (L.length * 1048576 : Nat) ∧ Only (fun q => q = g ∨ T q) w w' ∧ ∀ q, T' q → T q ∨ w.heap.size ≤ q
theorem Ul.fresh {L : List Bn} (h : Ul L) {i : Nat} {b : Bn} (hb : L[i]? = some b) (hg : b.gone = false) : ((lvs (L.take i)).map (·.1)).contains b.id = false := by
  cases hc : ((lvs (L.take i)).map (·.1)).contains b.id with
  | false => rfl
  | true =>
    have hm : b.id ∈ (lvs (L.take i)).map (·.1) := by simpa using hc
    unfold lvs at hm
    rw [List.map_map] at hm
    obtain ⟨c, hc1, hc2⟩ := List.mem_map.1 hm
    obtain ⟨hc3, hc4⟩ := List.mem_filter.1 hc1
    obtain ⟨j, hj⟩ := List.mem_iff_getElem?.1 hc3
    rw [List.getElem?_take] at hj
    split at hj
    · rename_i hlt
      have := h j i c b hj hb (by simpa using hc4) hg hc2
      omega
    · cases hj
set_option maxHeartbeats 1600000 in
/-- one node more is looked at: it is gone -/
theorem ReS.skip (h : ReS w base tb g n k T N i W) {y : Nd} (hy : N[i]? = some y) (hg : y.gone = true) (hb : Below W.heap.size W W') : ReS w base tb g n k T N (i + 1) W' := by
  obtain ⟨k', T', N', h1, h2, h3, h4, h5, h6, h7⟩ := h
  refine ⟨k', T', N', h1.below hb, ?_, h3, step_bd h4, h5.on hb, h6, h7.trans (Kv.below hb)⟩
  rw [List.take_add_one, hy, Option.toList_some, List.map_append, List.map_singleton, lvs_snoc, if_pos (show (bn y).gone = true from hg), h2]
set_option maxHeartbeats 1600000 in
/-- it is there, and is put in -/
theorem ReS.hang (h : ReS w base tb g n k T N i W) (hL : Ul (N.map bn)) {y : Nd} (hy : N[i]? = some y) (hg : y.gone = false) (hv : Vc w T y.t.a (iv y.t.x.vec)) (hbf : Bf y.t.x) (hwf : (Lit.int .u64 y.id).wf = true) (hlow : ∀ q, T q → base ≤ q ∧ q < w.heap.size) (hTt : T tb) (hN : N.length ≤ 1048576) (hk : 0 ≤ k ∧ k + (N.length * 1048576 : Nat) ≤ 4611686018427387904) (hb : Below W.heap.size W W') :
    Calls Try.prog 33 #[.pointer (some ⟨tb, 0, none⟩), .agg #[.int .u64 y.id, .int .i64 y.t.x.tag, .slice y.t.a y.t.x.vec.length y.t.c, .string y.t.x.str]] W' fun e w' => e = .returned (.tuple #[]) ∧ ReS w base tb g n k T N (i + 1) w' := by
  obtain ⟨k', T', N', h1, h2, h3, h4, h5, h6, h7⟩ := h
  have hil := (List.getElem?_eq_some_iff.1 hy).1
  have hs5 := h5.size
  have hsb := hb.size
  have hNl : N'.length ≤ i := by
    have e1 := congrArg List.length h2
    rw [puts_len, List.length_map, List.length_nil] at e1
    have e2 := lvs_len ((N.take i).map bn)
    rw [List.length_map, List.length_take] at e2
    omega
  have hX : Bx W' base tb g n k' (fun q => T' q ∨ (T q ∧ Ty w q 21)) N' := (h1.below hb).mono (fun q e => .inl e) fun q e => by
    rcases e with e | e
    · exact ⟨(h1.low q e).1, by have := (h1.low q e).2; omega⟩
    · exact ⟨(hlow q e.1).1, by have := (hlow q e.1).2; omega⟩
  have hvW : Vc W' (fun q => T' q ∨ (T q ∧ Ty w q 21)) y.t.a (iv y.t.x.vec) := fun j u hj => by
    obtain ⟨a, e, ht, hty, hc⟩ := hv j u hj
    obtain ⟨a2, e2, ht2, hty2, hc2⟩ := (h7.trans (Kv.below hb)).vc hv j u hj
    rw [e] at e2
    injection e2 with e2
    subst e2
    exact ⟨a, e, .inr ⟨ht, hty⟩, hty2, hc2⟩
  have hnew : live (N'.map bn) y.id = false := by
    rw [h2, live_puts]
    have h8 := hL.fresh (i := i) (b := bn y) (by rw [List.getElem?_map, hy]; rfl) hg
    have e9 : (N.map bn).take i = (N.take i).map bn := List.map_take.symm
    rw [e9] at h8
    show (live [] y.id || _) = false
    have : live [] y.id = false := rfl
    rw [this, Bool.false_or]
    exact h8
  have h1048 : (i + 1) * 1048576 = i * 1048576 + 1048576 := Nat.succ_mul _ _
  have hmul : (i + 1) * 1048576 ≤ N.length * 1048576 := Nat.mul_le_mul_right _ hil
  refine (hang_any hX y.id ⟨y.t.a, y.t.c, y.t.x⟩ hvW hbf hwf (live_none hnew) (by omega) ⟨by omega, by omega⟩).mono fun e w' hH => ⟨hH.1, ?_⟩
  obtain ⟨-, k2, T2, N2, a1, a2, a3, a4, a5, a6, a7⟩ := hH
  rw [List.length_map] at a2
  have hP : ∀ q, (T' q ∨ (T q ∧ Ty w q 21)) → Pq w T tb q := fun q e => e.elim (h6 q) fun e => .inr (.inl e)
  refine ⟨k2, T2, N2, a3, ?_, by omega, by omega, (h5.on hb).trans a5 fun q e => ?_, fun q e => ?_, (h7.trans (Kv.below hb)).trans a7⟩
  · rw [a4, List.take_add_one, hy, Option.toList_some, List.map_append, List.map_singleton, lvs_snoc, if_neg (show ¬ (bn y).gone = true by show ¬ y.gone = true; rw [hg]; simp), puts_snoc, h2]
    rfl
  · rcases e with e | e
    · exact .inl (.inl e)
    · exact .inl (.inr (hP q e))
  · rcases a6 q e with e | e
    · exact hP q e
    · exact .inr (.inr (by omega))
set_option maxHeartbeats 1600000 in
/-- the new tree's struct in the old one's place -/
theorem swap (hX : Bx w base tb g n k T N) {tb2 : Nat} {T2 : Nat → Prop} (h2 : Bx w1 w.heap.size tb2 g n k T2 []) (hb1 : Below w.heap.size w w1) :
    ∃ v2 hb2 pb2, (w1.cell? ⟨tb2, 0, none⟩ = some (.pointer (some ⟨g, 0, none⟩)) ∧ w1.cell? ⟨tb2, 1, none⟩ = some v2 ∧ w1.cell? ⟨tb2, 2, none⟩ = some (.map (some hb2)) ∧ w1.cell? ⟨tb2, 3, none⟩ = some (.map (some pb2))) ∧ (∃ A c, v2 = .slice A 0 c) ∧
      ∀ w2, w2 = (((w1.setCell ⟨tb, 0, none⟩ (.pointer (some ⟨g, 0, none⟩))).setCell ⟨tb, 1, none⟩ v2).setCell ⟨tb, 2, none⟩ (.map (some hb2))).setCell ⟨tb, 3, none⟩ (.map (some pb2)) → ReS w base tb g n k T N 0 w2 := by
  have htt := hX.tt
  have hlow := hX.low
  have hgb := hX.gb
  have hbase := hX.base_le
  obtain ⟨hb0, pb0, mh0, mp0, vN0, DH0, DP0, hm0, -⟩ := hX
  obtain ⟨hb2, pb2, mh2, mp2, v2, DH2, DP2, hm, hl, hh1, hh2⟩ := h2
  obtain ⟨t0, t1, t2, t3, -⟩ := hm.cells
  obtain ⟨A2, c2, hv2, -⟩ := own_slice hm.row
  refine ⟨v2, hb2, pb2, ⟨t0, t1, t2, t3⟩, ⟨A2, c2, hv2⟩, fun w2 hw2 => ?_⟩
  have htb := hlow _ htt
  have b1 := hm0.blk.below hb1 hm0.blk.lt
  have o2 : Only (· = tb) w1 w2 := by
    rw [hw2]
    exact Only.setCell (S := (· = tb)) (p := ⟨tb, 3, none⟩) (Only.setCell (S := (· = tb)) (p := ⟨tb, 2, none⟩) (Only.setCell (S := (· = tb)) (p := ⟨tb, 1, none⟩) (Only.setCell (S := (· = tb)) (p := ⟨tb, 0, none⟩) (Only.refl _ _) (.inl rfl) _) (.inl rfl) _) (.inl rfl) _) (.inl rfl) _
  have b2 : Blk w2 tb 72 #[.pointer (some ⟨g, 0, none⟩), v2, .map (some hb2), .map (some pb2)] := by
    rw [hw2]
    exact (((b1.set_ 0 (.pointer (some ⟨g, 0, none⟩))).set_ 1 v2).set_ 2 (.map (some hb2))).set_ 3 (.map (some pb2))
  have hoff : ∀ q, T2 q → ¬ q = tb := fun q e e2 => by have := (hm.low q e).1; omega
  have hs1 := hb1.size
  have hs2 := o2.size
  refine ⟨k, fun q => q = tb ∨ T2 q, [], ⟨hb2, pb2, mh2, mp2, v2, DH2, DP2, ⟨b2, Blk.only hm.mt o2 fun e => by have := hm0.gb; omega, hgb, own_base (own_only hm.row o2 fun q e => hoff q (hm.tN q e)) hbase, map_only hm.hm o2 (hoff _ hm.th), map_only hm.pm o2 (hoff _ hm.tp), hm.hp, fun d hd => by simp at hd, List.Pairwise.nil, fun q e => ?_, .inl rfl, .inr hm.th, .inr hm.tp, fun q e => .inr (hm.tN q e)⟩, hl, hh1, hh2⟩, rfl, Int.le_refl _, by omega, ?_, fun q e => ?_, ?_⟩
  · rcases e with rfl | e
    · exact ⟨htb.1, by omega⟩
    · exact ⟨by have := (hm.low q e).1; omega, by have := (hm.low q e).2; omega⟩
  · exact (Only.of_below hb1 (Nat.le_refl _) _).trans o2 fun q e => .inl (.inr (.inl e))
  · rcases e with e | e
    · exact .inl e
    · exact .inr (.inr (by have := (hm.low q e).1; omega))
  · exact (Kv.below hb1).trans (Kv.cl o2 (Cl.blk b1) (by decide))
set_option maxHeartbeats 3200000 in
theorem renew_any (h : Bx w base tb g n k T N) (hN : N.length ≤ 1048576) (hk : 0 ≤ k ∧ k + (N.length * 1048576 : Nat) ≤ 4611686018427387904) :
    Calls Try.prog 29 #[.pointer (some ⟨tb, 0, none⟩)] w (Renewed w base tb g n k T (N.map bn)) := by
  have htt := h.tt
  have hlow := h.low
  have hgb := h.gb
  have htl := (hlow _ htt).2
  have hmt := h.mt
  obtain ⟨AN, cN, hcN, hnd⟩ := h.nodes
  have HKV := Lib.hid h.kidsV
  have hul : Ul (N.map bn) := by
    obtain ⟨hb, pb, mh, mp, vN, DH, DP, hm, hl, -⟩ := h
    exact hl.ul
  have hnx : ∀ y ∈ N, Vc w T y.t.a (iv y.t.x.vec) ∧ Bf y.t.x ∧ (Lit.int .u64 y.id).wf = true := fun y hy => by
    obtain ⟨hb, pb, mh, mp, vN, DH, DP, hm, hl, -⟩ := h
    have := hm.nx y hy
    exact ⟨this.vec, this.bf, this.wf⟩
  have hrt : ∀ rb, AN = some ⟨rb, 0, none⟩ → 0 < N.length → ¬ (rb = g ∨ Pq w T tb rb) ∧ rb < w.heap.size := fun rb e h0 => by
    obtain ⟨hb, pb, mh, mp, vN, DH, DP, hm, hl, -⟩ := h
    obtain ⟨rb2, c2, e2, hT2, hl2, hg2, ht2, -⟩ := hm.place h0
    have c1 := hm.cells.2.1
    have c1' := (hnd w (Below.refl _ _)).1
    rw [c1, e2] at c1'
    injection c1' with c1'
    injection c1' with c1' _ _
    rw [e] at c1'
    injection c1' with c1'
    injection c1' with c1' _ _
    subst c1'
    refine ⟨fun e3 => ?_, hl2⟩
    rcases e3 with e3 | e3 | ⟨-, e3⟩ | e3
    · exact hg2 e3
    · exact ht2 e3
    · have hr := hm.row
      rw [e2] at hr
      exact absurd ((Ty.own hr (g := rb2) rfl).one e3) (by decide)
    · omega
  obtain ⟨t0, t1⟩ : w.cell? ⟨tb, 0, none⟩ = some (.pointer (some ⟨g, 0, none⟩)) ∧ w.cell? ⟨tb, 1, none⟩ = some (.slice AN N.length cN) := by
    obtain ⟨hb, pb, mh, mp, vN, DH, DP, hm, hl, -⟩ := h
    exact ⟨hm.cells.1, (hnd w (Below.refl _ _)).1⟩
  have HNEW := Lib.hid (new_bk g n k w hmt)
  have HSW : Hid (∀ w1 tb2 T2, Bx w1 w.heap.size tb2 g n k T2 [] → Below w.heap.size w w1 → (w1.frozen? ⟨tb, 0, none⟩ = false ∧ w1.frozen? ⟨tb, 1, none⟩ = false ∧ w1.frozen? ⟨tb, 2, none⟩ = false ∧ w1.frozen? ⟨tb, 3, none⟩ = false ∧ (∃ c, w1.cell? ⟨tb, 0, none⟩ = some c) ∧ (∃ c, w1.cell? ⟨tb, 1, none⟩ = some c) ∧ (∃ c, w1.cell? ⟨tb, 2, none⟩ = some c) ∧ (∃ c, w1.cell? ⟨tb, 3, none⟩ = some c)) ∧ ∃ v2 hb2 pb2, (w1.cell? ⟨tb2, 0, none⟩ = some (.pointer (some ⟨g, 0, none⟩)) ∧ w1.cell? ⟨tb2, 1, none⟩ = some v2 ∧ w1.cell? ⟨tb2, 2, none⟩ = some (.map (some hb2)) ∧ w1.cell? ⟨tb2, 3, none⟩ = some (.map (some pb2))) ∧ (∃ A c, v2 = .slice A 0 c) ∧
      ∀ w2, w2 = (((w1.setCell ⟨tb, 0, none⟩ (.pointer (some ⟨g, 0, none⟩))).setCell ⟨tb, 1, none⟩ v2).setCell ⟨tb, 2, none⟩ (.map (some hb2))).setCell ⟨tb, 3, none⟩ (.map (some pb2)) → ReS w base tb g n k T N 0 w2) := Lib.hid fun w1 tb2 T2 h2 hb1 => by
    refine ⟨?_, swap h h2 hb1⟩
    obtain ⟨hb, pb, mh, mp, vN, DH, DP, hm, hl, -⟩ := h
    have b1 := hm.blk.below hb1 htl
    exact ⟨b1.frozen 0, b1.frozen 1, b1.frozen 2, b1.frozen 3, ⟨_, b1.cell 0⟩, ⟨_, b1.cell 1⟩, ⟨_, b1.cell 2⟩, ⟨_, b1.cell 3⟩⟩
  have HR : Hid (∀ i wr, (hi : i < N.length) → ReS w base tb g n k T N i wr → (∃ rb, AN = some ⟨rb, 0, none⟩ ∧ ∀ j, j < 8 → wr.cell? ⟨rb, i * 8 + j, none⟩ = (ndC N[i])[j]?) ∧ (N[i].gone = true → ∀ W, Below wr.heap.size wr W → ReS w base tb g n k T N (i + 1) W) ∧
      (N[i].gone = false → ∀ W, Below wr.heap.size wr W → Calls Try.prog 33 #[.pointer (some ⟨tb, 0, none⟩), .agg #[.int .u64 N[i].id, .int .i64 N[i].t.x.tag, .slice N[i].t.a N[i].t.x.vec.length N[i].t.c, .string N[i].t.x.str]] W fun e w' => e = .returned (.tuple #[]) ∧ ReS w base tb g n k T N (i + 1) w')) := Lib.hid fun i wr hi hS => by
    obtain ⟨rb, e1, hr1, hcell⟩ := (hnd w (Below.refl _ _)).2 i hi
    obtain ⟨v1, v2, v3⟩ := hnx N[i] (List.getElem_mem hi)
    have hgi := List.getElem?_eq_getElem hi
    refine ⟨⟨rb, e1, fun j hj => ?_⟩, fun hg W hW => hS.skip hgi hg hW, fun hg W hW => hS.hang hul hgi hg v1 v2 v3 hlow htt hN hk hW⟩
    obtain ⟨k', T', N', -, -, -, -, h5, -⟩ := hS
    obtain ⟨hr2, hr3⟩ := hrt rb e1 (by omega)
    exact (World.cell?_of_block (a := ⟨rb, i * 8 + j, none⟩) (h5.block rb hr3 hr2)).trans (hcell j hj)
  have HE : Hid (∀ wr, ReS w base tb g n k T N N.length wr → Renewed w base tb g n k T (N.map bn) (.returned (.tuple #[])) wr) := Lib.hid fun wr hS => by
    obtain ⟨k', T', N', h1, h2, h3, h4, h5, h6, -⟩ := hS
    rw [List.take_length] at h2
    have hP : ∀ q, Pq w T tb q → T q ∨ w.heap.size ≤ q := fun q e => by
      rcases e with e | e | e
      · exact .inl (by rw [e]; exact htt)
      · exact .inl e.1
      · exact .inr e
    exact ⟨rfl, k', T', N', h1, h2, h3, by rw [List.length_map]; exact h4, h5.mono fun q e => e.elim (fun e => .inl (.inl e)) fun e => (hP q e).imp (fun e => .inr e) fun e => e, fun q e => hP q (h6 q e)⟩
  clear h hnd hnx hrt hul hmt hlow htt hgb hk
  have hl63 : (N.length : Int) < 9223372036854775807 := by omega
  go_enter Try.func29, Try.ntmps29
  go_wp2_with (fail)
  refine HNEW.out.mono ?_
  rintro e w1 ⟨tb2, T2, rfl, hX2, hb1⟩
  obtain ⟨⟨f0, f1, f2, f3, ⟨x0, g0⟩, ⟨x1, g1⟩, ⟨x2, g2⟩, ⟨x3, g3⟩⟩, v2, hb2, pb2, ⟨s0, s1, s2, s3⟩, ⟨A2, c2, rfl⟩, hst⟩ := HSW.out w1 tb2 T2 hX2 hb1
  have HST := Lib.hid hst
  clear hst hX2 hb1 HNEW HSW t0 t1
  go_wp2_with (fail)
  obtain ⟨w2, hw2⟩ : ∃ w2, w2 = (((w1.setCell ⟨tb, 0, none⟩ (.pointer (some ⟨g, 0, none⟩))).setCell ⟨tb, 1, none⟩ (.slice A2 0 c2)).setCell ⟨tb, 2, none⟩ (.map (some hb2))).setCell ⟨tb, 3, none⟩ (.map (some pb2)) := ⟨_, rfl⟩
  have HST2 := Lib.hid (HST.out w2 hw2)
  rw [← hw2]
  clear hw2 HST f0 f1 f2 f3 g0 g1 g2 g3 s0 s1 s2 s3
  go_loopg [20] N.length (fun gk s20 wr => ∃ i : Nat, gk = N.length - i ∧ i ≤ N.length ∧ s20 = .int .i64 i ∧ ReS w base tb g n k T N i wr)
  case atStart => exact ⟨0, rfl, Nat.zero_le _, rfl, HST2.out⟩
  case round =>
    clear HST2
    obtain ⟨i, rfl, hi, rfl, hst⟩ := hrel
    by_cases hlt : i < N.length
    · have i1 : (i : Int) < (N.length : Int) := by omega
      obtain ⟨⟨rb, rfl, hcell⟩, hskip, hhang⟩ := HR.out i wr hlt hst
      obtain ⟨x0, x1, x2, x3, x4, x5, x6, x7⟩ : wr.cell? ⟨rb, i * 8, none⟩ = some (.int .u64 N[i].id) ∧ wr.cell? ⟨rb, i * 8 + 1, none⟩ = some (.int .i64 N[i].t.x.tag) ∧ wr.cell? ⟨rb, i * 8 + 2, none⟩ = some (.slice N[i].t.a N[i].t.x.vec.length N[i].t.c) ∧ wr.cell? ⟨rb, i * 8 + 3, none⟩ = some (.string N[i].t.x.str) ∧ wr.cell? ⟨rb, i * 8 + 4, none⟩ = some (.bool N[i].gone) ∧ wr.cell? ⟨rb, i * 8 + 5, none⟩ = some (.int .i64 N[i].par) ∧ wr.cell? ⟨rb, i * 8 + 6, none⟩ = some (.int .i64 N[i].edge) ∧ wr.cell? ⟨rb, i * 8 + 7, none⟩ = some N[i].v :=
        ⟨hcell 0 (by omega), hcell 1 (by omega), hcell 2 (by omega), hcell 3 (by omega), hcell 4 (by omega), hcell 5 (by omega), hcell 6 (by omega), hcell 7 (by omega)⟩
      obtain ⟨Av, cv, hv⟩ := HKV.out N[i] (List.getElem_mem hlt)
      rw [hv] at x7
      clear hcell hst hv
      generalize N[i] = y at x0 x1 x2 x3 x4 x5 x6 x7 hskip hhang
      generalize y.ks.length = lk at x7
      have hbY : Below wr.heap.size wr (wr.alloc (.cells #[.int .u64 y.id, .int .i64 y.t.x.tag, .slice y.t.a y.t.x.vec.length y.t.c, .string y.t.x.str, .bool y.gone, .int .i64 y.par, .int .i64 y.edge, .slice Av lk cv] 82)) := (Below.refl _ _).alloc (Nat.le_refl _) _
      cases hg : y.gone with
      | true =>
        rw [hg] at x4 hbY
        have HSK := Lib.hid (hskip hg _ hbY)
        clear hskip hhang hbY hg
        go_wp2_with (fail)
        go_roundg (N.length - (i + 1))
        case measure => omega
        case rel => exact ⟨i + 1, rfl, by omega, by go_num, HSK.out⟩
      | false =>
        rw [hg] at x4 hbY
        have HHG := Lib.hid (hhang hg _ hbY)
        clear hskip hhang hbY hg
        go_wp2_with (fail)
        refine HHG.out.mono ?_
        rintro e w5 ⟨rfl, hr⟩
        have HRS := Lib.hid hr
        clear hr HHG
        go_wp2_with (fail)
        go_roundg (N.length - (i + 1))
        case measure => omega
        case rel => exact ⟨i + 1, rfl, by omega, by go_num, HRS.out⟩
    · obtain rfl : i = N.length := by omega
      have i1 : ¬ (N.length : Int) < (N.length : Int) := by omega
      have HEE := Lib.hid (HE.out wr hst)
      clear hst HE HR
      go_wp2_with (fail)
      refine bodyPost_ret (v := .tuple #[]) (by simp [results, Try.results29, go_sem]) rfl ?_
      exact HEE.out
/-! ### Delete -/
/-- the nodes behind a delete -/
def cutB (n : Int) (L : List Bn) (i : Nat) : List Bn := match L[i]? with
  | some b => let L' := L.set i { b with gone := true }
              if cnt L' < L'.length - cnt L' then puts n [] (lvs L') else L'
  | none => L
/-- what Delete leaves -/
def Deleted (w : World) (base tb g : Nat) (n k : Int) (T : Nat → Prop) (L : List Bn) (id : Int) (e : Ending) (w' : World) : Prop :=
  e = .returned (.int .i64 (if live L id then 0 else 5)) ∧ ∃ (k' : Int) (T' : Nat → Prop) (N' : List Nd), Bx w' base tb g n k' T' N' ∧ (lv L id = none → N'.map bn = L) ∧ (∀ i, lv L id = some i → N'.map bn = cutB n L i) ∧ k ≤ k' ∧ k' ≤ k + (L.length * 1048576 : Nat) ∧ Only (fun q => q = g ∨ T q) w w' ∧ ∀ q, T' q → T q ∨ w.heap.size ≤ q
theorem many_any (a b : Nat) (hb : a ≤ b ∧ b ≤ 1048577) (w : World) : Calls Try.prog 28 #[.int .i64 (a : Int), .int .i64 (b : Int)] w fun e w' => e = .returned (.bool (decide (b - a < a))) ∧ w = w' := by
  have hw : IntKind.i64.wrap ((b : Int) - (a : Int)) = ((b - a : Nat) : Int) := by rw [IntWalk.i64_in _ (by omega)]; omega
  obtain ⟨c, hc⟩ : ∃ c, c = b - a := ⟨_, rfl⟩
  rw [← hc] at hw ⊢
  clear hc hb
  go_enter Try.func28, Try.ntmps28
  go_wp2_with (fail)
  go_ret
  exact ⟨rfl, rfl⟩
end
/-! ### one node is gone -/
def sh (b : Bn) : Thing × Int × Int := (b.x, b.par, b.edge)
section
variable {L K : List Bn} {n : Int} {x : Thing} {p e : Int} {i : Nat} {b : Bn}
theorem sh_at (h : L.map sh = K.map sh) {j : Nat} {c : Bn} (hc : L[j]? = some c) : ∃ d, K[j]? = some d ∧ d.x = c.x ∧ d.par = c.par ∧ d.edge = c.edge := by
  have h1 : (L.map sh)[j]? = (K.map sh)[j]? := by rw [h]
  rw [List.getElem?_map, List.getElem?_map, hc] at h1
  cases hk : K[j]? with
  | none => rw [hk] at h1; simp at h1
  | some d =>
    rw [hk] at h1
    simp only [Option.map_some, Option.some.injEq, sh, Prod.mk.injEq] at h1
    exact ⟨d, rfl, h1.1.symm, h1.2.1.symm, h1.2.2.symm⟩
theorem hk_sh (h : L.map sh = K.map sh) (p e : Int) : hk L p e = hk K p e := by
  have key : ∀ M : List Bn, hk M p e = (M.map sh).findIdx? fun q => decide (q.2.1 = p) && decide (q.2.2 = e) := fun M => by
    unfold hk
    rw [List.findIdx?_map]
    rfl
  rw [key, key, h]
theorem Way.sh (h : L.map sh = K.map sh) (hw : Way n L x p e) : Way n K x p e := by
  induction hw with
  | root => exact .root
  | step i b hb _ ih =>
    obtain ⟨d, hd, h1, h2, h3⟩ := sh_at h hb
    rw [← h1]
    exact .step i d hd (by rw [h2, h3]; exact ih)
theorem Tree.sh (h : L.map sh = K.map sh) (ht : Tree n L) : Tree n K := by
  refine ⟨fun i b hb => ?_, fun i j b c hb hc h1 h2 => ?_, fun i b hb => ?_⟩
  · obtain ⟨d, hd, _, e2, _⟩ := sh_at h.symm hb
    rw [← e2]
    exact ht.par i d hd
  · obtain ⟨d, hd, _, e2, e3⟩ := sh_at h.symm hb
    obtain ⟨d', hd', _, e2', e3'⟩ := sh_at h.symm hc
    exact ht.uniq i j d d' hd hd' (by rw [e2, e2', h1]) (by rw [e3, e3', h2])
  · obtain ⟨d, hd, e1, e2, e3⟩ := sh_at h.symm hb
    have := (ht.way i d hd).sh h
    rw [e1, e2, e3] at this
    exact this
theorem set_sh (hb : L[i]? = some b) : (L.set i { b with gone := true }).map sh = L.map sh := by
  refine List.ext_getElem? fun j => ?_
  rw [List.getElem?_map, List.getElem?_map, List.getElem?_set]
  split
  · rename_i e
    subst e
    rw [hb]
    have := (List.getElem?_eq_some_iff.1 hb).1
    simp [this, sh]
  · rfl
theorem findIdx_same {f g : Bn → Bool} (h : L.map f = K.map g) : L.findIdx? f = K.findIdx? g := by
  have key : ∀ (M : List Bn) (f : Bn → Bool), M.findIdx? f = (M.map f).findIdx? id := fun M f => by
    rw [List.findIdx?_map]
    rfl
  rw [key, key, h]
theorem set_map {β : Type} {f : Bn → β} (hb : L[i]? = some b) (hf : f { b with gone := true } = f b) : (L.set i { b with gone := true }).map f = L.map f := by
  refine List.ext_getElem? fun j => ?_
  rw [List.getElem?_map, List.getElem?_map, List.getElem?_set]
  split
  · rename_i e
    subst e
    rw [hb]
    have := (List.getElem?_eq_some_iff.1 hb).1
    simp [this, hf]
  · rfl
theorem lv_gone (hu : Ul L) (hb : L[i]? = some b) (hg : b.gone = false) (id : Int) : lv (L.set i { b with gone := true }) id = if id = b.id then none else lv L id := by
  by_cases e : id = b.id
  · subst e
    rw [if_pos rfl]
    unfold lv
    rw [List.findIdx?_eq_none_iff]
    intro c hc
    obtain ⟨j, hj⟩ := List.mem_iff_getElem?.1 hc
    rw [List.getElem?_set] at hj
    split at hj
    · rename_i e
      subst e
      have := (List.getElem?_eq_some_iff.1 hb).1
      simp [this] at hj
      subst hj
      rfl
    · rename_i hne
      cases hcg : c.gone with
      | true => rfl
      | false =>
        have : ¬ c.id = b.id := fun e => hne (hu i j b c hb hj hg hcg e.symm)
        simp [this]
  · rw [if_neg e]
    unfold lv
    refine findIdx_same (set_map hb ?_)
    have : ¬ b.id = id := fun h => e h.symm
    simp [this]
theorem cnt_gone (hb : L[i]? = some b) (hg : b.gone = false) : cnt (L.set i { b with gone := true }) + 1 = cnt L := by
  obtain ⟨hi, rfl⟩ := List.getElem?_eq_some_iff.1 hb
  have e1 : L = L.take i ++ L[i] :: L.drop (i + 1) := by rw [← List.drop_eq_getElem_cons hi, List.take_append_drop]
  have e2 : L.set i { L[i] with gone := true } = L.take i ++ { L[i] with gone := true } :: L.drop (i + 1) := by rw [List.set_eq_take_append_cons_drop, if_pos hi]
  rw [e2]
  conv => rhs; rw [e1]
  unfold cnt
  rw [List.countP_append, List.countP_append, List.countP_cons, List.countP_cons, hg]
  simp
  omega
theorem Ul.gone (hu : Ul L) (hb : L[i]? = some b) : Ul (L.set i { b with gone := true }) := by
  have key : ∀ (j : Nat) (c : Bn), (L.set i { b with gone := true })[j]? = some c → c.gone = false → L[j]? = some c := fun j c hc hg => by
    rw [List.getElem?_set] at hc
    split at hc
    · rename_i e
      subst e
      have := (List.getElem?_eq_some_iff.1 hb).1
      simp [this] at hc
      subst hc
      cases hg
    · exact hc
  exact fun j l c d hc hd h1 h2 h3 => hu j l c d (key j c hc h1) (key l d hd h2) h1 h2 h3
theorem Pm.del {D : DataW Unit} (h : Pm D L) (hu : Ul L) (hb : L[i]? = some b) (hg : b.gone = false) : Pm (D.del (ky b.id)) (L.set i { b with gone := true }) := by
  obtain ⟨h1, h2, h3⟩ := h
  have hc := cnt_gone hb hg
  refine ⟨h1.del _, ?_, fun id => ?_⟩
  · have := Maps.size_del (k := ky b.id) h1
    rw [(h3 b.id).1, hu.lv_at hb hg, h2] at this
    simp at this
    omega
  · rw [lv_gone hu hb hg]
    by_cases e : id = b.id
    · subst e
      rw [if_pos rfl, Maps.has_del_same]
      exact ⟨rfl, fun j hj => by cases hj⟩
    · rw [if_neg e, Maps.has_del_other (ky_ne e), (h3 id).1]
      exact ⟨rfl, fun j hj z => by rw [Maps.atKey_del_other (ky_ne e)]; exact (h3 id).2 j hj z⟩
end
section
variable {w w' w1 W W' : World} {base tb g hb pb mh mp B i : Nat} {n k : Int} {T S : Nat → Prop} {vN v4 : Value} {N : List Nd} {DH DP D1 : DataW Unit} {d : Nd} {t t' : TypeId} {A : Option Addr} {xs : List Value} {id : Int} {x : At} {gone : Bool} {par edge : Int}
theorem Lg.cut (h : Lg n N DH DP) {y : Nd} (hy : N[i]? = some y) (hg : y.gone = false) : Lg n (N.set i { y with gone := true }) DH (DP.del (ky y.id)) := by
  have hb : (N.map bn)[i]? = some (bn y) := by rw [List.getElem?_map, hy]; rfl
  have e : (N.set i { y with gone := true }).map bn = (N.map bn).set i { bn y with gone := true } := by rw [List.map_set]; rfl
  have hs := set_sh hb
  refine ⟨?_, ?_, ?_, ?_, fun j d hd => ?_⟩
  · rw [e]
    exact ⟨h.hk.1, fun p q hp hq => by rw [hk_sh hs]; exact h.hk.2 p q hp hq⟩
  · rw [e]
    exact h.pm.del h.ul hb hg
  · rw [e]
    exact Tree.sh hs.symm h.tree
  · rw [e]
    exact h.ul.gone hb
  · rw [e, kds_gone (K := N.map bn) (set_map hb rfl)]
    rw [List.getElem?_set] at hd
    split at hd
    · rename_i e
      subst e
      have := (List.getElem?_eq_some_iff.1 hy).1
      simp [this] at hd
      subst hd
      exact h.kids i y hy
    · exact h.kids j d hd
/-- behind the mark, and the places' turn -/
theorem Bx.cut (h : Bx w base tb g n k T N) (hi : lv (N.map bn) id = some i) :
    ∃ (y : Nd) (rb c pb mp : Nat) (DP : DataW Unit), N[i]? = some y ∧ y.gone = false ∧ y.id = id ∧ (w.cell? ⟨tb, 1, none⟩ = some (.slice (some ⟨rb, 0, none⟩) N.length c) ∧ w.cell? ⟨tb, 3, none⟩ = some (.map (some pb)) ∧ w.cell? ⟨rb, i * 8 + 4, none⟩ = some (.bool false) ∧ w.frozen? ⟨rb, i * 8 + 4, none⟩ = false) ∧
      w.ownsMap Try.prog 33 (plainElem (H := Unit) Try.prog 3) pb mp DP ∧ (∀ z, DP.atKey (ky id) z = .lit (.int .i64 i)) ∧ Maps.has DP (ky id) = true ∧
      ∀ w1, w1 = w.setCell ⟨rb, i * 8 + 4, none⟩ (.bool true) → w1.cell? ⟨tb, 3, none⟩ = some (.map (some pb)) ∧ w1.ownsMap Try.prog 33 (plainElem (H := Unit) Try.prog 3) pb mp DP ∧
        ∀ w2, w2.ownsMap Try.prog 33 (plainElem (H := Unit) Try.prog 3) pb mp (DP.del (ky id)) → w1.mapTurned w2 pb → Bx w2 base tb g n k T (N.set i { y with gone := true }) ∧ Only T w w2 := by
  obtain ⟨hb, pb, mh, mp, vN, DH, DP, hm, hl, hmh, hmp⟩ := h
  obtain ⟨b, hbi, hg, hid⟩ := lv_some hi
  rw [List.getElem?_map] at hbi
  cases hy : N[i]? with
  | none => rw [hy] at hbi; cases hbi
  | some y =>
    rw [hy] at hbi
    simp only [Option.map_some, Option.some.injEq] at hbi
    subst hbi
    have hil := (List.getElem?_eq_some_iff.1 hy).1
    obtain ⟨rb, c, rfl, hTb, hrl, hrg, hrt, hfz, hcell⟩ := hm.place (by omega)
    have hyi : N[i] = y := (List.getElem?_eq_some_iff.1 hy).2
    have hg' : y.gone = false := hg
    have hid' : y.id = id := hid
    obtain ⟨t0, t1, t2, t3, -⟩ := hm.cells
    have h4 : w.cell? ⟨rb, i * 8 + 4, none⟩ = some (.bool false) := by
      rw [hcell i hil 4 (by omega), hyi]
      show some (Value.bool y.gone) = _
      rw [hg']
    refine ⟨y, rb, c, pb, mp, DP, rfl, hg', hid', ⟨t1, t3, h4, hfz _⟩, hm.pm, (hl.pm.2.2 id).2 i hi, by rw [(hl.pm.2.2 id).1, hi]; rfl, fun w1 hw1 => ?_⟩
    obtain ⟨h1, h2⟩ := hm.goneAt hy
    rw [← hw1] at h1 h2
    refine ⟨h1.cells.2.2.2.1, h1.pm, fun w2 ho2 ht2 => ?_⟩
    have hO : Only (· = pb) w1 w2 := Only.of_grown ht2.grown fun j e => .inl (by injection e with e; exact e.symm)
    have h3 := h1.placed hO ho2
    refine ⟨⟨hb, pb, mh, mp, _, DH, _, h3, ?_, by rw [List.length_set]; exact hmh, by rw [List.length_set]; exact hmp⟩, h2.trans hO fun q e => .inl (by rw [e]; exact hm.tp)⟩
    rw [← hid']
    exact hl.cut hy hg'
set_option maxHeartbeats 3200000 in
theorem delete_any (h : Bx w base tb g n k T N) (id : Int) (a : Option Addr) (hwf : (Lit.int .u64 id).wf = true) (hN : N.length ≤ 1048576) (hk : 0 ≤ k ∧ k + (N.length * 1048576 : Nat) ≤ 4611686018427387904) :
    Calls Try.prog 11 #[.pointer (some ⟨tb, 0, none⟩), .int .u64 id, .pointer a] w (Deleted w base tb g n k T (N.map bn) id) := by
  have hkey : keyOf Try.prog 33 (.int .u64 id) = some (.int .u64 id) := keyOf_int_mk Try.underlying33 hwf
  cases hlv : lv (N.map bn) id with
  | none =>
    have HE : Hid (Deleted w base tb g n k T (N.map bn) id (.returned (.int .i64 5)) w) := Lib.hid ⟨by unfold live; rw [hlv]; rfl, k, T, N, h, fun _ => rfl, fun i e => (by rw [hlv] at e; cases e), Int.le_refl _, by omega, Only.refl _ _, fun q e => .inl e⟩
    obtain ⟨hb, pb, mh, mp, vN, DH, DP, hm, hl, -, -⟩ := h
    obtain ⟨-, -, -, c3, -⟩ := hm.cells
    have h1 := hm.pm
    have hh := (hl.pm.2.2 id).1
    rw [hlv] at hh
    have HH := Lib.hid hh
    clear hm hl hh hlv hk
    go_enter Try.func11, Try.ntmps11
    go_wp2_with (at_lookup
                 refine wpList_lookup_own_ok_int _ rfl _ _ 69 rfl 33 3 .i64 idx.mlaw Try.underlying69 Try.underlying3 (intZ _) pb mp DP rfl h1 _ _ rfl hkey ?_
                 intro c hat hwc
                 rw [show (Lit.int IntKind.u64 id) = ky id from rfl, HH.out, Option.isSome_none])
    go_ret
    exact HE.out
  | some i =>
    obtain ⟨y, rb, c, pb, mp, DP, hy, hg, hid, ⟨t1, t3, t4, tf⟩, hmap, hat0, hhas, hnext⟩ := h.cut hlv
    have hil := (List.getElem?_eq_some_iff.1 hy).1
    have HIL := Lib.hid (And.intro hhas hat0)
    have i1 : (i : Int) < (N.length : Int) := by omega
    have i2 : i < N.length := hil
    obtain ⟨w1, hw1⟩ : ∃ w1, w1 = w.setCell ⟨rb, i * 8 + 4, none⟩ (.bool true) := ⟨_, rfl⟩
    obtain ⟨t3', hmap1, hdel⟩ := hnext w1 hw1
    obtain ⟨L', hL'⟩ : ∃ L', L' = (N.set i { y with gone := true }).map bn := ⟨_, rfl⟩
    have hLs : L' = (N.map bn).set i { bn y with gone := true } := by rw [hL', List.map_set]; rfl
    have hLl : L'.length = N.length := by rw [hLs, List.length_set, List.length_map]
    have hcl := cnt_le L'
    have hcut : cutB n (N.map bn) i = if cnt L' < L'.length - cnt L' then puts n [] (lvs L') else L' := by
      unfold cutB
      rw [List.getElem?_map, hy, hLs]
      rfl
    have hbg := h.gb
    -- behind the places' turn
    have HF : Hid (∀ w2, w2.ownsMap Try.prog 33 (plainElem (H := Unit) Try.prog 3) pb mp (DP.del (ky id)) → w1.mapTurned w2 pb →
        (∃ vN, w2.cell? ⟨tb, 1, none⟩ = some vN ∧ (∃ A c, vN = .slice A N.length c) ∧ ∀ W, Below w2.heap.size w2 W → W.cell? ⟨tb, 1, none⟩ = some vN) ∧
        (∀ W, Below w2.heap.size w2 W → Calls Try.prog 20 #[.pointer (some ⟨tb, 0, none⟩)] W fun e w' => e = .returned (.int .i64 ((L'.length - cnt L' : Nat) : Int)) ∧ Below w2.heap.size w2 w') ∧
        (∀ W, Below w2.heap.size w2 W → (¬ cnt L' < L'.length - cnt L' → Deleted w base tb g n k T (N.map bn) id (.returned (.int .i64 0)) W) ∧
          (cnt L' < L'.length - cnt L' → Calls Try.prog 29 #[.pointer (some ⟨tb, 0, none⟩)] W fun e w' => e = .returned (.tuple #[]) ∧ Deleted w base tb g n k T (N.map bn) id (.returned (.int .i64 0)) w'))) := Lib.hid fun w2 ho2 ht2 => by
      obtain ⟨hX, hO⟩ := hdel w2 ho2 ht2
      have hlen : (N.set i { y with gone := true }).length = N.length := List.length_set ..
      refine ⟨?_, fun W hW => ?_, fun W hW => ⟨fun hc => ?_, fun hc => ?_⟩⟩
      · obtain ⟨AN, cN, -, hnd⟩ := hX.nodes
        exact ⟨_, (hnd w2 (Below.refl _ _)).1, ⟨AN, cN, by rw [hlen]⟩, fun W hW => (hnd W hW).1⟩
      · refine (gone_any (hX.below hW) (by omega)).mono fun e w' ⟨he, hb⟩ => ⟨?_, hW.trans (hb.mono hW.size)⟩
        rw [he, hlen, ← hL', hLl]
        congr 2
        omega
      · refine ⟨by unfold live; rw [hlv]; rfl, k, T, _, hX.below hW, fun e => (by rw [hlv] at e; cases e), fun j e => ?_, Int.le_refl _, by omega, hO.mono (T := fun q => q = g ∨ T q) (fun q e => .inl (.inr e)) |>.on hW, fun q e => .inl e⟩
        rw [hlv] at e
        injection e with e
        subst e
        rw [hcut, if_neg hc, hL']
      · refine (renew_any (hX.below hW) (by omega) (by rw [hlen]; exact hk)).mono fun e w' hR => ⟨hR.1, ?_⟩
        obtain ⟨-, k', T', N', a1, a2, a3, a4, a5, a6⟩ := hR
        rw [List.length_map, hlen] at a4
        have hsz := hW.size
        have hsz2 := hO.size
        refine ⟨by unfold live; rw [hlv]; rfl, k', T', N', a1, fun e => (by rw [hlv] at e; cases e), fun j e => ?_, a3, by rw [List.length_map]; exact a4, ((hO.mono (T := fun q => q = g ∨ T q) fun q e => .inl (.inr e)).on hW).trans a5 fun q e => .inl e, fun q e => (a6 q e).imp (fun e => e) fun e => by omega⟩
        rw [hlv] at e
        injection e with e
        subst e
        rw [hcut, if_pos hc, a2, hL']
    have HM : Hid (∀ W, Calls Try.prog 28 #[.int .i64 ((L'.length - cnt L' : Nat) : Int), .int .i64 (N.length : Int)] W fun e w' => e = .returned (.bool (decide (cnt L' < L'.length - cnt L'))) ∧ W = w') := Lib.hid fun W => by
      refine (many_any (L'.length - cnt L') N.length ⟨by omega, by omega⟩ W).mono fun e w' ⟨he, hw⟩ => ⟨?_, hw⟩
      rw [he, show N.length - (L'.length - cnt L') = cnt L' by omega]
    have hkd : keyOf Try.prog 33 (.int .u64 id) = some (ky id) := hkey
    have HW1 := Lib.hid hw1
    rw [hw1] at t3' hmap1
    clear h hy hg hid hil hnext hdel hL' hLs hLl hcut hcl hbg hlv hk hw1 hN
    generalize L'.length - cnt L' = gn at HF HM
    generalize cnt L' = cn at HF HM
    go_enter Try.func11, Try.ntmps11
    go_wp2_with (first
      | (at_lookup
         refine wpList_lookup_own_ok_int _ rfl _ _ 69 rfl 33 3 .i64 idx.mlaw Try.underlying69 Try.underlying3 (intZ _) pb mp DP rfl hmap _ _ rfl hkey ?_
         intro c' hat hwc
         rw [show (Lit.int IntKind.u64 id) = ky id from rfl, HIL.out.1]
         rw [show (Lit.int IntKind.u64 id) = ky id from rfl, HIL.out.2] at hat
         injection hat with hat
         injection hat with _ hat
         obtain rfl := hat
         clear hwc)
      | (at_delete
         refine wpList_delete_own _ rfl _ _ 69 33 rfl 3 idx.mlaw Try.underlying69 _ pb mp DP rfl hmap1 _ _ rfl hkd ?_
         intro w2 hown2 hturn2
         rw [← HW1.out] at hturn2
         obtain ⟨⟨vN, s1, ⟨A2, c2, rfl⟩, s2⟩, hG, hE⟩ := HF.out w2 hown2 hturn2
         have HS := Lib.hid s2
         have HG := Lib.hid hG
         have HE := Lib.hid hE
         clear hown2 hturn2 HF s2 hG hE))
    obtain ⟨B2, hB2⟩ : ∃ B2 : World → Prop, B2 = fun W => Below w2.heap.size w2 W := ⟨_, rfl⟩
    have HS2 : Hid (∀ W, B2 W → W.cell? ⟨tb, 1, none⟩ = some (.slice A2 N.length c2)) := Lib.hid fun W hW => by subst hB2; exact HS.out W hW
    have HG2 : Hid (∀ W, B2 W → Calls Try.prog 20 #[.pointer (some ⟨tb, 0, none⟩)] W fun e w' => e = .returned (.int .i64 (gn : Int)) ∧ B2 w') := Lib.hid fun W hW => by subst hB2; exact HG.out W hW
    have HM2 : Hid (∀ W, B2 W → Calls Try.prog 28 #[.int .i64 (gn : Int), .int .i64 (N.length : Int)] W fun e w' => e = .returned (.bool (decide (cn < gn))) ∧ B2 w') := Lib.hid fun W hW => (HM.out W).mono fun e w' ⟨he, hw⟩ => ⟨he, hw ▸ hW⟩
    have HD : Hid (∀ W, B2 W → B2 W.drew ∧ ∀ m, B2 (W.drewN m)) := Lib.hid fun W hW => by subst hB2; exact ⟨Below.drew hW, fun m => below_drewN' hW m⟩
    have b0 : B2 w2 := by subst hB2; exact Below.refl _ _
    have HE2 : Hid (∀ W, B2 W → _) := Lib.hid fun W hW => HE.out W (by subst hB2; exact hW)
    clear HS HG HM HE hB2 hmap hmap1 hkey hkd t1 t3 t4 tf t3' HW1 HIL hat0 hhas
    go_region_held3 (fun W => W.cell? ⟨tb, 1, none⟩ = some (.slice A2 N.length c2))
      ((first | (with_reducible assumption) | (refine HS2.out _ ?_; repeat' (first | (with_reducible assumption) | (with_reducible refine (HD.out _ ?_).1) | (with_reducible refine (HD.out _ ?_).2 _)))))
      (first
        | (go_at_call 20; (with_reducible refine (HG2.out _ (by repeat' (first | (with_reducible assumption) | (with_reducible refine (HD.out _ ?_).1) | (with_reducible refine (HD.out _ ?_).2 _)))).mono ?_); rintro e w3 ⟨rfl, b3⟩)
        | (go_at_call 28; (with_reducible refine (HM2.out _ (by repeat' (first | (with_reducible assumption) | (with_reducible refine (HD.out _ ?_).1) | (with_reducible refine (HD.out _ ?_).2 _)))).mono ?_); rintro e w4 ⟨rfl, b4⟩))
    obtain ⟨hno, hyes⟩ := HE2.out w4 b4
    by_cases hc : cn < gn
    · have HR := Lib.hid (hyes hc)
      have hd : decide (cn < gn) = true := decide_eq_true hc
      clear hno hyes HE2 HS2 HG2 HM2 HD b4 b3 b0
      go_wp2_with (fail)
      refine HR.out.mono ?_
      rintro e w5 ⟨rfl, hx⟩
      have HX := Lib.hid hx
      clear hx HR
      go_wp2_with (fail)
      go_ret
      exact HX.out
    · have HR := Lib.hid (hno hc)
      have hd : decide (cn < gn) = false := decide_eq_false hc
      clear hno hyes HE2 HS2 HG2 HM2 HD b4 b3 b0
      go_wp2_with (fail)
      go_ret
      exact HR.out
end
end Go.Proofs.Ytaamlidflfdjkaa.bk
