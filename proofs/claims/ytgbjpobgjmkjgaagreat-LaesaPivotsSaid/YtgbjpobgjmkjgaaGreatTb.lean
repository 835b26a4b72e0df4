/-
  A table in memory: its struct, its pivots, its rows, where each stands; kept by what leaves its blocks alone.
-/
import Derived.Test.YtgbjpobgjmkjgaaGreatGPiv
import Derived.Test.YtgbjpobgjmkjgaaGreatLaL
import Derived.Test.YtgbjpobgjmkjgaaGreatTbM
import Derived.Test.YtgbjpobgjmkjgaaGreatIdF
import Derived.Test.YtgbjpobgjmkjgaaGreatGTold
namespace Go.Proofs.YtgbjpobgjmkjgaaGreat.tab
open Go.RowKit Go.WideShapes law bytes only flat nums ord obj metric pv lae
open told (own_types blk_types)
open Go.Maps Go.ChangeAt
set_option linter.unusedVariables false

/-! ### which type a block's cells have -/
def Ty (w : World) (i : Nat) (t : TypeId) : Prop := ∃ cs z, w.heap[i]? = some (.cells cs t z)
section
variable {w w' : World} {i g : Nat} {t t' : TypeId}
theorem Ty.one (h : Ty w i t) (h' : Ty w i t') : t = t' := by
  obtain ⟨cs, z, e⟩ := h
  obtain ⟨cs', z', e'⟩ := h'
  rw [e] at e'
  injection e' with e'
  injection e'
theorem Ty.blk {cs : Array Value} (h : Blk w g t cs) : Ty w g t := ⟨cs, _, h⟩
theorem Ty.own {base k n : Nat} {v : Value} {xs : List Value} (h : w.ownsRow base t k v n xs) {g : Nat} (hg : v.ownBlock = some g) : Ty w g t := by
  rcases h.2 with ⟨rfl, _⟩ | ⟨g', cap, cur, rfl, _, hh, _⟩
  · cases hg
  · injection hg with hg
    subst hg
    exact ⟨_, _, hh⟩
theorem Ty.map {P : Program} {k : TypeId} {R : Value → Option (DataW Unit × List MemPlace)} {n : Nat} {D : DataW Unit} (h : w.ownsMap P k R g n D) (h' : Ty w g t) : False := by
  obtain ⟨es, clock, e, _⟩ := h
  obtain ⟨cs, z, e'⟩ := h'
  rw [e] at e'
  cases e'
theorem Ty.keep (h : Ty w i t) (e : w'.heap[i]? = w.heap[i]?) : Ty w' i t := by
  obtain ⟨cs, z, h⟩ := h
  exact ⟨cs, z, e.trans h⟩
theorem Ty.lt (h : Ty w i t) : i < w.heap.size := by
  obtain ⟨cs, z, h⟩ := h
  exact (Array.getElem?_eq_some_iff.1 h).1
end
/-- a thing's numbers, in T's blocks of numbers -/
def Vc (w : World) (T : Nat → Prop) (A : Option Addr) (xs : List Value) : Prop := ∀ j u, xs[j]? = some u → ∃ a, A = some a ∧ T a.block ∧ Ty w a.block 21 ∧ w.cell? (a.add j) = some u
section
variable {w w' : World} {T T' S : Nat → Prop} {A : Option Addr} {xs : List Value}
theorem Vc.sl (h : Vc w T A xs) : Sl w w.heap.size A xs := fun j u hj => by
  obtain ⟨a, e, ht, hy, hc⟩ := h j u hj
  exact ⟨a, e, hy.lt, hc⟩
theorem Vc.only (h : Vc w T A xs) (o : Only S w w') (hS : ∀ i, T i → Ty w i 21 → ¬ S i) : Vc w' T A xs := fun j u hj => by
  obtain ⟨a, e, ht, hy, hc⟩ := h j u hj
  have hk := o.block a.block hy.lt (hS _ ht hy)
  exact ⟨a, e, ht, hy.keep hk, (World.cell?_of_block (a := a.add j) (by rw [blk_add]; exact hk)).trans hc⟩
theorem Vc.mono (h : Vc w T A xs) (hT : ∀ i, T i → T' i) : Vc w T' A xs := fun j u hj => by
  obtain ⟨a, e, ht, hy, hc⟩ := h j u hj
  exact ⟨a, e, hT _ ht, hy, hc⟩
theorem Vc.own {B n c : Nat} (h : w.ownsRow B 21 1 (.slice A n c) n xs) (hT : ∀ i, (Value.slice A n c).ownBlock = some i → T i) : Vc w T A xs := fun j u hj => by
  rcases h.2 with ⟨h', rfl⟩ | ⟨g, cap, cur, hv, _, hh, _⟩
  · have : xs = [] := List.eq_nil_of_length_eq_zero (by simpa using h.1)
    subst this
    simp at hj
  · injection hv with hA
    subst hA
    exact ⟨_, rfl, hT g rfl, ⟨_, _, hh⟩, h.cells (g := g) rfl j u hj⟩
end
/-! ### a table -/
/-- a row: its number, its thing, its block, its ints -/
structure Ro where
  id : Int
  t : At
  b : Nat
  v : Value
/-- how far a thing is from each pivot -/
def fs (n : Int) (P : List At) (x : Thing) : List Int := row (M n) (P.map At.x) x
theorem fs_length (n : Int) (P : List At) (x : Thing) : (fs n P x).length = P.length := by simp [fs, row]
theorem fs_snoc (n : Int) (P : List At) (p : At) (x : Thing) : fs n (P ++ [p]) x = fs n P x ++ [M n x p.x] := by simp [fs, row]
/-- a thing that distances are told of -/
def Bf (x : Thing) : Prop := dist.Bd x.vec ∧ x.vec.length ≤ 65536 ∧ x.str.size ≤ 65536
theorem Bf.small {x : Thing} (h : Bf x) : Small x := ⟨h.1, by have := h.2.1; omega, by have := h.2.2; omega⟩
def ptr (b : Nat) : Value := .pointer (some ⟨b, 0, none⟩)
def pts (R : List Ro) : List Value := R.map fun r => ptr r.b
def ids (R : List Ro) : List Int := R.map Ro.id
theorem ids_length (R : List Ro) : (ids R).length = R.length := by simp [ids]
def roC (r : Ro) : Array Value := #[.int .u64 r.id, .int .i64 r.t.x.tag, .slice r.t.a r.t.x.vec.length r.t.c, .string r.t.x.str, r.v]
/-- two rows share nothing that turns -/
def Ap (r s : Ro) : Prop := r.b ≠ s.b ∧ ∀ i, r.v.ownBlock = some i → s.v.ownBlock ≠ some i
theorem Ap.symm {r s : Ro} (h : Ap r s) : Ap s r := ⟨fun e => h.1 e.symm, fun i e e2 => h.2 i e2 e⟩
/-- one row, of n's distances to P -/
structure Rx (w : World) (base : Nat) (n : Int) (T : Nat → Prop) (P : List At) (r : Ro) : Prop where
  blk : Blk w r.b 108 (roC r)
  low : base ≤ r.b
  ints : w.ownsRow base 3 1 r.v P.length (nv (fs n P r.t.x))
  vec : Vc w T r.t.a (iv r.t.x.vec)
  bf : Bf r.t.x
  wf : (Lit.int .u64 r.id).wf = true
  tb : T r.b
  tv : ∀ i, r.v.ownBlock = some i → T i
structure Tx (w : World) (base tb g mb : Nat) (n k most : Int) (T : Nat → Prop) (vP vR : Value) (P : List At) (R : List Ro) : Prop where
  blk : Blk w tb 95 #[.pointer (some ⟨g, 0, none⟩), .int .i64 most, vP, vR, .map (some mb)]
  mt : Mt w g n k
  gb : g < base
  piv : w.ownsRow base 35 3 vP P.length (ocs P)
  rows : w.ownsRow base 109 1 vR R.length (pts R)
  map : ∃ D, w.ownsMap Tryz.prog 32 (plainElem (H := Unit) Tryz.prog 3) mb R.length D ∧ Pl D (ids R)
  rx : ∀ r ∈ R, Rx w base n T P r
  vecP : ∀ p ∈ P, Vc w T p.a (iv p.x.vec)
  bP : ∀ p ∈ P, Bf p.x
  ap : R.Pairwise Ap
  nd : (ids R).Nodup
  low : ∀ i, T i → base ≤ i ∧ i < w.heap.size
  tt : T tb
  tm : T mb
  tP : ∀ i, vP.ownBlock = some i → T i
  tR : ∀ i, vR.ownBlock = some i → T i
section
variable {w w' : World} {base tb g mb : Nat} {n k most : Int} {T S : Nat → Prop} {vP vR : Value} {P : List At} {R : List Ro} {r : Ro}
theorem map_only {D : DataW Unit} {m : Nat} (h : w.ownsMap Tryz.prog 32 (plainElem (H := Unit) Tryz.prog 3) mb m D) (o : Only S w w') (hS : ¬ S mb) : w'.ownsMap Tryz.prog 32 (plainElem (H := Unit) Tryz.prog 3) mb m D := by
  have hlt := h.lt
  obtain ⟨es, clock, h1, h2⟩ := h
  exact ⟨es, clock, (o.block mb hlt hS).trans h1, h2⟩
theorem Rx.only (h : Rx w base n T P r) (o : Only S w w') (hS : ∀ i, T i → ¬ S i) : Rx w' base n T P r :=
  ⟨Blk.only h.blk o (hS _ h.tb), h.low, own_only h.ints o fun i e => hS i (h.tv i e), h.vec.only o fun i e _ => hS i e, h.bf, h.wf, h.tb, h.tv⟩
/-- a store, or a growing row, elsewhere in T -/
theorem Rx.turn (h : Rx w base n T P r) (o : Only S w w') (hb : ¬ S r.b) (hv : ∀ i, r.v.ownBlock = some i → ¬ S i) (hy : ∀ i, Ty w i 21 → ¬ S i) : Rx w' base n T P r :=
  ⟨Blk.only h.blk o hb, h.low, own_only h.ints o hv, h.vec.only o fun i _ e => hy i e, h.bf, h.wf, h.tb, h.tv⟩
theorem Rx.mono {T' : Nat → Prop} (h : Rx w base n T P r) (hT : ∀ i, T i → T' i) : Rx w base n T' P r :=
  ⟨h.blk, h.low, h.ints, h.vec.mono hT, h.bf, h.wf, hT _ h.tb, fun i e => hT i (h.tv i e)⟩
theorem Tx.only (h : Tx w base tb g mb n k most T vP vR P R) (o : Only S w w') (hS : ∀ i, (i = g ∨ T i) → ¬ S i) : Tx w' base tb g mb n k most T vP vR P R := by
  obtain ⟨D, h1, h2⟩ := h.map
  have hT : ∀ i, T i → ¬ S i := fun i e => hS i (.inr e)
  exact ⟨Blk.only h.blk o (hT _ h.tt), Blk.only h.mt o (hS g (.inl rfl)), h.gb, own_only h.piv o fun i e => hT i (h.tP i e), own_only h.rows o fun i e => hT i (h.tR i e), ⟨D, map_only h1 o (hT _ h.tm), h2⟩,
    fun r hr => (h.rx r hr).only o hT, fun p hp => (h.vecP p hp).only o fun i e _ => hT i e, h.bP, h.ap, h.nd, fun i e => ⟨(h.low i e).1, Nat.lt_of_lt_of_le (h.low i e).2 o.size⟩, h.tt, h.tm, h.tP, h.tR⟩
theorem Tx.below (h : Tx w base tb g mb n k most T vP vR P R) (o : Below w.heap.size w w') : Tx w' base tb g mb n k most T vP vR P R :=
  h.only (S := fun _ => False) (Only.of_below o (Nat.le_refl _) _) fun _ _ e => e
/-- the meter was asked -/
theorem Tx.asked {k' : Int} (h : Tx w base tb g mb n k most T vP vR P R) (o : Only (· = g) w w') (hm : Mt w' g n k') : Tx w' base tb g mb n k' most T vP vR P R := by
  obtain ⟨D, h1, h2⟩ := h.map
  have hT : ∀ i, T i → ¬ i = g := fun i e e2 => by have := (h.low i e).1; have := h.gb; omega
  exact ⟨Blk.only h.blk o (hT _ h.tt), hm, h.gb, own_only h.piv o fun i e => hT i (h.tP i e), own_only h.rows o fun i e => hT i (h.tR i e), ⟨D, map_only h1 o (hT _ h.tm), h2⟩,
    fun r hr => (h.rx r hr).only o hT, fun p hp => (h.vecP p hp).only o fun i e _ => hT i e, h.bP, h.ap, h.nd, fun i e => ⟨(h.low i e).1, Nat.lt_of_lt_of_le (h.low i e).2 o.size⟩, h.tt, h.tm, h.tP, h.tR⟩
theorem Tx.drewN (h : Tx w base tb g mb n k most T vP vR P R) (m : Nat) : Tx (w.drewN m) base tb g mb n k most T vP vR P R := h.only (S := fun _ => False) ((Only.refl _ w).drewN m) fun _ _ e => e
theorem Tx.base_le (h : Tx w base tb g mb n k most T vP vR P R) : base ≤ w.heap.size := by have := h.low _ h.tt; omega
theorem Tx.tbg (h : Tx w base tb g mb n k most T vP vR P R) : tb ≠ g := fun e => by have := (h.low _ h.tt).1; have := h.gb; omega
theorem Tx.cells (h : Tx w base tb g mb n k most T vP vR P R) : w.cell? ⟨tb, 0, none⟩ = some (.pointer (some ⟨g, 0, none⟩)) ∧ w.cell? ⟨tb, 1, none⟩ = some (.int .i64 most) ∧ w.cell? ⟨tb, 2, none⟩ = some vP ∧ w.cell? ⟨tb, 3, none⟩ = some vR ∧ w.cell? ⟨tb, 4, none⟩ = some (.map (some mb)) ∧ ∀ i, w.frozen? ⟨tb, i, none⟩ = false :=
  ⟨h.blk.cell 0, h.blk.cell 1, h.blk.cell 2, h.blk.cell 3, h.blk.cell 4, h.blk.frozen⟩
/-- the pivots as things that no turn of the meter reaches -/
theorem Tx.ts (h : Tx w base tb g mb n k most T vP vR P R) : ∃ A c, vP = .slice A P.length c ∧ P.length ≤ c ∧ Ts w (· = g) A P := by
  obtain ⟨A, c, e, hc⟩ := own_slice h.piv
  have hg := h.gb
  subst e
  refine ⟨A, c, rfl, hc, fun j u hj => ?_, fun p hp j u hj => ?_⟩
  · obtain ⟨a, e, hb, hcell⟩ := Sl.of_ownK h.piv j u hj
    refine ⟨a, e, hb, fun e2 => ?_, hcell⟩
    have h3 : (Value.slice A P.length c).ownBlock = some a.block := by rw [e]; rfl
    have := (h.low _ (h.tP _ h3)).1
    omega
  · obtain ⟨a, e, ht, hy, hc⟩ := h.vecP p hp j u hj
    refine ⟨a, e, hy.lt, fun e2 => ?_, hc⟩
    have := (h.low _ ht).1
    omega
end
/-! ### has -/
theorem intZ (w : World) : (zeroValue 3).run Tryz.prog w = .ok (.int .i64 0) w := by kernel_rfl
section
variable {w w' : World} {base tb g mb : Nat} {n k most : Int} {T S : Nat → Prop} {vP vR : Value} {P : List At} {R : List Ro} {r : Ro}
set_option maxHeartbeats 1600000 in
theorem has_any (h : Tx w base tb g mb n k most T vP vR P R) (id : Int) (hw : (Lit.int .u64 id).wf = true) :
    Calls Tryz.prog 57 #[.pointer (some ⟨tb, 0, none⟩), .int .u64 id] w fun e w' => e = .returned (.bool ((ids R).contains id)) ∧ Below w.heap.size w w' := by
  obtain ⟨D, h1, h2⟩ := h.map
  obtain ⟨-, -, -, -, c4, -⟩ := h.cells
  have hkey : keyOf Tryz.prog 32 (.int .u64 id) = some (.int .u64 id) := keyOf_int_mk Tryz.underlying32 hw
  have hh := h2.2.2.1 id
  obtain ⟨q, hq⟩ : ∃ q, (ids R).contains id = q := ⟨_, rfl⟩
  rw [hq] at hh ⊢
  have HH := Lib.hid hh
  clear h h2 hh hq
  go_enter Tryz.func57, Tryz.ntmps57
  go_wp2_with (at_lookup
               refine wpList_lookup_own_ok_int _ rfl _ _ 92 rfl 32 3 .i64 idx.mlaw Tryz.underlying92 Tryz.underlying3 (intZ _) mb R.length D rfl h1 _ _ rfl hkey ?_
               intro c hat hwc
               rw [show (Lit.int IntKind.u64 id) = ky id from rfl, HH.out])
  go_ret
  exact ⟨rfl, Below.refl _ _⟩
end
end Go.Proofs.YtgbjpobgjmkjgaaGreat.tab
