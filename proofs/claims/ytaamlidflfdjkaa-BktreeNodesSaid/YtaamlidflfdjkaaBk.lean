/-
  A tree in memory: its struct, its nodes, their kids, its two maps; kept by what leaves its blocks alone.
-/
import Derived.Test.YtaamlidflfdjkaaBkK
import Derived.Test.YtaamlidflfdjkaaTy
import Derived.Test.YtaamlidflfdjkaaGTold
import Derived.Test.YtaamlidflfdjkaaIdT
import Derived.Test.YtaamlidflfdjkaaGLib
import Derived.Test.YtaamlidflfdjkaaGMet
namespace Go.Proofs.Ytaamlidflfdjkaa.bk
open Go.RowKit Go.WideShapes law bytes only flat nums ord obj metric tab
open told (own_types blk_types)
open Go.Maps Go.ChangeAt
set_option linter.unusedVariables false

def kv (l : List Nat) : List Value := l.map fun k : Nat => .int .i64 (k : Int)
theorem kv_length (l : List Nat) : (kv l).length = l.length := by simp [kv]
theorem kv_snoc (l : List Nat) (k : Nat) : kv (l ++ [k]) = kv l ++ [.int .i64 (k : Int)] := by simp [kv]
/-- a thing by value -/
def oW (p : At) : Value := .agg #[.int .i64 p.x.tag, .slice p.a p.x.vec.length p.c, .string p.x.str]
/-- a node in memory: also its kids, and the row that they stand in -/
structure Nd where
  id : Int
  t : At
  gone : Bool
  par : Int
  edge : Int
  ks : List Nat
  v : Value
def bn (d : Nd) : Bn := ⟨d.id, d.t.x, d.gone, d.par, d.edge⟩
def ndC (d : Nd) : List Value := [.int .u64 d.id, .int .i64 d.t.x.tag, .slice d.t.a d.t.x.vec.length d.t.c, .string d.t.x.str, .bool d.gone, .int .i64 d.par, .int .i64 d.edge, d.v]
theorem ndC_len (d : Nd) : (ndC d).length = 8 := rfl
structure Nx (w : World) (base : Nat) (T : Nat → Prop) (d : Nd) : Prop where
  ints : w.ownsRow base 3 1 d.v d.ks.length (kv d.ks)
  vec : Vc w T d.t.a (iv d.t.x.vec)
  bf : Bf d.t.x
  wf : (Lit.int .u64 d.id).wf = true
  tv : ∀ i, d.v.ownBlock = some i → T i
def Apn (d e : Nd) : Prop := ∀ i, d.v.ownBlock = some i → e.v.ownBlock ≠ some i
theorem Apn.symm {d e : Nd} (h : Apn d e) : Apn e d := fun i h1 h2 => h i h2 h1
structure Bm (w : World) (base tb g hb pb mh mp : Nat) (n k : Int) (T : Nat → Prop) (vN : Value) (N : List Nd) (DH DP : DataW Unit) : Prop where
  blk : Blk w tb 72 #[.pointer (some ⟨g, 0, none⟩), vN, .map (some hb), .map (some pb)]
  mt : Mt w g n k
  gb : g < base
  row : w.ownsRow base 82 8 vN N.length (N.flatMap ndC)
  hm : w.ownsMap Try.prog 97 (plainElem (H := Unit) Try.prog 3) hb mh DH
  pm : w.ownsMap Try.prog 33 (plainElem (H := Unit) Try.prog 3) pb mp DP
  hp : hb ≠ pb
  nx : ∀ d ∈ N, Nx w base T d
  ap : N.Pairwise Apn
  low : ∀ i, T i → base ≤ i ∧ i < w.heap.size
  tt : T tb
  th : T hb
  tp : T pb
  tN : ∀ i, vN.ownBlock = some i → T i
/-- what a tree's maps and kids tell -/
structure Lg (n : Int) (N : List Nd) (DH DP : DataW Unit) : Prop where
  hk : Hk DH (N.map bn)
  pm : Pm DP (N.map bn)
  tree : Tree n (N.map bn)
  ul : Ul (N.map bn)
  kids : ∀ i d, N[i]? = some d → d.ks = kds (N.map bn) i
def Bx (w : World) (base tb g : Nat) (n k : Int) (T : Nat → Prop) (N : List Nd) : Prop :=
  ∃ hb pb mh mp vN DH DP, Bm w base tb g hb pb mh mp n k T vN N DH DP ∧ Lg n N DH DP ∧ mh ≤ N.length ∧ mp ≤ N.length

theorem map_only {k : TypeId} {D : DataW Unit} {b m : Nat} {S : Nat → Prop} {w w' : World} (h : w.ownsMap Try.prog k (plainElem (H := Unit) Try.prog 3) b m D) (o : Only S w w') (hS : ¬ S b) : w'.ownsMap Try.prog k (plainElem (H := Unit) Try.prog 3) b m D := by
  have hlt := h.lt
  obtain ⟨es, clock, h1, h2⟩ := h
  exact ⟨es, clock, (o.block b hlt hS).trans h1, h2⟩
/-- blocks of cells of one type -/
def Cl (w : World) (S : Nat → Prop) (t : TypeId) : Prop := ∀ i, S i → Ty w i t
section
variable {w w' : World} {base tb g hb pb mh mp : Nat} {n k : Int} {T S : Nat → Prop} {vN : Value} {N : List Nd} {DH DP : DataW Unit} {d : Nd} {t t' : TypeId} {A : Option Addr} {xs : List Value}
theorem Cl.off (h : Cl w S t) (hn : t ≠ t') {i : Nat} (hi : Ty w i t') : ¬ S i := fun e => hn ((h i e).one hi)
theorem Cl.row {v : Value} {m j : Nat} (h : w.ownsRow base t j v m xs) : Cl w (fun i => v.ownBlock = some i) t := fun i e => Ty.own h e
theorem Cl.blk {cs : Array Value} {b : Nat} (h : Blk w b t cs) : Cl w (· = b) t := fun i e => by subst e; exact Ty.blk h
theorem Cl.mapOff {k : TypeId} {D : DataW Unit} {b m : Nat} {R : Value → Option (DataW Unit × List MemPlace)} (h : Cl w S t) (hm : w.ownsMap Try.prog k R b m D) : ¬ S b := fun e => Ty.map hm (h b e)
theorem Nx.cl (h : Nx w base T d) (o : Only S w w') (hS : Cl w S t) (h1 : t ≠ 3) (h2 : t ≠ 21) : Nx w' base T d :=
  ⟨own_only h.ints o fun i e => hS.off h1 (Ty.own h.ints e), h.vec.only o fun i _ e => hS.off h2 e, h.bf, h.wf, h.tv⟩
theorem Nx.only (h : Nx w base T d) (o : Only S w w') (hS : ∀ i, T i → ¬ S i) : Nx w' base T d :=
  ⟨own_only h.ints o fun i e => hS i (h.tv i e), h.vec.only o fun i e _ => hS i e, h.bf, h.wf, h.tv⟩
theorem Nx.map (h : Nx w base T d) (o : Only S w w') (hS : ∀ i, S i → ∀ t, ¬ Ty w i t) : Nx w' base T d :=
  ⟨own_only h.ints o fun i e e2 => hS i e2 _ (Ty.own h.ints e), h.vec.only o fun i _ e e2 => hS i e2 _ e, h.bf, h.wf, h.tv⟩
theorem Nx.mono {T' : Nat → Prop} (h : Nx w base T d) (hT : ∀ i, T i → T' i) : Nx w base T' d := ⟨h.ints, h.vec.mono hT, h.bf, h.wf, fun i e => hT i (h.tv i e)⟩
theorem Bm.only (h : Bm w base tb g hb pb mh mp n k T vN N DH DP) (o : Only S w w') (hS : ∀ i, (i = g ∨ T i) → ¬ S i) : Bm w' base tb g hb pb mh mp n k T vN N DH DP := by
  have hT : ∀ i, T i → ¬ S i := fun i e => hS i (.inr e)
  exact ⟨Blk.only h.blk o (hT _ h.tt), Blk.only h.mt o (hS g (.inl rfl)), h.gb, own_only h.row o fun i e => hT i (h.tN i e), map_only h.hm o (hT _ h.th), map_only h.pm o (hT _ h.tp), h.hp,
    fun d hd => (h.nx d hd).only o hT, h.ap, fun i e => ⟨(h.low i e).1, Nat.lt_of_lt_of_le (h.low i e).2 o.size⟩, h.tt, h.th, h.tp, h.tN⟩
theorem Bm.asked {k' : Int} (h : Bm w base tb g hb pb mh mp n k T vN N DH DP) (o : Only (· = g) w w') (hm : Mt w' g n k') : Bm w' base tb g hb pb mh mp n k' T vN N DH DP := by
  have hT : ∀ i, T i → ¬ i = g := fun i e e2 => by have := (h.low i e).1; have := h.gb; omega
  exact ⟨Blk.only h.blk o (hT _ h.tt), hm, h.gb, own_only h.row o fun i e => hT i (h.tN i e), map_only h.hm o (hT _ h.th), map_only h.pm o (hT _ h.tp), h.hp,
    fun d hd => (h.nx d hd).only o hT, h.ap, fun i e => ⟨(h.low i e).1, Nat.lt_of_lt_of_le (h.low i e).2 o.size⟩, h.tt, h.th, h.tp, h.tN⟩
theorem Bm.below (h : Bm w base tb g hb pb mh mp n k T vN N DH DP) (o : Below w.heap.size w w') : Bm w' base tb g hb pb mh mp n k T vN N DH DP :=
  h.only (S := fun _ => False) (Only.of_below o (Nat.le_refl _) _) fun _ _ e => e
theorem Bm.cells (h : Bm w base tb g hb pb mh mp n k T vN N DH DP) : w.cell? ⟨tb, 0, none⟩ = some (.pointer (some ⟨g, 0, none⟩)) ∧ w.cell? ⟨tb, 1, none⟩ = some vN ∧ w.cell? ⟨tb, 2, none⟩ = some (.map (some hb)) ∧ w.cell? ⟨tb, 3, none⟩ = some (.map (some pb)) ∧ ∀ i, w.frozen? ⟨tb, i, none⟩ = false :=
  ⟨h.blk.cell 0, h.blk.cell 1, h.blk.cell 2, h.blk.cell 3, h.blk.frozen⟩
theorem Bm.tbg (h : Bm w base tb g hb pb mh mp n k T vN N DH DP) : tb ≠ g := fun e => by have := (h.low _ h.tt).1; have := h.gb; omega
theorem Bm.base_le (h : Bm w base tb g hb pb mh mp n k T vN N DH DP) : base ≤ w.heap.size := by have := h.low _ h.tt; omega
/-- the row's place, and its cells -/
theorem Bm.place (h : Bm w base tb g hb pb mh mp n k T vN N DH DP) (h0 : 0 < N.length) : ∃ rb c, vN = .slice (some ⟨rb, 0, none⟩) N.length c ∧ T rb ∧ rb < w.heap.size ∧ rb ≠ g ∧ rb ≠ tb ∧ (∀ j, w.frozen? ⟨rb, j, none⟩ = false) ∧
    ∀ (i : Nat) (hi : i < N.length) (j : Nat), j < 8 → w.cell? ⟨rb, i * 8 + j, none⟩ = (ndC N[i])[j]? := by
  obtain ⟨rb, c, rfl, h1, h2, h3⟩ := own_form h.row h0
  have hT := h.tN rb rfl
  refine ⟨rb, c, rfl, hT, h2, fun e => ?_, fun e => ?_, fun j => ?_, fun i hi j hj => own_cellK h.row ndC_len (Nat.le_refl _) i j hi hj⟩
  · have := (h.low _ hT).1
    have := h.gb
    omega
  · subst e
    have := (Ty.own h.row (g := rb) rfl).one (Ty.blk h.blk)
    exact absurd this (by decide)
  · have hr := h.row
    exact World.ownsRow.frozenAt hr j
theorem Bx.only (h : Bx w base tb g n k T N) (o : Only S w w') (hS : ∀ i, (i = g ∨ T i) → ¬ S i) : Bx w' base tb g n k T N := by
  obtain ⟨hb, pb, mh, mp, vN, DH, DP, h1, h2⟩ := h
  exact ⟨hb, pb, mh, mp, vN, DH, DP, h1.only o hS, h2⟩
theorem Bx.asked {k' : Int} (h : Bx w base tb g n k T N) (o : Only (· = g) w w') (hm : Mt w' g n k') : Bx w' base tb g n k' T N := by
  obtain ⟨hb, pb, mh, mp, vN, DH, DP, h1, h2⟩ := h
  exact ⟨hb, pb, mh, mp, vN, DH, DP, h1.asked o hm, h2⟩
theorem Bx.below (h : Bx w base tb g n k T N) (o : Below w.heap.size w w') : Bx w' base tb g n k T N :=
  h.only (S := fun _ => False) (Only.of_below o (Nat.le_refl _) _) fun _ _ e => e
theorem Bx.mt (h : Bx w base tb g n k T N) : Mt w g n k := by
  obtain ⟨hb, pb, mh, mp, vN, DH, DP, h1, h2⟩ := h
  exact h1.mt
theorem Bx.gb (h : Bx w base tb g n k T N) : g < base := by
  obtain ⟨hb, pb, mh, mp, vN, DH, DP, h1, h2⟩ := h
  exact h1.gb
theorem Bx.low (h : Bx w base tb g n k T N) : ∀ i, T i → base ≤ i ∧ i < w.heap.size := by
  obtain ⟨hb, pb, mh, mp, vN, DH, DP, h1, h2⟩ := h
  exact h1.low
theorem Bx.tt (h : Bx w base tb g n k T N) : T tb := by
  obtain ⟨hb, pb, mh, mp, vN, DH, DP, h1, h2⟩ := h
  exact h1.tt
theorem Bx.tree (h : Bx w base tb g n k T N) : Tree n (N.map bn) := by
  obtain ⟨hb, pb, mh, mp, vN, DH, DP, h1, h2, _⟩ := h
  exact h2.tree
theorem Bx.bf (h : Bx w base tb g n k T N) : ∀ b ∈ N.map bn, Bf b.x := by
  obtain ⟨hb, pb, mh, mp, vN, DH, DP, h1, h2, _⟩ := h
  intro b hb
  obtain ⟨d, hd, rfl⟩ := List.mem_map.1 hb
  exact (h1.nx d hd).bf
end
end Go.Proofs.Ytaamlidflfdjkaa.bk
