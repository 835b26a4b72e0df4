/-
  The contract of addPivot: a pivot more, from which each thing gets its distance.
-/
import Derived.Test.YtgbjpobgjmkjgaaGreatTbA
namespace Go.Proofs.YtgbjpobgjmkjgaaGreat.tab
open Go.RowKit Go.WideShapes law bytes only flat nums ord obj metric pv lae Go.Maps
open told (own_types blk_types)
set_option linter.unusedVariables false

/-- blocks of T, of X, or made since -/
def Mr (B : Nat) (T X : Nat → Prop) (w' : World) (i : Nat) : Prop := T i ∨ X i ∨ B ≤ i ∧ i < w'.heap.size
theorem Mr.mono {B : Nat} {T X : Nat → Prop} {w w' : World} (h : w.heap.size ≤ w'.heap.size) {i : Nat} (e : Mr B T X w i) : Mr B T X w' i := e.imp (fun e => e) fun e => e.imp (fun e => e) fun e => ⟨e.1, by omega⟩
/-- where a row's thing stands, and its block -/
def kk (r : Ro) : Int × At × Nat := (r.id, r.t, r.b)
/-- rows D have their distance from the new pivot, the others haven't -/
structure Mid (w : World) (base tb g mb : Nat) (n k most : Int) (T : Nat → Prop) (B : Nat) (X : Nat → Prop) (vP vR : Value) (P : List At) (x : At) (R : List Ro) (D : List Ro) (i : Nat) : Prop where
  blk : Blk w tb 95 #[.pointer (some ⟨g, 0, none⟩), .int .i64 most, vP, vR, .map (some mb)]
  mt : Mt w g n k
  gb : g < base
  piv : w.ownsRow base 35 3 vP (P.length + 1) (ocs P ++ oc x)
  rows : w.ownsRow base 109 1 vR R.length (pts R)
  map : ∃ D, w.ownsMap Tryz.prog 32 (plainElem (H := Unit) Tryz.prog 3) mb R.length D ∧ Pl D (ids R)
  il : i ≤ R.length
  keys : D.map kk = (R.take i).map kk
  done : ∀ r ∈ D, Rx w base n (Mr B T X w) (P ++ [x]) r
  todo : ∀ r ∈ R.drop i, Rx w base n T P r
  vecP : ∀ p ∈ P ++ [x], Vc w (Mr B T X w) p.a (iv p.x.vec)
  bP : ∀ p ∈ P ++ [x], Bf p.x
  ap : (D ++ R.drop i).Pairwise Ap
  nd : (ids R).Nodup
  low : ∀ i, T i → base ≤ i ∧ i < w.heap.size
  lowX : ∀ i, X i → base ≤ i ∧ i < w.heap.size
  baseB : base ≤ B
  tt : T tb
  tm : T mb
  tP : ∀ i, vP.ownBlock = some i → Mr B T X w i
  tR : ∀ i, vR.ownBlock = some i → T i
section
variable {w w' : World} {base tb g mb B i : Nat} {n k most : Int} {T S X : Nat → Prop} {vP vR : Value} {P : List At} {x : At} {R D : List Ro} {r : Ro} {A : Option Addr} {xs : List Value}
theorem keys_pts (h : D.map kk = R.map kk) : pts D = pts R := by
  have := congrArg (List.map fun q : Int × At × Nat => ptr q.2.2) h
  simpa [pts, kk, Function.comp_def] using this
theorem keys_ids (h : D.map kk = R.map kk) : ids D = ids R := by
  have := congrArg (List.map fun q : Int × At × Nat => q.1) h
  simpa [ids, kk, Function.comp_def] using this
theorem Mid.end_ (h : Mid w base tb g mb n k most T B X vP vR P x R D R.length) : Tx w base tb g mb n k most (Mr B T X w) vP vR (P ++ [x]) D ∧ D.map kk = R.map kk := by
  have hk := h.keys
  rw [List.take_length] at hk
  have hl : D.length = R.length := by simpa using congrArg List.length hk
  obtain ⟨D0, hm, hp⟩ := h.map
  have hap := h.ap
  rw [List.drop_length, List.append_nil] at hap
  have hpv := h.piv
  have e1 : ocs P ++ oc x = ocs (P ++ [x]) := by simp [ocs]
  rw [e1] at hpv
  refine ⟨⟨h.blk, h.mt, h.gb, by simpa using hpv, by rw [hl, keys_pts hk]; exact h.rows, ⟨D0, by rw [hl]; exact hm, by rw [keys_ids hk]; exact hp⟩, h.done, h.vecP, h.bP, hap, by rw [keys_ids hk]; exact h.nd, fun i e => ?_, .inl h.tt, .inl h.tm, h.tP, fun i e => .inl (h.tR i e)⟩, hk⟩
  rcases e with e | e | e
  · exact h.low i e
  · exact h.lowX i e
  · exact ⟨Nat.le_trans h.baseB e.1, e.2⟩
/-- what a round turns -/
def Rs (g : Nat) (r : Ro) (j : Nat) : Prop := j = g ∨ r.v.ownBlock = some j ∨ j = r.b
set_option maxHeartbeats 1600000 in
theorem Mid.round {w5 : World} {v4 : Value} (h : Mid w base tb g mb n k most T B X vP vR P x R D i) (hlt : i < R.length) (hr : R[i] = r) (ho : Only (Rs g r) w w5) (hblk : Blk w5 r.b 108 (roC { r with v := v4 }))
    (hints : w5.ownsRow base 3 1 v4 (P.length + 1) (nv (fs n P r.t.x) ++ [.int .i64 (M n r.t.x x.x)])) {k' : Int} (hm : Mt w5 g n k') (hv4 : v4.ownBlock = r.v.ownBlock ∨ ∃ j, v4.ownBlock = some j ∧ w.heap.size ≤ j) (hBw : B ≤ w.heap.size) :
    Mid w5 base tb g mb n k' most T B X vP vR P x R (D ++ [{ r with v := v4 }]) (i + 1) := by
  have hdrop : R.drop i = r :: R.drop (i + 1) := by rw [List.drop_eq_getElem_cons hlt, hr]
  have hap := h.ap
  rw [hdrop] at hap
  have htd := h.todo
  rw [hdrop] at htd
  have hrx := htd r (by simp)
  have s1 := ho.size
  have hgb := h.gb
  have hTm : ∀ j, Mr B T X w j → base ≤ j := fun j e => by
    rcases e with e | e | e
    · exact (h.low j e).1
    · exact (h.lowX j e).1
    · exact Nat.le_trans h.baseB e.1
  have hup : ∀ j, Mr B T X w j → Mr B T X w5 j := fun j e => e.mono s1
  -- what isn't turned
  have hty : ∀ j t, Rs g r j → base ≤ j → Ty w j t → t = 3 ∨ t = 108 := fun j t e hb hy => by
    rcases e with e | e | e
    · omega
    · exact .inl (hy.one (Ty.own hrx.ints e))
    · subst e; exact .inr (hy.one (Ty.blk hrx.blk))
  have hvec : ∀ (T0 : Nat → Prop) A xs, (∀ j, T0 j → base ≤ j) → Vc w T0 A xs → Vc w5 T0 A xs := fun T0 A xs hT0 hv => hv.only ho fun j e hy e2 => by
    rcases hty j _ e2 (hT0 j e) hy with e3 | e3 <;> exact absurd e3 (by decide)
  have hother : ∀ (P0 : List At) (T0 : Nat → Prop) (s : Ro), (∀ j, T0 j → base ≤ j) → Ap r s → Rx w base n T0 P0 s → Rx w5 base n T0 P0 s := fun P0 T0 s hT0 ha hs => by
    have hb1 := hs.low
    refine ⟨Blk.only hs.blk ho fun e => ?_, hs.low, own_only hs.ints ho fun j e e2 => ?_, hvec T0 _ _ hT0 hs.vec, hs.bf, hs.wf, hs.tb, hs.tv⟩
    · rcases e with e | e | e
      · omega
      · exact absurd ((Ty.own hrx.ints e).one (Ty.blk hs.blk)) (by decide)
      · exact ha.1 e.symm
    · have hj := (own_lt hs.ints e).1
      rcases e2 with e2 | e2 | e2
      · omega
      · exact ha.2 j e2 e
      · subst e2
        exact absurd ((Ty.own hs.ints e).one (Ty.blk hrx.blk)) (by decide)
  obtain ⟨apD, apR, apX⟩ := List.pairwise_append.1 hap
  obtain ⟨apr, apR2⟩ := List.pairwise_cons.1 apR
  have hTb : ∀ j, T j → base ≤ j := fun j e => (h.low j e).1
  have hnt : ∀ {t : TypeId} {j : Nat}, base ≤ j → Ty w j t → t ≠ 3 → t ≠ 108 → ¬ Rs g r j := fun {t j} hb hy h1 h2 e => by
    rcases hty j t e hb hy with e3 | e3
    · exact h1 e3
    · exact h2 e3
  obtain ⟨D0, hmap, hpl⟩ := h.map
  have hmbr : ¬ Rs g r mb := fun e => by
    rcases e with e | e | e
    · have := (h.low _ h.tm).1; omega
    · exact Ty.map hmap (Ty.own hrx.ints e)
    · exact Ty.map hmap (e ▸ Ty.blk hrx.blk)
  have hv4n : ∀ s : Ro, Ap r s → (∀ j, s.v.ownBlock = some j → j < w.heap.size) → ∀ j, v4.ownBlock = some j → s.v.ownBlock ≠ some j := fun s ha hs j e e2 => by
    rcases hv4 with e3 | ⟨j', e3, hj⟩
    · exact ha.2 j (by rw [← e3]; exact e) e2
    · rw [e3] at e
      injection e with e
      have := hs j e2
      omega
  refine ⟨Blk.only h.blk ho (hnt (h.low _ h.tt).1 (Ty.blk h.blk) (by decide) (by decide)), hm, hgb, own_only h.piv ho fun j e => hnt (own_lt h.piv e).1 (Ty.own h.piv e) (by decide) (by decide),
    own_only h.rows ho fun j e => hnt (own_lt h.rows e).1 (Ty.own h.rows e) (by decide) (by decide), ⟨D0, map_only hmap ho hmbr, hpl⟩, hlt, ?_, ?_, ?_, ?_, h.bP, ?_, h.nd, fun j e => ⟨(h.low j e).1, by have := (h.low j e).2; omega⟩, fun j e => ⟨(h.lowX j e).1, by have := (h.lowX j e).2; omega⟩, h.baseB, h.tt, h.tm, fun j e => hup j (h.tP j e), h.tR⟩
  · rw [List.map_append, h.keys, List.take_succ_eq_append_getElem hlt, List.map_append, hr]
    rfl
  · intro s hs
    rcases List.mem_append.1 hs with hs | hs
    · exact (hother _ _ s hTm (apX s hs r (by simp)).symm (h.done s hs)).mono hup
    · simp only [List.mem_singleton] at hs
      subst hs
      refine ⟨hblk, hrx.low, ?_, (hvec T _ _ hTb hrx.vec).mono fun j e => .inl e, hrx.bf, hrx.wf, .inl hrx.tb, fun j e => ?_⟩
      · have e1 : nv (fs n (P ++ [x]) r.t.x) = nv (fs n P r.t.x) ++ [.int .i64 (M n r.t.x x.x)] := by rw [fs_snoc, nv_snoc]
        show w5.ownsRow base 3 1 v4 (P ++ [x]).length (nv (fs n (P ++ [x]) r.t.x))
        rw [e1, List.length_append]
        exact hints
      · rcases hv4 with e3 | ⟨j', e3, hj⟩
        · exact .inl (hrx.tv j (by rw [← e3]; exact e))
        · have h3 : v4.ownBlock = some j := e
          have hl := (own_lt hints h3).2
          rw [e3] at h3
          injection h3 with h3
          exact .inr (.inr ⟨by omega, hl⟩)
  · exact fun s hs => hother _ _ s hTb (apr s hs) (htd s (by simp [hs]))
  · exact fun p hp => (hvec _ _ _ hTm (h.vecP p hp)).mono hup
  · rw [List.append_assoc, List.singleton_append]
    have hlD : ∀ s ∈ D, ∀ j, s.v.ownBlock = some j → j < w.heap.size := fun s hs j e => (own_lt (h.done s hs).ints e).2
    have hlR : ∀ s ∈ R.drop (i + 1), ∀ j, s.v.ownBlock = some j → j < w.heap.size := fun s hs j e => (own_lt (htd s (by simp [hs])).ints e).2
    refine List.pairwise_append.2 ⟨apD, List.pairwise_cons.2 ⟨fun s hs => ⟨(apr s hs).1, fun j e => hv4n s (apr s hs) (hlR s hs) j e⟩, apR2⟩, fun a ha b hb => ?_⟩
    rcases List.mem_cons.1 hb with hb | hb
    · subst hb
      have har := (apX a ha r (by simp)).symm
      exact Ap.symm ⟨har.1, fun j e => hv4n a har (hlD a ha) j e⟩
    · exact apX a ha b (by simp [hb])
end
end Go.Proofs.YtgbjpobgjmkjgaaGreat.tab
