/-
  The contract of within: the next thing, if it isn't farther; of the nodes ahead of it, those are opened that stand first.
-/
import Derived.Test.YtjahgiplaogmlaaFrN
namespace Go.Proofs.Ytjahgiplaogmlaa.fro
open Go.RowKit law bytes only flat heapM Go.Sort Go.Shelf
set_option linter.unusedVariables false

section
variable {σ : Type} (F : Value) (base wb hb : Nat) (T TO : Nat → Prop) (J : σ → World → Prop) (beh : σ → Int → List Ent) (nxt : σ → Int → σ) (s : σ) (d : Array Ent) (o : Nat) (w : World)
/-- what within leaves: behind a run of opened nodes, the first thing is told and goes, or what is left is farther -/
def Within (r : Int) (e : Ending) (w' : World) : Prop := ∃ k s1 l1, Run beh nxt s d.toList k s1 l1 ∧ J s1 w' ∧
  ((∃ x rest, First x l1 ∧ nd x = false ∧ x.1 ≤ r ∧ l1.Perm (x :: rest) ∧ e = .returned (.tuple #[.agg #[.int .u64 x.2.2, .int .i64 x.1], .bool true]) ∧ ∃ d', d'.toList.Perm rest ∧ Left base wb hb F T TO w w' d' (o + k)) ∨
   ((∀ x ∈ l1, r < x.1) ∧ e = .returned (.tuple #[.agg #[.int .u64 0, .int .i64 0], .bool false]) ∧ ∃ d', d'.toList.Perm l1 ∧ Left base wb hb F T TO w w' d' (o + k)))
/-- within's memory ahead of a round -/
def WiS (k : Nat) (s1 : σ) (d1 : Array Ent) (wr : World) : Prop :=
  ∃ T', Wk wr base wb hb T' F d1 (o + k) ∧ Run beh nxt s d.toList k s1 d1.toList ∧ Only (fun i => T i ∨ TO i) w wr ∧ (∀ i, T' i → T i ∨ w.heap.size ≤ i) ∧ Blk wr w.heap.size 37 #[.int .u64 0, .int .i64 0] ∧ ¬ T' w.heap.size ∧ J s1 wr
/-- .. behind Pop -/
def PoS (c : Nat) (x : Ent) (k : Nat) (s1 : σ) (d1 : Array Ent) (wr : World) : Prop :=
  ∃ T' d2, Wk wr base wb hb T' F d2 (o + k) ∧ (x :: d2.toList).Perm d1.toList ∧ First x d1.toList ∧ Run beh nxt s d.toList k s1 d1.toList ∧ Only (fun i => T i ∨ TO i) w wr ∧ (∀ i, T' i → T i ∨ w.heap.size ≤ i) ∧ Blk wr w.heap.size 37 #[.int .u64 0, .int .i64 0] ∧ ¬ T' w.heap.size ∧ J s1 wr ∧
    Blk wr c 44 #[.int .i64 x.1, .int .i64 x.2.1, .int .u64 x.2.2]
end
section
variable {σ : Type} {F : Value} {base wb hb o k c : Nat} {T TO : Nat → Prop} {J : σ → World → Prop} {N : Int → Prop} {beh : σ → Int → List Ent} {nxt : σ → Int → σ} {wt : Int → Nat} {d d1 : Array Ent} {s s1 : σ} {w wr W : World} {x : Ent} {r : Int}
theorem WiS.below (H : Op F base TO J N beh nxt wt) (h : WiS F base wb hb T TO J beh nxt s d o w k s1 d1 wr) (hb' : Below wr.heap.size wr W) : WiS F base wb hb T TO J beh nxt s d o w k s1 d1 W := by
  obtain ⟨T', h1, h2, h3, h4, h5, h6, h7⟩ := h
  exact ⟨T', h1.below hb', h2, h3.on hb', h4, h5.below hb' h5.lt, h6, H.keep _ _ _ h7 (hb'.mono h1.base_le)⟩
theorem PoS.below (H : Op F base TO J N beh nxt wt) (h : PoS F base wb hb T TO J beh nxt s d o w c x k s1 d1 wr) (hb' : Below wr.heap.size wr W) : PoS F base wb hb T TO J beh nxt s d o w c x k s1 d1 W := by
  obtain ⟨T', d2, h1, h2, h3, h4, h5, h6, h7, h8, h9, h10⟩ := h
  exact ⟨T', d2, h1.below hb', h2, h3, h4, h5.on hb', h6, h7.below hb' h7.lt, h8, H.keep _ _ _ h9 (hb'.mono h1.base_le), h10.below hb' h10.lt⟩
/-- nothing left, or farther -/
theorem WiS.out_ (H : Op F base TO J N beh nxt wt) (hbw : base ≤ w.heap.size) (h : WiS F base wb hb T TO J beh nxt s d o w k s1 d1 wr) (hx : ∀ x ∈ d1.toList, r < x.1) :
    (wr.cell? ⟨w.heap.size, 0, none⟩ = some (.int .u64 0) ∧ wr.cell? ⟨w.heap.size, 1, none⟩ = some (.int .i64 0) ∧ wr.frozen? ⟨w.heap.size, 0, none⟩ = false ∧ wr.frozen? ⟨w.heap.size, 1, none⟩ = false) ∧
    ∀ V, V = (wr.setCell ⟨w.heap.size, 0, none⟩ (.int .u64 0)).setCell ⟨w.heap.size, 1, none⟩ (.int .i64 0) → (V.cell? ⟨w.heap.size, 0, none⟩ = some (.int .u64 0) ∧ V.cell? ⟨w.heap.size, 1, none⟩ = some (.int .i64 0)) ∧
      Within F base wb hb T TO J beh nxt s d o w r (.returned (.tuple #[.agg #[.int .u64 0, .int .i64 0], .bool false])) V := by
  obtain ⟨T', h1, h2, h3, h4, h5, h6, h7⟩ := h
  refine ⟨⟨h5.cell 0, h5.cell 1, h5.frozen 0, h5.frozen 1⟩, fun V hV => ?_⟩
  have b1 := (h5.set_ 0 (.int .u64 0)).set_ 1 (.int .i64 0)
  rw [← hV] at b1
  have hbs := h1.base_le
  have ho : Only (· = w.heap.size) wr V := by rw [hV]; exact Only.setCell (S := (· = w.heap.size)) (p := ⟨w.heap.size, 1, none⟩) (Only.setCell (S := (· = w.heap.size)) (p := ⟨w.heap.size, 0, none⟩) (Only.refl _ _) (.inl rfl) _) (.inl rfl) _
  refine ⟨⟨b1.cell 0, b1.cell 1⟩, k, s1, d1.toList, h2, H.keep _ _ _ h7 (ho.below (Nat.le_trans hbw h3.size) fun i e => by rw [e]; exact hbw), .inr ⟨hx, rfl, d1, List.Perm.refl _, T', h1.only ho fun i e e2 => h6 (e2 ▸ e), h3.trans ho fun i e => .inr (Nat.le_of_eq e.symm), h4⟩⟩
/-- Pop ahead of which the first one was copied into block c -/
theorem WiS.pop (H : Op F base TO J N beh nxt wt) (hbw : base ≤ w.heap.size) (h : WiS F base wb hb T TO J beh nxt s d o w k s1 d1 wr) (h0 : 0 < d1.size) (hsz : d1.size < 2305843009213693952) (hc : Blk wr c 44 #[.int .i64 d1[0]!.1, .int .i64 d1[0]!.2.1, .int .u64 d1[0]!.2.2]) (hcl : ∀ i T' , Wk wr base wb hb T' F d1 (o + k) → T' i → i ≠ c) :
    Calls Try.prog 22 #[.pointer (some ⟨hb, 0, none⟩)] wr fun e w' => e = .returned (.tuple #[tE d1[0]!, .bool true]) ∧ PoS F base wb hb T TO J beh nxt s d o w c d1[0]! k s1 d1 w' := by
  obtain ⟨T', h1, h2, h3, h4, h5, h6, h7⟩ := h
  refine (pop_wk h1 h0 hsz).mono ?_
  rintro e w' ⟨rfl, d2, ⟨T2, k1, k2, k3⟩, k4⟩
  have hoT : Only T' wr w' := k2.mono fun i e => e.elim .inl False.elim
  have hsw := h3.size
  refine ⟨rfl, T2, d2, k1, k4, first_top h1.heap h0, h2, h3.trans hoT fun i e => (h4 i e).imp .inl id, fun i e => ?_, Blk.only h5 hoT h6, fun e => ?_, H.keep _ _ _ h7 (hoT.below h1.base_le fun i e => (h1.low i e).1), Blk.only hc hoT fun e => hcl _ _ h1 e rfl⟩
  · rcases k3 i e with e2 | e2
    · exact h4 i e2
    · exact .inr (by omega)
  · rcases k3 _ e with e2 | e2
    · exact h6 e2
    · have := h5.lt; omega
/-- the first one is a thing -/
theorem PoS.thing (H : Op F base TO J N beh nxt wt) (hbw : base ≤ w.heap.size) (h : PoS F base wb hb T TO J beh nxt s d o w c x k s1 d1 wr) (hx : nd x = false) (hr : x.1 ≤ r) :
    (wr.cell? ⟨c, 0, none⟩ = some (.int .i64 x.1) ∧ wr.cell? ⟨c, 2, none⟩ = some (.int .u64 x.2.2)) ∧
    (wr.cell? ⟨w.heap.size, 0, none⟩ = some (.int .u64 0) ∧ wr.cell? ⟨w.heap.size, 1, none⟩ = some (.int .i64 0) ∧ wr.frozen? ⟨w.heap.size, 0, none⟩ = false ∧ wr.frozen? ⟨w.heap.size, 1, none⟩ = false) ∧
    ∀ V, V = (wr.setCell ⟨w.heap.size, 0, none⟩ (.int .u64 x.2.2)).setCell ⟨w.heap.size, 1, none⟩ (.int .i64 x.1) → (V.cell? ⟨w.heap.size, 0, none⟩ = some (.int .u64 x.2.2) ∧ V.cell? ⟨w.heap.size, 1, none⟩ = some (.int .i64 x.1)) ∧
      Within F base wb hb T TO J beh nxt s d o w r (.returned (.tuple #[.agg #[.int .u64 x.2.2, .int .i64 x.1], .bool true])) V := by
  obtain ⟨T', d2, h1, hp, hf, h2, h3, h4, h5, h6, h7, h8⟩ := h
  refine ⟨⟨h8.cell 0, h8.cell 2⟩, ⟨h5.cell 0, h5.cell 1, h5.frozen 0, h5.frozen 1⟩, fun V hV => ?_⟩
  have b1 := (h5.set_ 0 (.int .u64 x.2.2)).set_ 1 (.int .i64 x.1)
  rw [← hV] at b1
  have ho : Only (· = w.heap.size) wr V := by rw [hV]; exact Only.setCell (S := (· = w.heap.size)) (p := ⟨w.heap.size, 1, none⟩) (Only.setCell (S := (· = w.heap.size)) (p := ⟨w.heap.size, 0, none⟩) (Only.refl _ _) (.inl rfl) _) (.inl rfl) _
  exact ⟨⟨b1.cell 0, b1.cell 1⟩, k, s1, d1.toList, h2, H.keep _ _ _ h7 (ho.below (Nat.le_trans hbw h3.size) fun i e => by rw [e]; exact hbw), .inl ⟨x, d2.toList, hf, hx, hr, hp.symm, rfl, d2, List.Perm.refl _, T', h1.only ho fun i e e2 => h6 (e2 ▸ e), h3.trans ho fun i e => .inr (Nat.le_of_eq e.symm), h4⟩⟩
/-- .. a node, which is entered -/
theorem PoS.node (H : Op F base TO J N beh nxt wt) (hbw : base ≤ w.heap.size) (h : PoS F base wb hb T TO J beh nxt s d o w c x k s1 d1 wr) (hx : nd x = true) (h0 : Nds N d.toList) (hsz : wsum wt d.toList + o ≤ 1099511627776) :
    Calls Try.prog 24 #[.pointer (some ⟨wb, 0, none⟩), tE x] wr fun e w' => e = .returned (.tuple #[]) ∧ ∃ d3, WiS F base wb hb T TO J beh nxt s d o w (k + 1) (nxt s1 x.2.1) d3 w' ∧ wsum wt d3.toList < wsum wt d1.toList := by
  obtain ⟨T', d2, h1, hp, hf, h2, h3, h4, h5, h6, h7, h8⟩ := h
  obtain ⟨k1, k2⟩ := h2.keeps H.next H.less h0
  have hN : N x.2.1 := k1 x (hp.subset (List.mem_cons_self ..)) (by simpa [nd] using hx)
  have hw := wsum_perm (wt := wt) hp
  rw [wsum_cons] at hw
  have hl := H.less s1 _ hN
  refine (enter_any H h1 h7 x (by simpa [nd] using hx) hN (by omega)).mono ?_
  rintro e w' ⟨rfl, d3, ⟨T2, j1, j2, j3⟩, j4, j5⟩
  have hnO : ¬ (T' w.heap.size ∨ TO w.heap.size) := fun e => e.elim h6 fun e => by have := H.low _ e; omega
  refine ⟨rfl, d3, ⟨T2, j1, h2.step hf hx hp.symm j4, h3.trans j2 fun i e => ?_, fun i e => ?_, Blk.only h5 j2 hnO, fun e => ?_, j5⟩, ?_⟩
  · rcases e with e | e
    · exact (h4 i e).imp .inl id
    · exact .inl (.inr e)
  · rcases j3 i e with e2 | e2
    · exact h4 i e2
    · exact .inr (Nat.le_trans h3.size e2)
  · rcases j3 _ e with e2 | e2
    · exact h6 e2
    · have := h5.lt; omega
  · have := wsum_perm (wt := wt) j4
    rw [wsum_append, wsum_lift] at this
    omega
theorem Within.below (H : Op F base TO J N beh nxt wt) (hbw : base ≤ w.heap.size) {e : Ending} (h : Within F base wb hb T TO J beh nxt s d o w r e wr) (hb' : Below wr.heap.size wr W) (hw : w.heap.size ≤ wr.heap.size) : Within F base wb hb T TO J beh nxt s d o w r e W := by
  obtain ⟨k, s1, l1, h1, h2, h3⟩ := h
  refine ⟨k, s1, l1, h1, H.keep _ _ _ h2 (hb'.mono (Nat.le_trans hbw hw)), ?_⟩
  rcases h3 with ⟨x, rest, a1, a2, a3, a4, a5, d', a6, a7⟩ | ⟨a1, a2, d', a6, a7⟩
  · exact .inl ⟨x, rest, a1, a2, a3, a4, a5, d', a6, a7.on hb'⟩
  · exact .inr ⟨a1, a2, d', a6, a7.on hb'⟩
theorem topT_none (h : d.size = 0) : topT d = ((0, 0, 0), false) := if_pos h
theorem topT_some (h : ¬ d.size = 0) : topT d = (d[0]!, true) := if_neg h
theorem WiS.first (H : Op F base TO J N beh nxt wt) (h : WiS F base wb hb T TO J beh nxt s d o w k s1 d1 wr) : Calls Try.prog 18 #[.pointer (some ⟨wb, 0, none⟩)] wr fun e w' => e = .returned (.tuple #[tE (topT d1).1, .bool (topT d1).2]) ∧ WiS F base wb hb T TO J beh nxt s d o w k s1 d1 w' := by
  obtain ⟨T', h1, h2⟩ := id h
  exact (first_any h1).mono fun e w' ⟨he, hb'⟩ => ⟨he, h.below H hb'⟩
set_option maxRecDepth 100000 in
set_option maxHeartbeats 3200000 in
theorem within_any (H : Op F base TO J N beh nxt wt) (h : Wk w base wb hb T F d o) (hJ : J s w) (h0 : Nds N d.toList) (hsz : wsum wt d.toList + o ≤ 1099511627776) (r : Int) :
    Calls Try.prog 17 #[.pointer (some ⟨wb, 0, none⟩), .int .i64 r] w fun e w' => Within F base wb hb T TO J beh nxt s d o w r e w' := by
  have hbw := h.base_le
  have hB0 : Below w.heap.size w (w.alloc (.cells #[.int .u64 0, .int .i64 0] 37)) := (Below.refl _ _).alloc (Nat.le_refl _) _
  have HST : Hid (WiS F base wb hb T TO J beh nxt s d o w 0 s d (w.alloc (.cells #[.int .u64 0, .int .i64 0] 37))) := Lib.hid ⟨T, h.below hB0, .refl _ _, Only.of_below hB0 (Nat.le_refl _) _, fun i e => .inl e, Blk.new _ _ _, fun e => by have := (h.low _ e).2; omega, H.keep _ _ _ hJ (hB0.mono hbw)⟩
  obtain ⟨P, hP⟩ : ∃ P : Ending → World → Prop, P = fun e w' => Within F base wb hb T TO J beh nxt s d o w r e w' := ⟨_, rfl⟩
  rw [show (fun e w' => Within F base wb hb T TO J beh nxt s d o w r e w') = P from hP.symm]
  obtain ⟨M, hM⟩ : ∃ M : Nat → σ → Array Ent → World → Prop, M = fun k s1 d1 wr => WiS F base wb hb T TO J beh nxt s d o w k s1 d1 wr := ⟨_, rfl⟩
  obtain ⟨PM, hPM⟩ : ∃ PM : Nat → Ent → Nat → σ → Array Ent → World → Prop, PM = fun c x k s1 d1 wr => PoS F base wb hb T TO J beh nxt s d o w c x k s1 d1 wr := ⟨_, rfl⟩
  have HMS : Hid (M 0 s d (w.alloc (.cells #[.int .u64 0, .int .i64 0] 37))) := Lib.hid (by rw [hM]; exact HST.out)
  have HMF : Hid (∀ k s1 d1 wr, M k s1 d1 wr → Calls Try.prog 18 #[.pointer (some ⟨wb, 0, none⟩)] wr fun e w' => e = .returned (.tuple #[tE (topT d1).1, .bool (topT d1).2]) ∧ M k s1 d1 w') := Lib.hid fun k s1 d1 wr hh => by rw [hM] at hh ⊢; exact WiS.first H hh
  have HW : Hid (∀ k s1 d1 wr, M k s1 d1 wr → wr.frozen? ⟨w.heap.size, 0, none⟩ = false ∧ wr.frozen? ⟨w.heap.size, 1, none⟩ = false ∧ wr.cell? ⟨w.heap.size, 0, none⟩ = some (.int .u64 0) ∧ wr.cell? ⟨w.heap.size, 1, none⟩ = some (.int .i64 0)) := Lib.hid fun k s1 d1 wr hh => by
    rw [hM] at hh
    obtain ⟨T', h1, h2, h3, h4, h5, h6, h7⟩ := hh
    exact ⟨h5.frozen 0, h5.frozen 1, h5.cell 0, h5.cell 1⟩
  have HMB : Hid (∀ k s1 d1 wr W, M k s1 d1 wr → Below wr.heap.size wr W → M k s1 d1 W) := Lib.hid fun k s1 d1 wr W hh hb => by rw [hM] at hh ⊢; exact hh.below H hb
  have HMO : Hid (∀ k s1 d1 wr, M k s1 d1 wr → (∀ x ∈ d1.toList, r < x.1) → ∀ V, V = (wr.setCell ⟨w.heap.size, 0, none⟩ (.int .u64 0)).setCell ⟨w.heap.size, 1, none⟩ (.int .i64 0) → (V.cell? ⟨w.heap.size, 0, none⟩ = some (.int .u64 0) ∧ V.cell? ⟨w.heap.size, 1, none⟩ = some (.int .i64 0)) ∧ P (.returned (.tuple #[.agg #[.int .u64 0, .int .i64 0], .bool false])) V) := Lib.hid fun k s1 d1 wr hh hx V hV => by
    rw [hM] at hh; rw [hP]
    exact (hh.out_ H hbw hx).2 V hV
  have HMP : Hid (∀ k s1 d1 wr c, M k s1 d1 wr → d1.size ≠ 0 → Blk wr c 44 #[.int .i64 d1[0]!.1, .int .i64 d1[0]!.2.1, .int .u64 d1[0]!.2.2] → (∀ i T', Wk wr base wb hb T' F d1 (o + k) → T' i → i ≠ c) → Calls Try.prog 22 #[.pointer (some ⟨hb, 0, none⟩)] wr fun e w' => e = .returned (.tuple #[tE d1[0]!, .bool true]) ∧ PM c d1[0]! k s1 d1 w') := Lib.hid fun k s1 d1 wr c hh h1 hc hl => by
    rw [hM] at hh; rw [hPM]
    obtain ⟨T', j1, j2, -⟩ := id hh
    obtain ⟨-, k2⟩ := j2.keeps H.next H.less h0
    have := wsum_len H.pos d1.toList
    have e : d1.toList.length = d1.size := by simp
    exact hh.pop H hbw (by omega) (by omega) hc hl
  have HPC : Hid (∀ c x k s1 d1 wr, PM c x k s1 d1 wr → wr.cell? ⟨c, 0, none⟩ = some (.int .i64 x.1) ∧ wr.cell? ⟨c, 1, none⟩ = some (.int .i64 x.2.1) ∧ wr.cell? ⟨c, 2, none⟩ = some (.int .u64 x.2.2) ∧ wr.frozen? ⟨w.heap.size, 0, none⟩ = false ∧ wr.frozen? ⟨w.heap.size, 1, none⟩ = false ∧ wr.cell? ⟨w.heap.size, 0, none⟩ = some (.int .u64 0) ∧ wr.cell? ⟨w.heap.size, 1, none⟩ = some (.int .i64 0)) := Lib.hid fun c x k s1 d1 wr hh => by
    rw [hPM] at hh
    obtain ⟨T', d2, h1, hp, hf, h2, h3, h4, h5, h6, h7, h8⟩ := hh
    exact ⟨h8.cell 0, h8.cell 1, h8.cell 2, h5.frozen 0, h5.frozen 1, h5.cell 0, h5.cell 1⟩
  have HPI : Hid (∀ c x k s1 d1 wr, PM c x k s1 d1 wr → Calls Try.prog 23 #[tE x] wr fun e w' => e = .returned (.bool (nd x)) ∧ PM c x k s1 d1 w') := Lib.hid fun c x k s1 d1 wr hh => by
    rw [hPM] at hh ⊢
    exact (isNode_any x wr).mono fun e w' ⟨he, hb'⟩ => ⟨he, hh.below H hb'⟩
  have HPT : Hid (∀ c x k s1 d1 wr, PM c x k s1 d1 wr → nd x = false → x.1 ≤ r → ∀ V, V = (wr.setCell ⟨w.heap.size, 0, none⟩ (.int .u64 x.2.2)).setCell ⟨w.heap.size, 1, none⟩ (.int .i64 x.1) → (V.cell? ⟨w.heap.size, 0, none⟩ = some (.int .u64 x.2.2) ∧ V.cell? ⟨w.heap.size, 1, none⟩ = some (.int .i64 x.1)) ∧ P (.returned (.tuple #[.agg #[.int .u64 x.2.2, .int .i64 x.1], .bool true])) V) := Lib.hid fun c x k s1 d1 wr hh hx hr V hV => by
    rw [hPM] at hh; rw [hP]
    exact (hh.thing H hbw hx hr).2.2 V hV
  have HPN : Hid (∀ c x k s1 d1 wr, PM c x k s1 d1 wr → nd x = true → Calls Try.prog 24 #[.pointer (some ⟨wb, 0, none⟩), tE x] wr fun e w' => e = .returned (.tuple #[]) ∧ ∃ d3, M (k + 1) (nxt s1 x.2.1) d3 w' ∧ wsum wt d3.toList < wsum wt d1.toList) := Lib.hid fun c x k s1 d1 wr hh hx => by
    rw [hPM] at hh; rw [hM]
    exact hh.node H hbw hx h0 hsz
  have HMH : Hid (∀ k s1 d1 wr, M k s1 d1 wr → wr.cell? ⟨wb, 1, none⟩ = some (.pointer (some ⟨hb, 0, none⟩)) ∧ ∀ i T', Wk (wr.alloc (.cells #[.int .i64 d1[0]!.1, .int .i64 d1[0]!.2.1, .int .u64 d1[0]!.2.2] 44)) base wb hb T' F d1 (o + k) → T' i → i ≠ wr.heap.size) := Lib.hid fun k s1 d1 wr hh => by
    rw [hM] at hh
    obtain ⟨T', h1, h2⟩ := hh
    refine ⟨h1.blk.cell 1, fun i T2 h3 hi e => ?_⟩
    obtain ⟨v, g1, g2, g3, g4, g5, g6, g7, g8⟩ := h1
    obtain ⟨v', j1, j2, j3, j4, j5, j6, j7, j8⟩ := h3
    have c1 : (wr.alloc (.cells #[.int .i64 d1[0]!.1, .int .i64 d1[0]!.2.1, .int .u64 d1[0]!.2.2] 44)).cell? ⟨hb, 1, none⟩ = some v := (g2.1.alloc _).cell 1
    have c2 : (wr.alloc (.cells #[.int .i64 d1[0]!.1, .int .i64 d1[0]!.2.1, .int .u64 d1[0]!.2.2] 44)).cell? ⟨hb, 1, none⟩ = some v' := j2.1.cell 1
    have ev : v = v' := Option.some.inj (c1.symm.trans c2)
    subst ev
    rcases (j8 i).1 hi with e2 | e2 | e2
    · have := g1.lt; omega
    · have := g2.lt; omega
    · have := (own_lt g2.2.1 e2).2; omega
  have HML : Hid (∀ k s1 d1 wr, M k s1 d1 wr → d1.size ≠ 0 → ∀ y ∈ d1.toList, d1[0]!.1 ≤ y.1) := Lib.hid fun k s1 d1 wr hh h1 => by
    rw [hM] at hh
    obtain ⟨T', j1, -⟩ := hh
    exact (first_top j1.heap (by omega)).low
  clear hM hPM HST hB0 hbw h hJ h0 hsz H hP
  go_enter Try.func17, Try.ntmps17
  go_wp2_with (fail)
  go_loopg [7] (wsum wt d.toList) (fun gk s7 wr => ∃ k s1 d1, gk = wsum wt d1.toList ∧ M k s1 d1 wr)
  case atStart => exact ⟨0, s, d, rfl, HMS.out⟩
  case round =>
    obtain ⟨k, s1, d1, rfl, hm⟩ := hrel
    clear HMS
    by_cases hd : d1.size = 0
    · have HF := Lib.hid (HMF.out k s1 d1 wr hm)
      rw [topT_none hd] at HF
      unfold tE at HF
      have HX : Hid (∀ x ∈ d1.toList, r < x.1) := Lib.hid fun x hx => by
        rw [show d1 = #[] from Array.eq_empty_of_size_eq_zero hd] at hx
        simp at hx
      clear hm HMF HMP HPC HPI HPT HPN HMH
      go_wp2_with (fail)
      refine HF.out.mono ?_
      rintro e w2 ⟨rfl, hm⟩
      have hm3 := HMB.out _ _ _ _ (w2.alloc (.cells #[.int .i64 0, .int .i64 0, .int .u64 0] 44)) hm ((Below.refl _ _).alloc (Nat.le_refl _) _)
      obtain ⟨f0, f1, c0, c1⟩ := HW.out _ _ _ _ hm3
      have HM2 := Lib.hid (HMO.out _ _ _ _ hm3 HX.out _ rfl)
      clear hm hm3 HMO HMB HW HF HX
      go_wp2_with (fail)
      obtain ⟨V, hV⟩ : ∃ V, V = ((w2.alloc (.cells #[.int .i64 0, .int .i64 0, .int .u64 0] 44)).setCell ⟨w.heap.size, 0, none⟩ (.int .u64 0)).setCell ⟨w.heap.size, 1, none⟩ (.int .i64 0) := ⟨_, rfl⟩
      rw [← hV] at HM2 ⊢
      clear hV
      obtain ⟨⟨z0, z1⟩, hp⟩ := HM2.out
      refine bodyPost_ret (v := .tuple #[.agg #[.int .u64 0, .int .i64 0], .bool false]) (by simp [results, Try.results17, go_sem, z0, z1]) rfl ?_
      exact hp
    · by_cases hr : r < d1[0]!.1
      · have HF := Lib.hid (HMF.out k s1 d1 wr hm)
        rw [topT_some hd] at HF
        unfold tE at HF
        have hl := HML.out _ _ _ _ hm hd
        have HX : Hid (∀ x ∈ d1.toList, r < x.1) := Lib.hid fun x hx => by have := hl x hx; omega
        have t1 : decide (r < d1[0]!.1) = true := decide_eq_true hr
        clear hm hl HML HMF HMP HPC HPI HPT HPN HMH
        generalize d1[0]! = x at *
        go_wp2_with (fail)
        refine HF.out.mono ?_
        rintro e w2 ⟨rfl, hm⟩
        have hm3 := HMB.out _ _ _ _ (w2.alloc (.cells #[.int .i64 x.1, .int .i64 x.2.1, .int .u64 x.2.2] 44)) hm ((Below.refl _ _).alloc (Nat.le_refl _) _)
        obtain ⟨f0, f1, c0, c1⟩ := HW.out _ _ _ _ hm3
        have HM2 := Lib.hid (HMO.out _ _ _ _ hm3 HX.out _ rfl)
        clear hm hm3 HMO HMB HW HF HX
        go_wp2_with (fail)
        obtain ⟨V, hV⟩ : ∃ V, V = ((w2.alloc (.cells #[.int .i64 x.1, .int .i64 x.2.1, .int .u64 x.2.2] 44)).setCell ⟨w.heap.size, 0, none⟩ (.int .u64 0)).setCell ⟨w.heap.size, 1, none⟩ (.int .i64 0) := ⟨_, rfl⟩
        rw [← hV] at HM2 ⊢
        clear hV
        obtain ⟨⟨z0, z1⟩, hp⟩ := HM2.out
        refine bodyPost_ret (v := .tuple #[.agg #[.int .u64 0, .int .i64 0], .bool false]) (by simp [results, Try.results17, go_sem, z0, z1]) rfl ?_
        exact hp
      · have HF := Lib.hid (HMF.out k s1 d1 wr hm)
        rw [topT_some hd] at HF
        unfold tE at HF
        have t1 : decide (r < d1[0]!.1) = false := decide_eq_false hr
        have hrle : d1[0]!.1 ≤ r := by omega
        have HPP : Hid (∀ w2, M k s1 d1 w2 → (w2.alloc (.cells #[.int .i64 d1[0]!.1, .int .i64 d1[0]!.2.1, .int .u64 d1[0]!.2.2] 44)).cell? ⟨wb, 1, none⟩ = some (.pointer (some ⟨hb, 0, none⟩)) ∧
            Calls Try.prog 22 #[.pointer (some ⟨hb, 0, none⟩)] (w2.alloc (.cells #[.int .i64 d1[0]!.1, .int .i64 d1[0]!.2.1, .int .u64 d1[0]!.2.2] 44)) fun e w' => e = .returned (.tuple #[tE d1[0]!, .bool true]) ∧ PM w2.heap.size d1[0]! k s1 d1 w') := Lib.hid fun w2 hm => by
          have hm3 := HMB.out _ _ _ _ (w2.alloc (.cells #[.int .i64 d1[0]!.1, .int .i64 d1[0]!.2.1, .int .u64 d1[0]!.2.2] 44)) hm ((Below.refl _ _).alloc (Nat.le_refl _) _)
          exact ⟨(HMH.out _ _ _ _ hm3).1, HMP.out _ _ _ _ _ hm3 hd (Blk.new w2 _ _) (HMH.out _ _ _ _ hm).2⟩
        have HR := Lib.hid hrle
        clear hm HML HMF HMP HMH HMO HMB HW hrle
        generalize d1[0]! = x at *
        go_wp2_with (fail)
        refine HF.out.mono ?_
        rintro e w2 ⟨rfl, hm⟩
        obtain ⟨g1, hpp⟩ := HPP.out w2 hm
        have HP2 := Lib.hid hpp
        clear hm HPP HF hpp
        go_wp2_with (fail)
        refine HP2.out.mono ?_
        rintro e w3 ⟨rfl, hm⟩
        obtain ⟨c0, c1, c2, -⟩ := HPC.out _ _ _ _ _ _ hm
        have hpi := HPI.out _ _ _ _ _ _ hm
        unfold tE at hpi
        have HI := Lib.hid hpi
        clear hm HP2 hpi g1 HPI
        generalize w2.heap.size = z at *
        cases hx : nd x with
        | false =>
          rw [hx] at HI
          go_wp2_with (fail)
          refine HI.out.mono ?_
          rintro e w4 ⟨rfl, hm⟩
          obtain ⟨c0', c1', c2', f0, f1, b0, b1⟩ := HPC.out _ _ _ _ _ _ hm
          have HM2 := Lib.hid (HPT.out _ _ _ _ _ _ hm hx HR.out _ rfl)
          clear hm HPC HPT HPN HI c0 c1 c2 hx
          go_wp2_with (fail)
          obtain ⟨V, hV⟩ : ∃ V, V = (w4.setCell ⟨w.heap.size, 0, none⟩ (.int .u64 x.2.2)).setCell ⟨w.heap.size, 1, none⟩ (.int .i64 x.1) := ⟨_, rfl⟩
          rw [← hV] at HM2 ⊢
          clear hV
          obtain ⟨⟨z0, z1⟩, hp⟩ := HM2.out
          refine bodyPost_ret (v := .tuple #[.agg #[.int .u64 x.2.2, .int .i64 x.1], .bool true]) (by simp [results, Try.results17, go_sem, z0, z1]) rfl ?_
          exact hp
        | true =>
          rw [hx] at HI
          go_wp2_with (fail)
          refine HI.out.mono ?_
          rintro e w4 ⟨rfl, hm⟩
          obtain ⟨c0', c1', c2', -⟩ := HPC.out _ _ _ _ _ _ hm
          have hpn := HPN.out _ _ _ _ _ _ hm hx
          unfold tE at hpn
          have HN := Lib.hid hpn
          clear hm HPC HPT HPN HI c0 c1 c2 hx hpn
          go_wp2_with (fail)
          refine HN.out.mono ?_
          rintro e w5 ⟨rfl, d3, hm3, hlt⟩
          have HM3 := Lib.hid hm3
          clear hm3 HN c0' c1' c2'
          go_wp2_with (fail)
          go_roundg (wsum wt d3.toList)
          case measure => exact hlt
          case rel => exact ⟨k + 1, _, d3, rfl, HM3.out⟩
end
end Go.Proofs.Ytjahgiplaogmlaa.fro
