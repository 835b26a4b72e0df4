/-
  A walk in memory: its struct, its heap; the contracts of first, Low, Opened; of what its function tells (asked in behind, which recovers); of Push and Pop at a walk's heap.
-/
import Derived.Test.YtjahgiplaogmlaaFrM
import Derived.Test.YtjahgiplaogmlaaFPop
import Derived.Test.YtjahgiplaogmlaaGLib
import Derived.Lib.MinMax
namespace Go.Proofs.Ytjahgiplaogmlaa.fro
open Go.RowKit law bytes only flat heapM Go.Sort Go.Shelf
set_option linter.unusedVariables false

/-- a walk at block wb, its heap at block hb; T: all that it may turn; F: its function; d: its entries as they stand; o: how many nodes were opened -/
def Wk (w : World) (base wb hb : Nat) (T : Nat → Prop) (F : Value) (d : Array Ent) (o : Nat) : Prop :=
  ∃ v, Blk w wb 53 #[F, .pointer (some ⟨hb, 0, none⟩), .int .i64 o] ∧ EHp w base hb v 20 d ∧ Heap (lf ce) d ∧ base ≤ hb ∧ base ≤ wb ∧ wb ≠ hb ∧ v.ownBlock ≠ some wb ∧ ∀ i, T i ↔ (i = wb ∨ Mine hb v i)
section
variable {w w' : World} {base wb hb o : Nat} {T : Nat → Prop} {F : Value} {d : Array Ent}
theorem Wk.low (h : Wk w base wb hb T F d o) : ∀ i, T i → base ≤ i ∧ i < w.heap.size := fun i hi => by
  obtain ⟨v, h1, h2, h3, h4, h5, h6, h7, h8⟩ := h
  rcases (h8 i).1 hi with e | e | e
  · rw [e]; exact ⟨h5, h1.lt⟩
  · rw [e]; exact ⟨h4, h2.lt⟩
  · exact own_lt h2.2.1 e
theorem Wk.at_ (h : Wk w base wb hb T F d o) : T wb := by
  obtain ⟨v, h1, h2, h3, h4, h5, h6, h7, h8⟩ := h
  exact (h8 wb).2 (.inl rfl)
theorem Wk.heap (h : Wk w base wb hb T F d o) : Heap (lf ce) d := by
  obtain ⟨v, h1, h2, h3, h4, h5, h6, h7, h8⟩ := h
  exact h3
theorem Wk.blk (h : Wk w base wb hb T F d o) : Blk w wb 53 #[F, .pointer (some ⟨hb, 0, none⟩), .int .i64 o] := by
  obtain ⟨v, h1, h2, h3, h4, h5, h6, h7, h8⟩ := h
  exact h1
theorem Wk.only {S : Nat → Prop} (h : Wk w base wb hb T F d o) (k : Only S w w') (hS : ∀ i, T i → ¬ S i) : Wk w' base wb hb T F d o := by
  obtain ⟨v, h1, h2, h3, h4, h5, h6, h7, h8⟩ := h
  exact ⟨v, Blk.only h1 k (hS wb ((h8 wb).2 (.inl rfl))), h2.only k fun i e => hS i ((h8 i).2 (.inr e)), h3, h4, h5, h6, h7, h8⟩
theorem Wk.below (h : Wk w base wb hb T F d o) (k : Below w.heap.size w w') : Wk w' base wb hb T F d o := h.only (S := fun _ => False) (Only.of_below k (Nat.le_refl _) _) fun i hi e => e
theorem Wk.drewN (h : Wk w base wb hb T F d o) (m : Nat) : Wk (w.drewN m) base wb hb T F d o := h
/-- a walk's count turned -/
theorem Wk.count (h : Wk w base wb hb T F d o) (o' : Nat) : Wk (w.setCell ⟨wb, 2, none⟩ (.int .i64 o')) base wb hb T F d o' ∧ Only T w (w.setCell ⟨wb, 2, none⟩ (.int .i64 o')) := by
  obtain ⟨v, h1, h2, h3, h4, h5, h6, h7, h8⟩ := h
  have ho : Only (· = wb) w (w.setCell ⟨wb, 2, none⟩ (.int .i64 o')) := Only.setCell (S := (· = wb)) (p := ⟨wb, 2, none⟩) (Only.refl _ _) (.inl rfl) _
  refine ⟨⟨v, h1.set_ 2 _, h2.only ho fun i e e2 => ?_, h3, h4, h5, h6, h7, h8⟩, ho.mono fun i e => .inl ((h8 i).2 (.inl e))⟩
  rcases e with e | e
  · exact h6 (e2.symm.trans e)
  · exact h7 (by rw [e, e2])
end
/-- what a walk's method leaves: the walk, its entries d', o' nodes opened; of what there was, T and TO alone have turned; T' is of T and of new blocks -/
def Left (base wb hb : Nat) (F : Value) (T TO : Nat → Prop) (w w' : World) (d' : Array Ent) (o' : Nat) : Prop :=
  ∃ T', Wk w' base wb hb T' F d' o' ∧ Only (fun i => T i ∨ TO i) w w' ∧ ∀ i, T' i → T i ∨ w.heap.size ≤ i
section
variable {w w' w2 : World} {base wb hb o o2 : Nat} {T TO T' : Nat → Prop} {F : Value} {d d2 : Array Ent}
theorem Left.same (h : Wk w base wb hb T F d o) : Left base wb hb F T TO w w d o := ⟨T, h, Only.refl _ _, fun i e => .inl e⟩
theorem Left.on (h : Left base wb hb F T TO w w' d o) (k : Below w'.heap.size w' w2) : Left base wb hb F T TO w w2 d o := by
  obtain ⟨T', h1, h2, h3⟩ := h
  exact ⟨T', h1.below k, h2.on k, h3⟩
theorem Left.drewN (h : Left base wb hb F T TO w w' d o) (m : Nat) : Left base wb hb F T TO w (w'.drewN m) d o := by
  obtain ⟨T', h1, h2, h3⟩ := h
  exact ⟨T', h1, h2.drewN m, h3⟩
/-- one after the other -/
theorem Left.next (h : Wk w' base wb hb T' F d o) (ho : Only (fun i => T i ∨ TO i) w w') (hT : ∀ i, T' i → T i ∨ w.heap.size ≤ i) (k : Left base wb hb F T' TO w' w2 d2 o2) : Left base wb hb F T TO w w2 d2 o2 := by
  obtain ⟨T2, k1, k2, k3⟩ := k
  refine ⟨T2, k1, ho.trans k2 fun i e => ?_, fun i e => ?_⟩
  · rcases e with e | e
    · exact (hT i e).imp .inl id
    · exact .inl (.inr e)
  · rcases k3 i e with e2 | e2
    · exact hT i e2
    · exact .inr (Nat.le_trans ho.size e2)
end
/-! ### what the function tells -/
/-- a row that can be read, below the walk's memory or made just now -/
def Seen (base : Nat) (w w' : World) (A : Option Addr) (xs : List Value) : Prop := ∀ j u, xs[j]? = some u → ∃ ad, A = some ad ∧ (ad.block < base ∨ w.heap.size ≤ ad.block) ∧ ad.block < w'.heap.size ∧ w'.cell? (ad.add j) = some u
theorem Seen.away {base : Nat} {w w' : World} {A : Option Addr} {xs : List Value} {T : Nat → Prop} (h : Seen base w w' A xs) (hT : ∀ i, T i → base ≤ i ∧ i < w.heap.size) : Away w' T A xs := fun j u hj => by
  obtain ⟨ad, e, hb, hl, hc⟩ := h j u hj
  refine ⟨ad, e, hl, fun ht => ?_, hc⟩
  have := hT _ ht
  omega
/-- what a walk's function is asked, and tells: for nodes of N (any other is never asked), where J holds (which what the walk turns doesn't change); weights, so that walks end -/
structure Op {σ : Type} (F : Value) (base : Nat) (TO : Nat → Prop) (J : σ → World → Prop) (N : Int → Prop) (beh : σ → Int → List Ent) (nxt : σ → Int → σ) (wt : Int → Nat) : Prop where
  low : ∀ i, TO i → i < base
  keep : ∀ s W W', J s W → Below base W W' → J s W'
  next : ∀ s n, N n → Nds N (beh s n)
  less : ∀ s n, N n → wsum wt (beh s n) < wt n
  pos : ∀ n, 0 < wt n
  tells : ∀ n, N n → 0 ≤ n → ∃ K cap, F = .func (.func K) #[] cap ∧ Enters Try.prog K ∧ ∀ s W, J s W → base ≤ W.heap.size → Calls Try.prog K (#[.int .i64 n] ++ cap) W fun e w' =>
    ∃ A c, e = .returned (.slice A (beh s n).length c) ∧ Seen base W w' A ((beh s n).flatMap ec) ∧ Only TO W w' ∧ J (nxt s n) w'
/-- what behind leaves -/
def Behind {σ : Type} (base : Nat) (TO : Nat → Prop) (J : σ → World → Prop) (beh : σ → Int → List Ent) (nxt : σ → Int → σ) (s : σ) (n : Int) (w : World) (e : Ending) (w' : World) : Prop :=
  ∃ A c, e = .returned (.slice A (beh s n).length c) ∧ Seen base w w' A ((beh s n).flatMap ec) ∧ Only TO w w' ∧ J (nxt s n) w'
theorem idle_behind (p : Addr) (w : World) :
    CallsD Try.prog 35 #[.pointer (some p)] .returning w fun e u' w' => e = .returned (.tuple #[]) ∧ u' = .returning ∧ w' = w := by
  refine callsD_of_wpS Try.func35 rfl fun c₀ cs hu => ?_
  apply wpS_seq
  apply wpS_region
  simp [wpOpsS, go_sem, recoverD, hu, Try.ntmps35, Exit.thenS]
  refine wpS_cond (t := false) (by simp [Act.eval, Array.replicate]) ?_
  simp only [Bool.false_eq_true, if_false]
  refine wpS_of_wp (wp_skip ?_)
  cases c₀
  simp_all [bodyPostS, results, Try.results35]
section
variable {σ : Type} {F : Value} {base wb hb o : Nat} {T TO : Nat → Prop} {J : σ → World → Prop} {N : Int → Prop} {beh : σ → Int → List Ent} {nxt : σ → Int → σ} {wt : Int → Nat} {d : Array Ent} {s : σ} {w : World}
set_option maxRecDepth 100000 in
set_option maxHeartbeats 1600000 in
theorem behind_any (H : Op F base TO J N beh nxt wt) (h : Wk w base wb hb T F d o) (hJ : J s w) (n : Int) (hn : 0 ≤ n) (hN : N n) :
    Calls Try.prog 30 #[.pointer (some ⟨wb, 0, none⟩), .int .i64 n] w fun e w' => Behind base TO J beh nxt s n w e w' := by
  obtain ⟨K, cap, rfl, hK, ht⟩ := H.tells n hN hn
  have hmf : ∀ (fn : Fn) (first cap : Array Value) (w : World), (Instr.makeFunc fn first cap).run Try.prog w = .ok (.func fn first cap) w := fun _ _ _ _ => rfl
  have hbs : base ≤ w.heap.size := Nat.le_of_lt (Nat.lt_of_le_of_lt (h.low _ h.at_).1 (h.low _ h.at_).2)
  obtain ⟨V, hV⟩ : ∃ V, V = w.alloc (.cells #[.slice none 0 0] 22) := ⟨_, rfl⟩
  have hbV : Below w.heap.size w V := by rw [hV]; exact (Below.refl _ _).alloc (Nat.le_refl _) _
  have hsz : V.heap.size = w.heap.size + 1 := by rw [hV]; simp
  have b1 : Blk V w.heap.size 22 #[.slice none 0 0] := by rw [hV]; exact Blk.new w _ _
  have q0 : V.cell? ⟨wb, 0, none⟩ = some (.func (.func K) #[] cap) := (h.below hbV).blk.cell 0
  have hC := ht s V (H.keep s w V hJ (hbV.mono hbs)) (by omega)
  have HE : Hid (∀ (W : World) A, Only TO V W → W.cell? ⟨w.heap.size, 0, none⟩ = some (.slice none 0 0) ∧ W.frozen? ⟨w.heap.size, 0, none⟩ = false ∧
      ∀ c, Seen base V W A ((beh s n).flatMap ec) → J (nxt s n) W → Behind base TO J beh nxt s n w (.returned (.slice A (beh s n).length c)) (W.setCell ⟨w.heap.size, 0, none⟩ (.slice A (beh s n).length c))) := Lib.hid fun W A hW => by
    have b2 := Blk.only b1 hW fun e => by have := H.low _ e; omega
    refine ⟨b2.cell 0, b2.frozen 0, fun c hs hj => ⟨A, c, rfl, fun j u hj2 => ?_, ?_, ?_⟩⟩
    · obtain ⟨ad, e, h1, h2, h3⟩ := hs j u hj2
      refine ⟨ad, e, by omega, by simpa [World.setCell] using h2, ?_⟩
      rw [World.cell?_setCell_other _ _ _ _ (fun e2 => by have e3 := congrArg Addr.block e2; rw [blk_add] at e3; simp only at e3; omega)]
      exact h3
    · exact Only.setCell (p := ⟨w.heap.size, 0, none⟩) ((Only.of_below hbV (Nat.le_refl _) TO).trans hW fun i e => .inl e) (.inr (Nat.le_refl _)) _
    · exact H.keep _ _ _ hj ((Below.refl _ _).setCell (p := ⟨w.heap.size, 0, none⟩) hbs _)
  have HC := Lib.hid hC
  have HV := Lib.hid hV
  rw [hV] at q0
  clear hC hV h b1 hbV hsz hbs ht H hJ
  have hK' : ∀ (args : Array Value) (w : World), (callFunc K args).run Try.prog w = .ok (.enter K args) w := hK
  clear hK
  go_enter_defers Try.func30, Try.ntmps30
  go_wp2_with (fail)
  rw [← HV.out]
  refine HC.out.mono ?_
  rintro e w2 ⟨A, c, rfl, hs, ho, hj⟩
  obtain ⟨t0, tf, hE⟩ := HE.out w2 A ho
  have HE2 := Lib.hid (hE c hs hj)
  have t1 : (w2.setCell ⟨w.heap.size, 0, none⟩ (.slice A (beh s n).length c)).cell? ⟨w.heap.size, 0, none⟩ = some (.slice A (beh s n).length c) := World.cell?_setCell_same _ _ _ t0
  clear hs hj ho hE HE HC
  go_wp2_with (fail)
  refine leaves_cons (f := 35) (args := #[.pointer (some ⟨w.heap.size, 0, none⟩)]) (by simp) (by simp [go_sem]) ?_
  refine (idle_behind ⟨w.heap.size, 0, none⟩ _).mono ?_
  rintro e u' w'' ⟨rfl, rfl, rfl⟩
  simp [Leaves, settle, results, Try.results30, go_sem]
  rw [t1]
  exact ⟨_, rfl, HE2.out⟩
end
end Go.Proofs.Ytjahgiplaogmlaa.fro
