/-
  The contract of enter: what stands behind a node comes, each no lower than the node.
-/
import Derived.Test.YtjahgiplaogmlaaFrE
import Derived.Deep.LoopGhost
namespace Go.Proofs.Ytjahgiplaogmlaa.fro
open Go.RowKit law bytes only flat heapM Go.Sort Go.Shelf
set_option linter.unusedVariables false

/-- enter's memory ahead of a round: the walk with so many of the row's entries in; the node's own copy; the row, away from what the walk turns -/
def EnS (base wb hb : Nat) (F : Value) (T TO : Nat → Prop) (J : World → Prop) (w : World) (x : Ent) (A : Option Addr) (row : List Ent) (d : Array Ent) (o : Nat) (k : Nat) (wr : World) : Prop :=
  ∃ T' d', Wk wr base wb hb T' F d' o ∧ d'.toList.Perm (d.toList ++ lift x (row.take k)) ∧ Only (fun i => T i ∨ TO i) w wr ∧ (∀ i, T' i → T i ∨ w.heap.size ≤ i) ∧
    Blk wr w.heap.size 44 #[.int .i64 x.1, .int .i64 x.2.1, .int .u64 x.2.2] ∧ ¬ T' w.heap.size ∧ Away wr T' A (row.flatMap ec) ∧ J wr
/-- what a round asks, and what it leaves -/
def Rnd (base wb hb : Nat) (F : Value) (T TO : Nat → Prop) (J : World → Prop) (w : World) (x : Ent) (A : Option Addr) (row : List Ent) (d : Array Ent) (o k : Nat) (hk : k < row.length) (wr : World) : Prop :=
  ∃ b q y, row[k] = y ∧ A = some ⟨b, q, none⟩ ∧
      (wr.cell? ⟨b, q + k * 3, none⟩ = some (.int .i64 y.1) ∧ wr.cell? ⟨b, q + k * 3 + 1, none⟩ = some (.int .i64 y.2.1) ∧ wr.cell? ⟨b, q + k * 3 + 2, none⟩ = some (.int .u64 y.2.2)) ∧
      ((wr.alloc (.cells #[.int .i64 y.1, .int .i64 y.2.1, .int .u64 y.2.2] 44)).cell? ⟨wr.heap.size, 0, none⟩ = some (.int .i64 y.1) ∧ (wr.alloc (.cells #[.int .i64 y.1, .int .i64 y.2.1, .int .u64 y.2.2] 44)).frozen? ⟨wr.heap.size, 0, none⟩ = false ∧
        (wr.alloc (.cells #[.int .i64 y.1, .int .i64 y.2.1, .int .u64 y.2.2] 44)).cell? ⟨w.heap.size, 0, none⟩ = some (.int .i64 x.1)) ∧
      ∀ V, V = wr.alloc (.cells #[.int .i64 (max y.1 x.1), .int .i64 y.2.1, .int .u64 y.2.2] 44) →
        (∀ W, Below V.heap.size V W → W.cell? ⟨wb, 1, none⟩ = some (.pointer (some ⟨hb, 0, none⟩)) ∧ W.cell? ⟨wr.heap.size, 0, none⟩ = some (.int .i64 (max y.1 x.1)) ∧ W.cell? ⟨wr.heap.size, 1, none⟩ = some (.int .i64 y.2.1) ∧ W.cell? ⟨wr.heap.size, 2, none⟩ = some (.int .u64 y.2.2)) ∧
        ∀ W, Below V.heap.size V W → Calls Try.prog 21 #[.pointer (some ⟨hb, 0, none⟩), .agg #[.int .i64 (max y.1 x.1), .int .i64 y.2.1, .int .u64 y.2.2]] W fun e w' => e = .returned (.tuple #[]) ∧ EnS base wb hb F T TO J w x A row d o (k + 1) w' ∧ (w'.cell? ⟨wb, 1, none⟩ = some (.pointer (some ⟨hb, 0, none⟩)) ∧ w'.cell? ⟨wr.heap.size, 0, none⟩ = some (.int .i64 (max y.1 x.1)) ∧ w'.cell? ⟨wr.heap.size, 1, none⟩ = some (.int .i64 y.2.1) ∧ w'.cell? ⟨wr.heap.size, 2, none⟩ = some (.int .u64 y.2.2))
section
variable {base wb hb o k : Nat} {F : Value} {T TO : Nat → Prop} {J : World → Prop} {w wr : World} {x : Ent} {A : Option Addr} {row : List Ent} {d : Array Ent}
theorem EnS.round (h : EnS base wb hb F T TO J w x A row d o k wr) (hk : k < row.length) (hJ : ∀ W W', J W → Below base W W' → J W') (hsz : d.size + row.length ≤ 1099511627776) : Rnd base wb hb F T TO J w x A row d o k hk wr := by
  obtain ⟨T', d', h1, h2, h3, h4, h5, h6, h7, h8⟩ := h
  obtain ⟨b, q, rfl, hb1, c0, c1, c2⟩ := Sl.ent h7.sl hk
  refine ⟨b, q, row[k], rfl, rfl, ⟨c0, c1, c2⟩, ?_⟩
  obtain ⟨y, hy⟩ : ∃ y, row[k] = y := ⟨_, rfl⟩
  rw [hy]
  have e1 := Blk.new wr 44 #[.int .i64 y.1, .int .i64 y.2.1, .int .u64 y.2.2]
  have hbs := h1.base_le
  refine ⟨⟨e1.cell 0, e1.frozen 0, (h5.alloc _).cell 0⟩, fun V hV => ?_⟩
  have e2 : Blk V wr.heap.size 44 #[.int .i64 (max y.1 x.1), .int .i64 y.2.1, .int .u64 y.2.2] := by rw [hV]; exact Blk.new wr _ _
  have hbV : Below wr.heap.size wr V := by rw [hV]; exact (Below.refl _ _).alloc (Nat.le_refl _) _
  have h1V := h1.below hbV
  refine ⟨fun W hW => ⟨(h1V.below hW).blk.cell 1, (e2.below hW e2.lt).cell 0, (e2.below hW e2.lt).cell 1, (e2.below hW e2.lt).cell 2⟩, fun W hW => ?_⟩
  have hWr : Below wr.heap.size wr W := hbV.trans (hW.mono hbV.size)
  have hd : d'.size = d.size + (lift x (row.take k)).length := by
    have := h2.length_eq
    simpa using this
  have hd2 : (lift x (row.take k)).length ≤ k := by simp [lift]; omega
  refine (push_wk (h1V.below hW) (up x.1 y) (by omega)).mono ?_
  rintro e w' ⟨rfl, d2, ⟨T2, k1, k2, k3⟩, k4⟩
  have hoT : Only T' W w' := k2.mono fun i e => e.elim .inl False.elim
  have hoR : Only T' wr w' := (Only.of_below hWr (Nat.le_refl _) T').trans hoT fun i e => .inl e
  have hT2 : ∀ i, i < wr.heap.size → ¬ T' i → ¬ T2 i := fun i hi hn e => by
    rcases k3 i e with e2 | e2
    · exact hn e2
    · have := hWr.size; omega
  have hsw := h3.size
  have hcn : ¬ T' wr.heap.size := fun e => by have := (h1.low _ e).2; omega
  have e3 := Blk.only (e2.below hW e2.lt) hoT hcn
  refine ⟨rfl, ⟨T2, d2, k1, ?_, ?_, fun i e => ?_, Blk.only h5 hoR h6, hT2 _ h5.lt h6, h7.step hoR hT2, hJ _ _ h8 (hoR.below hbs fun i e => (h1.low i e).1)⟩, k1.blk.cell 1, e3.cell 0, e3.cell 1, e3.cell 2⟩
  · refine k4.trans ((List.Perm.cons _ h2).trans ?_)
    rw [List.take_succ_eq_append_getElem hk, hy]
    show List.Perm _ (d.toList ++ ((row.take k ++ [y]).map (up x.1)))
    rw [List.map_append, ← List.append_assoc]
    exact List.perm_append_comm (l₁ := [up x.1 y])
  · exact h3.trans hoR fun i e => (h4 i e).imp .inl id
  · rcases k3 i e with e2 | e2
    · exact h4 i e2
    · have := hWr.size; exact .inr (by omega)
end
section
variable {σ : Type} {F : Value} {base wb hb o : Nat} {T TO : Nat → Prop} {J : σ → World → Prop} {N : Int → Prop} {beh : σ → Int → List Ent} {nxt : σ → Int → σ} {wt : Int → Nat} {d : Array Ent} {s : σ} {w : World}
set_option maxRecDepth 100000 in
set_option maxHeartbeats 3200000 in
theorem enter_any (H : Op F base TO J N beh nxt wt) (h : Wk w base wb hb T F d o) (hJ : J s w) (x : Ent) (hn : 0 ≤ x.2.1) (hN : N x.2.1) (hsz : wsum wt d.toList + wt x.2.1 + o ≤ 1099511627776) :
    Calls Try.prog 24 #[.pointer (some ⟨wb, 0, none⟩), tE x] w fun e w' => e = .returned (.tuple #[]) ∧ ∃ d', Left base wb hb F T TO w w' d' (o + 1) ∧ d'.toList.Perm (d.toList ++ lift x (beh s x.2.1)) ∧ J (nxt s x.2.1) w' := by
  unfold tE
  have hbs := h.base_le
  have hlen : (beh s x.2.1).length ≤ wt x.2.1 := Nat.le_trans (wsum_len H.pos _) (Nat.le_of_lt (H.less s _ hN))
  have hdl : d.size ≤ wsum wt d.toList := by have := wsum_len H.pos d.toList; simpa using this
  obtain ⟨V1, hV1⟩ : ∃ V1, V1 = w.alloc (.cells #[.int .i64 x.1, .int .i64 x.2.1, .int .u64 x.2.2] 44) := ⟨_, rfl⟩
  have hb1 : Below w.heap.size w V1 := by rw [hV1]; exact (Below.refl _ _).alloc (Nat.le_refl _) _
  have hs1 : V1.heap.size = w.heap.size + 1 := by rw [hV1]; simp
  have bx : Blk V1 w.heap.size 44 #[.int .i64 x.1, .int .i64 x.2.1, .int .u64 x.2.2] := by rw [hV1]; exact Blk.new w _ _
  have h1 := h.below hb1
  have c2 : V1.cell? ⟨wb, 2, none⟩ = some (.int .i64 o) := h1.blk.cell 2
  have f2 : V1.frozen? ⟨wb, 2, none⟩ = false := h1.blk.frozen 2
  have i0 : IntKind.i64.wrap ((o : Int) + 1) = (o : Int) + 1 := by rw [IntKind.wrap_i64]; omega
  obtain ⟨h2, ho2⟩ := h1.count (o + 1)
  obtain ⟨V2, hV2⟩ : ∃ V2, V2 = V1.setCell ⟨wb, 2, none⟩ (.int .i64 ((o : Int) + 1)) := ⟨_, rfl⟩
  rw [show ((o + 1 : Nat) : Int) = (o : Int) + 1 from rfl] at h2 ho2
  rw [← hV2] at h2 ho2
  have hwn : ¬ T w.heap.size := fun e => by have := (h.low _ e).2; omega
  have bx2 : Blk V2 w.heap.size 44 #[.int .i64 x.1, .int .i64 x.2.1, .int .u64 x.2.2] := Blk.only bx ho2 hwn
  have c1 : V2.cell? ⟨w.heap.size, 1, none⟩ = some (.int .i64 x.2.1) := bx2.cell 1
  have hJ2 : J s V2 := H.keep s _ _ hJ ((hb1.mono hbs).trans (ho2.below (Nat.le_trans hbs hb1.size) fun i e => (h.low i e).1))
  have hbe := behind_any H h2 hJ2 x.2.1 hn hN
  unfold Behind at hbe
  have HBE := Lib.hid hbe
  have HEN : Hid (∀ (w3 : World) A c c', Value.slice A (beh s x.2.1).length c = c' → Seen base V2 w3 A ((beh s x.2.1).flatMap ec) → Only TO V2 w3 → J (nxt s x.2.1) w3 → EnS base wb hb F T TO (J (nxt s x.2.1)) w x A (beh s x.2.1) d (o + 1) 0 w3) := Lib.hid fun w3 A c c' _ hs ho hj => by
    have hsz2 : V2.heap.size = V1.heap.size := by rw [hV2]; simp [World.setCell]
    have hnT : ∀ i, T i → ¬ TO i := fun i e e2 => by have := (h.low i e).1; have := H.low i e2; omega
    refine ⟨T, d, h2.only ho hnT, ?_, (((Only.of_below hb1 (Nat.le_refl _) T).trans ho2 fun i e => .inl e).mono (T := fun i => T i ∨ TO i) fun i e => .inl (.inl e)).trans ho fun i e => .inl (.inr e), fun i e => .inl e, Blk.only bx2 ho fun e => by have := H.low _ e; omega, hwn, hs.away fun i e => ⟨(h.low i e).1, by have := (h.low i e).2; omega⟩, hj⟩
    show d.toList.Perm (d.toList ++ [])
    rw [List.append_nil]
  have hfin : ∀ w', EnS base wb hb F T TO (J (nxt s x.2.1)) w x none [] d (o + 1) 0 w' → True := fun _ _ => trivial
  have HRD : Hid (∀ A k wr, EnS base wb hb F T TO (J (nxt s x.2.1)) w x A (beh s x.2.1) d (o + 1) k wr → ∀ (hk : k < (beh s x.2.1).length), Rnd base wb hb F T TO (J (nxt s x.2.1)) w x A (beh s x.2.1) d (o + 1) k hk wr) := Lib.hid fun A k wr hh hk => hh.round hk (H.keep _) (by omega)
  have HEND : Hid (∀ A wr, EnS base wb hb F T TO (J (nxt s x.2.1)) w x A (beh s x.2.1) d (o + 1) (beh s x.2.1).length wr → ∃ d', Left base wb hb F T TO w wr d' (o + 1) ∧ d'.toList.Perm (d.toList ++ lift x (beh s x.2.1)) ∧ J (nxt s x.2.1) wr) := Lib.hid fun A wr ⟨T', d', e1, e2, e3, e4, e5, e6, e7, e8⟩ =>
    ⟨d', ⟨T', e1, e3, e4⟩, by rw [List.take_length] at e2; exact e2, e8⟩
  have hm : (beh s x.2.1).length < 2305843009213693952 := by omega
  generalize beh s x.2.1 = row at HBE HEN HRD HEND hm ⊢
  have HV1 := Lib.hid hV1
  have HV2 := Lib.hid hV2
  rw [hV1] at c2 f2
  clear hbe hfin h h1 h2 hb1 hs1 bx bx2 hJ hJ2 hV1 hV2 ho2 hbs hlen hdl hwn hN hsz H
  go_enter Try.func24, Try.ntmps24
  go_wp2_with (fail)
  rw [← HV1.out, ← HV2.out]
  refine HBE.out.mono ?_
  rintro e w3 ⟨A, c, rfl, hs, ho, hj⟩
  have HE0 := Lib.hid (HEN.out w3 A c _ rfl hs ho hj)
  clear hs ho hj HEN HBE c1 c2 f2 HV1 HV2
  go_wp2_with (fail)
  go_loopg [18] row.length (fun gk s18 wr => ∃ k : Nat, gk = row.length - k ∧ s18 = .int .i64 k ∧ k ≤ row.length ∧ EnS base wb hb F T TO (J (nxt s x.2.1)) w x A row d (o + 1) k wr)
  case atStart => exact ⟨0, rfl, rfl, Nat.zero_le _, HE0.out⟩
  case round =>
    clear HE0
    obtain ⟨k, rfl, rfl, hk, hh⟩ := hrel
    rcases Nat.lt_or_ge k row.length with hlt | hge
    · obtain ⟨b, q, y, -, rfl, ⟨c0, c1, c2⟩, ⟨e0, ef, ex⟩, hV⟩ := HRD.out A k wr hh hlt
      obtain ⟨V, hVV⟩ : ∃ V, V = wr.alloc (.cells #[.int .i64 (max y.1 x.1), .int .i64 y.2.1, .int .u64 y.2.2] 44) := ⟨_, rfl⟩
      obtain ⟨hS, hC⟩ := hV V hVV
      have i1 : (k : Int) < (row.length : Int) := by omega
      have i2 : IntKind.i64.wrap ((k : Int) + 1) = ((k + 1 : Nat) : Int) := by rw [IntKind.wrap_i64]; omega
      have HS := Lib.hid hS
      have HC := Lib.hid hC
      have HVV := Lib.hid hVV
      clear hS hC hVV hV hh HRD HEND
      go_wp2_with (fail)
      rw [← HVV.out]
      obtain ⟨q0, q1, q2, q3⟩ := HS.out V (Below.refl _ _)
      clear HVV c0 c1 c2 e0 ef ex
      generalize max y.1 x.1 = m at HS HC q0 q1 q2 q3 ⊢
      obtain ⟨z, hz⟩ : ∃ z, z = wr.heap.size := ⟨_, rfl⟩
      rw [← hz] at HS HC q1 q2 q3 ⊢
      clear hz
      go_region_held3 (fun W => W.cell? ⟨wb, 1, none⟩ = some (.pointer (some ⟨hb, 0, none⟩)) ∧ W.cell? ⟨z, 0, none⟩ = some (.int .i64 m) ∧ W.cell? ⟨z, 1, none⟩ = some (.int .i64 y.2.1) ∧ W.cell? ⟨z, 2, none⟩ = some (.int .u64 y.2.2)) ((first | (with_reducible assumption) | (refine HS.out _ ?_; repeat' (first | (with_reducible exact Below.refl _ _) | (with_reducible assumption) | (with_reducible refine Below.drew ?_) | (with_reducible refine below_drewN' ?_ _)))))
        (first
          | (go_at_call 21; (with_reducible refine (HC.out _ (by repeat' (first | (with_reducible exact Below.refl _ _) | (with_reducible assumption) | (with_reducible refine Below.drew ?_) | (with_reducible refine below_drewN' ?_ _)))).mono ?_); rintro e w4 ⟨rfl, hn4, hs4⟩))
      clear q0 q1 q2 q3 hs4 HS HC
      go_wp2_with (fail)
      go_roundg (row.length - (k + 1))
      case measure => omega
      case rel => exact ⟨k + 1, rfl, by go_num, by omega, hn4⟩
    · obtain rfl : k = row.length := by omega
      have hE := HEND.out A wr hh
      have HE := Lib.hid hE
      clear hE hh HRD HEND
      go_wp2_with (fail)
      go_end0
      exact ⟨rfl, HE.out⟩
end
end Go.Proofs.Ytjahgiplaogmlaa.fro
