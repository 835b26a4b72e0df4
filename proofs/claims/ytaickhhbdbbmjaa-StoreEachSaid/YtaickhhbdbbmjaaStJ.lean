/-
  The contract of Items.
-/
import Derived.Test.YtaickhhbdbbmjaaStI
namespace Go.Proofs.Ytaickhhbdbbmjaa.store
open Go.RowKit Go.Shelf law bytes only flat ord obj told
open aro (Kept)
set_option linter.unusedVariables false
attribute [local go_sem] Oper.semAt_some

theorem lit_cells (w : World) (xs : List Value) (t : TypeId) : ∀ j u, xs[j]? = some u → (w.alloc (.cells xs.toArray t)).cell? ((⟨w.heap.size, 0, none⟩ : Addr).add j) = some u := fun j u hj => by
  obtain ⟨ad, e, -, hc⟩ := Sl.lit w xs t j u hj
  injection e with e
  subst e
  exact hc
/-- what is no cells is left by an append, and by a store -/
theorem keeps_append {W w4 : World} {base k n g0 : Nat} {e : TypeId} {v u : Value} {xs : List Value} (h : W.ownsRow base e k v n xs) (o : Obj) (hg : (W.alloc o).grownBy w4 v.ownBlock) : KeepsOthers W (w4.setCell ⟨g0, 0, none⟩ u) :=
  ((KeepsOthers.alloc W o).trans (KeepsOthers.of_grownBy hg fun j o' e1 e2 => by
    rcases h.2 with ⟨h1, -⟩ | ⟨g1, c1, cur1, hv1, -, hh1, -⟩
    · rw [h1] at e1; cases e1
    · rw [hv1] at e1
      injection e1 with e1
      simp only at e1
      subst e1
      have := (Below.heap_alloc W o g1 (Array.getElem?_eq_some_iff.1 hh1).1).trans hh1
      rw [this] at e2
      cases e2
      rfl)).trans (KeepsOthers.setCell _ _ _)
set_option maxRecDepth 100000 in
set_option maxHeartbeats 3200000 in
theorem items_st {w : World} {base sb m : Nat} {T : Nat → Prop} {M : List (Int × Thing)} (h : St w base sb T M m) (hB : base ≤ w.heap.size) (hm : m ≤ 2513169434915) : Calls Try.prog 18 #[.pointer (some ⟨sb, 0, none⟩)] w (ItemsP w M) := by
  refine (callsIn_wide (n := 6)).1 ?_
  refine callsIn_of_wp_marks Try.func18 rfl trivial ?_ rfl
  simp only [Try.ntmps18, List.size_toArray, List.length_cons, List.length_nil, Nat.reduceAdd, Nat.reduceSub, Array.replicate_succ, Array.replicate_zero, List.push_toArray, List.append_toArray, List.nil_append, List.cons_append]
  have hML : M.length ≤ 2513169434915 := Nat.le_trans h.len hm
  have HL := Lib.hid (callsIn_wide (n := 6 - 1).2 (len_st h))
  have HH := Lib.hid h
  have HMK := Lib.hid (fun u => make_items M.length (by omega) u)
  clear h
  gi_wp2_with (refine ⟨trivial, ?_⟩; gi_at_call 16; (with_reducible refine HL.out.mono ?_); rintro e w2 ⟨rfl, hb2⟩; obtain ⟨Z, hZ, hmk⟩ := HMK.out w2)
  refine ⟨trivial, ?_⟩
  obtain ⟨V, hV⟩ : ∃ V, V = (w2.alloc (.cells Z 31)).alloc (.cells #[.slice (some ⟨w2.heap.size, 0, none⟩) 0 M.length] 25) := ⟨_, rfl⟩
  obtain ⟨W, hW⟩ : ∃ W, W = V.alloc (.cells #[.pointer (some ⟨sb, 0, none⟩)] 23) := ⟨_, rfl⟩
  have s2 := hb2.size
  have z1 : (w2.alloc (.cells Z 31)).heap.size = w2.heap.size + 1 := by simp
  have z2 : V.heap.size = w2.heap.size + 2 := by rw [hV]; simp
  have z3 : W.heap.size = w2.heap.size + 3 := by rw [hW]; simp [z2]
  have hbW : Below w2.heap.size w2 W := by rw [hW, hV]; exact (((Below.refl _ w2).alloc (Nat.le_refl _) _).alloc (by simp) _).alloc (by simp; omega) _
  have hrow : W.ownsRow w.heap.size 31 4 (.slice (some ⟨w2.heap.size, 0, none⟩) 0 M.length) 0 (([] : List (Int × Kept)).flatMap iE) := by
    have h : (w2.alloc (.cells Z 31)).ownsRow w.heap.size 31 4 (.slice (some ⟨w2.heap.size, 0, none⟩) 0 M.length) 0 (([] : List (Int × Kept)).flatMap iE) := World.ownsRow_made w2 Z _ s2 (by unfold maxLen; omega) hZ
    rw [hW, hV]
    exact World.ownsRow.alloc (w := _) (World.ownsRow.alloc (w := _) h _) _
  have hbox : Blk W (w2.heap.size + 1) 25 #[.slice (some ⟨w2.heap.size, 0, none⟩) 0 M.length] := by
    rw [hW, hV, ← z1]
    exact (Blk.new _ _ _).alloc _
  have hp : W.cell? ⟨w2.heap.size + 2, 0, none⟩ = some (.pointer (some ⟨sb, 0, none⟩)) := by
    rw [hW, ← z2]
    exact (Blk.new _ _ _).cell 0
  have hlow : Below w.heap.size w W := hb2.trans (hbW.mono s2)
  have hst := HH.out.below hlow
  have hTl : ∀ i, T i → i < w.heap.size := fun i e => (HH.out.low e).2
  rw [← hV]
  refine (callsIn_wide (n := 5).2 (each_any (some ⟨sb, 0, none⟩) V)).mono ?_
  rintro e w4 ⟨rfl, rfl⟩
  rw [← hW, z2]
  have hEV : eachV (w2.heap.size + 2) = .func (.func 32) #[] #[.pointer (some ⟨w2.heap.size + 2, 0, none⟩)] := rfl
  rw [hEV]
  clear hV hW HL HMK hmk hZ hEV hb2
  gi_wp2
  have HT := each_tells (m := m) hst (by omega) hm hp (6 - 1) (by omega)
  refine range_told (P := Try.prog) (n := 6) (gf := 32) (lb := #[.pointer (some ⟨w2.heap.size + 2, 0, none⟩)]) rfl (enters_of Try.func32 (by kernel_rfl) rfl) HT (Below.refl _ _) (fun i e => ?_) (fun _ => rfl)
    (fun i => i = w2.heap.size + 1 ∨ i = w2.heap.size) (fun i e e2 => ?_) (fun i e => ?_) (fun B pre V => Is w M (w2.heap.size + 1) (fun i => i = w2.heap.size + 1 ∨ i = w2.heap.size) B pre V ∧ B ≤ V.heap.size ∧ Below w.heap.size w V) (fun _ _ _ _ => False)
    (fun B s X Y row hs hg hr => ?_) (fun _ _ _ _ _ _ hs _ _ => hs) (fun W1 hW1 => ?_) ?round ?done (fun _ _ _ _ _ _ h => h.elim)
  · rcases e with e | e
    · have := hTl i e; omega
    · omega
  · rcases e2 with e2 | e2
    · have := hTl i e2
      rcases e with e | e <;> omega
    · rcases e with e | e <;> omega
  · rcases e with e | e <;> omega
  · exact ⟨hs.1.kept hg fun r e => ⟨by have := (hr r e).1; omega, (hr r e).2⟩, Nat.le_trans hs.2.1 hg.size, hs.2.2.grown hg hs.2.2.size fun k e => by have := (hr k e).1; omega⟩
  · have h1 := hlow.trans (hW1.mono (by omega))
    exact ⟨⟨h1, ⟨_, _, hbox.below hW1 (by omega), own_below hrow hW1 (Nat.le_refl _), fun g e => by
      simp only [Value.ownBlock, Option.some.injEq] at e
      exact .inl (.inr e.symm)⟩, Nat.zero_le _, rfl, fun q hq => by simp at hq⟩, Nat.le_refl _, h1⟩
  case round =>
    rintro B l pre ⟨id, x, A, c⟩ V hl ⟨his, hBV, hbV⟩ hpr
    clear HT hrow hbox hp hst hlow
    simp only [iV]
    gi_wp2
    have hal : V.grownBy (V.alloc (.cells #[.int .u64 id, .int .i64 x.tag, .slice A x.vec.length c, .string x.str] 31)) none := World.grownBy_alloc V _ none
    have hwW : w.heap.size ≤ W.heap.size := by omega
    refine ⟨⟨(KeepsOthers.alloc _ _).from _, (Only.refl _ _).alloc _⟩, fun W2 ht => ?_⟩
    have hbx := blk_kept (Blk.new V 31 #[.int .u64 id, .int .i64 x.tag, .slice A x.vec.length c, .string x.str]) ht.grown ht.rows
    have his2 := (his.kept hal (fun r e => by cases e)).kept ht.grown (fun r e => ⟨by injection e with e; omega, ht.rows r e⟩)
    obtain ⟨hp1, hp2, hp3, hp4⟩ := hpr
    have hpr2 : Pr w.heap.size M pre (id, ⟨x, A, c⟩) W2 := ⟨hp1, hp2, hp3, own_base (own_kept (own_kept hp4 hal (fun r e => by cases e)) ht.grown ht.rows) hwW⟩
    have hB2 : B ≤ W2.heap.size := by rw [ht.size]; simp; omega
    have hplt := (List.getElem?_eq_some_iff.1 hp1).1
    obtain ⟨A', c', h1, h2, h3⟩ := his2.box
    have f1 := h1.frozen 0
    have f0 : W2.cell? ⟨w2.heap.size + 1, 0, none⟩ = some (.slice A' pre.length c') := h1.cell 0
    obtain ⟨x0, x1, x2, x3, -⟩ := cells4' hbx
    have HNX := Lib.hid (fun v4 w4 => Is.next (v4 := v4) (w4 := w4) his2 hpr2 (.inl rfl) (by omega) hB2 h1 h2 h3)
    have hbw2 := his2.low
    have sw2 := hbw2.size
    obtain ⟨i0, z0, hi, hz, hsz, hby, hzs⟩ := itemK
    have hcl := lit_cells W2 (iE (id, ⟨x, A, c⟩)) 31
    have HKO := Lib.hid (fun w4 v4 g0 => keeps_append (w4 := w4) (u := v4) (g0 := g0) h2 (.cells (iE (id, (⟨x, A, c⟩ : Kept))).toArray 31))
    clear his his2 hpr2 hal hbx hp1 hp2 hp3 hp4 h1 h3
    gi_wp2_with (gi_at_builtin
                 go_loud (refine wpListIn_append_own_at _ rfl (.tmp 11) (.tmp 13) 25 rfl w.heap.size 31 i0 z0 4 56 Try.underlying25 hi hz hsz hby hzs (by decide) (.slice A' pre.length c') pre.length (pre.flatMap iE) rfl (World.ownsRow.alloc (w := W2) h2 _) ⟨W2.heap.size, 0, none⟩ 1 1 (iE (id, ⟨x, A, c⟩)) rfl rfl hcl (fun u hu => iE_one [(id, (⟨x, A, c⟩ : Kept))] u (by simpa using hu)) (by unfold maxLen; omega) (by omega) (by simp; omega) ?_)
                 intro v4 w4 hown4 hg4 _ hat4
                 obtain ⟨d0, d1, ho4, his4⟩ := HNX.out v4 w4 hown4 hg4 hat4
                 have HK4 := Lib.hid (HKO.out w4 v4 (w2.heap.size + 1) hg4)
                 obtain ⟨A4, c4, rfl, -⟩ := own_slice hown4
                 have HO4 := Lib.hid ho4
                 have HI4 := Lib.hid his4
                 clear hown4 hg4 hat4 ho4 his4 HNX HKO)
    exact ⟨HK4.out.from _, HO4.out, HI4.out, Nat.le_trans hB2 HO4.out.size, HI4.out.low⟩
  case done =>
    rintro B D ys V hD hM ⟨his, -, hbV⟩ hK
    obtain ⟨A, c, h1, h2, -⟩ := his.box
    have c0 : V.cell? ⟨w2.heap.size + 1, 0, none⟩ = some (.slice A ys.length c) := h1.cell 0
    have hdr := fun r (e : some D = some r) => (show w.heap.size ≤ r ∧ ∃ o : Obj, V.heap[r]? = some o ∧ o.isCells = false by
      injection e with e
      subst e
      exact ⟨by omega, _, hK, rfl⟩)
    have HE : Hid (ItemsP w M (.returned (.slice A ys.length c)) (V.putObj D (.deferred none))) := Lib.hid (by
      have hg := grownBy_putObj' V D (.deferred none)
      have h4 := his.kept hg hdr
      exact ⟨A, c, ys, rfl, own_kept h2 hg (fun r e => (hdr r e).2), hM, h4.owns, h4.low⟩)
    clear HT hrow hbox hp hst hlow his h1 h2 hdr
    gi_wp2
    refine ⟨by simp, .inl ⟨_, _, rfl, run_takeDeferred hK, ?_⟩⟩
    refine ⟨.slice A ys.length c, ?_, HE.out⟩
    simp [results, Try.f18, go_sem]
end Go.Proofs.Ytaickhhbdbbmjaa.store
