/-
  The contract of add: a row more.
-/
import Derived.Test.YtgbjpobgjmkjgaaGreatTbF
import Derived.Deep.RegionLaw
namespace Go.Proofs.YtgbjpobgjmkjgaaGreat.tab
open Go.RowKit Go.WideShapes law bytes only flat nums ord obj metric pv lae Go.Maps
open told (own_types blk_types)
set_option linter.unusedVariables false

/-! ### turns of blocks of other types -/
def Off (w : World) (S : Nat → Prop) : Prop := ∀ i t, S i → Ty w i t → t ≠ 108 ∧ t ≠ 3 ∧ t ≠ 21 ∧ t ≠ 35
section
variable {w w' : World} {base tb g mb : Nat} {n k most : Int} {T S : Nat → Prop} {vP vR : Value} {P : List At} {R : List Ro} {r : Ro} {A : Option Addr} {xs : List Value}
theorem Off.map {D : DataW Unit} {m : Nat} (h : w.ownsMap Tryz.prog 32 (plainElem (H := Unit) Tryz.prog 3) mb m D) : Off w (· = mb) := fun i t e hy => by
  subst e
  exact (Ty.map h hy).elim
theorem Off.row {m : Nat} {v : Value} {xs : List Value} (h : w.ownsRow base 109 1 v m xs) : Off w (fun i => v.ownBlock = some i) := fun i t e hy => by
  rw [hy.one (Ty.own h e)]
  decide
theorem Off.tab {cs : Array Value} (h : Blk w tb 95 cs) : Off w (· = tb) := fun i t e hy => by
  subst e
  rw [hy.one (Ty.blk h)]
  decide
theorem Rx.off (h : Rx w base n T P r) (o : Only S w w') (hS : Off w S) : Rx w' base n T P r :=
  h.turn o (fun e => (hS _ _ e (Ty.blk h.blk)).1 rfl) (fun i e e2 => (hS _ _ e2 (Ty.own h.ints e)).2.1 rfl) fun i e e2 => (hS _ _ e2 e).2.2.1 rfl
theorem piv_off {m : Nat} (h : w.ownsRow base 35 3 vP m xs) (o : Only S w w') (hS : Off w S) : w'.ownsRow base 35 3 vP m xs := own_only h o fun i e e2 => (hS _ _ e2 (Ty.own h e)).2.2.2 rfl
theorem Vc.off (h : Vc w T A xs) (o : Only S w w') (hS : Off w S) : Vc w' T A xs := h.only o fun i _ e e2 => (hS _ _ e2 e).2.2.1 rfl
/-- blocks that were made since -/
def More (B : Nat) (T : Nat → Prop) (w' : World) (i : Nat) : Prop := T i ∨ B ≤ i ∧ i < w'.heap.size
theorem nv_new (x : Value) (b : Nat) : True := trivial
set_option maxHeartbeats 1600000 in
/-- a row more: the map, the row of pointers, the table's cell -/
theorem add_fin {w1 w2 : World} {B : Nat} {D : DataW Unit} {v4 : Value} (h : Tx w base tb g mb n k most T vP vR P R) (hB : base ≤ B) (hBw : B ≤ w.heap.size) (hnew : (ids R).contains r.id = false) (hwf : (Lit.int .u64 r.id).wf = true) (hbf : Bf r.t.x)
    (hv : w.ownsRow B 3 1 r.v P.length (nv (fs n P r.t.x))) (hvT : ∀ i, r.v.ownBlock = some i → ¬ T i) (hx : w.ownsRow B 21 1 (.slice r.t.a r.t.x.vec.length r.t.c) r.t.x.vec.length (iv r.t.x.vec))
    (ho1 : Only (· = mb) w w1) (hm1 : w1.ownsMap Tryz.prog 32 (plainElem (H := Unit) Tryz.prog 3) mb (R.length + 1) D) (hD : Pl D (ids R ++ [r.id]))
    (ho2 : Only (fun i => vR.ownBlock = some i) w1 w2) (hb : w1.heap.size ≤ r.b) (hblk : Blk w2 r.b 108 (roC r)) (hrow : w2.ownsRow base 109 1 v4 (R.length + 1) (pts R ++ [ptr r.b]))
    (hv4 : v4.ownBlock = vR.ownBlock ∨ ∃ i, v4.ownBlock = some i ∧ w1.heap.size ≤ i) :
    Tx (w2.setCell ⟨tb, 3, none⟩ v4) base tb g mb n k most (More B T w2) vP v4 P (R ++ [r]) ∧ Only T w (w2.setCell ⟨tb, 3, none⟩ v4) := by
  obtain ⟨w3, hw3⟩ : ∃ w3, w3 = w2.setCell ⟨tb, 3, none⟩ v4 := ⟨_, rfl⟩
  have hz3 : w3.heap.size = w2.heap.size := by rw [hw3]; simp [World.setCell]
  have s1 := ho1.size
  have s2 := ho2.size
  have hgb := h.gb
  have hlow := h.low
  obtain ⟨D0, hm0, -⟩ := h.map
  have f1 : Off w (· = mb) := Off.map hm0
  have htb1 : tb ≠ mb := fun e => Ty.map (hm0) (e ▸ Ty.blk h.blk)
  have blk1 := Blk.only h.blk ho1 htb1
  have rows1 : w1.ownsRow base 109 1 vR R.length (pts R) := own_only h.rows ho1 fun i e e2 => Ty.map hm0 (e2 ▸ Ty.own h.rows e)
  have f2 : Off w1 (fun i => vR.ownBlock = some i) := Off.row rows1
  have hne2 : vR.ownBlock ≠ some tb := blk_types rows1 blk1 (by decide)
  have blk2 := Blk.only blk1 ho2 hne2
  have f3 : Off w2 (· = tb) := Off.tab blk2
  have ho3 : Only (· = tb) w2 w3 := by rw [hw3]; exact Only.setCell (S := (· = tb)) (p := ⟨tb, 3, none⟩) (Only.refl _ _) (.inl rfl) _
  have hgR : ¬ vR.ownBlock = some g := fun e => by have := (hlow _ (h.tR _ e)).1; omega
  have hgm : ¬ g = mb := fun e => by have := (hlow _ h.tm).1; omega
  have hgt : ¬ g = tb := fun e => h.tbg e.symm
  have hmap2 : ∀ i, vR.ownBlock = some i → ¬ mb = i := fun i e e2 => Ty.map hm1 (e2 ▸ Ty.own rows1 e)
  have hm2 : w2.ownsMap Tryz.prog 32 (plainElem (H := Unit) Tryz.prog 3) mb (R.length + 1) D := map_only hm1 ho2 fun e => hmap2 _ e rfl
  have hm3 := map_only hm2 ho3 fun e => htb1 e.symm
  have hm : ∀ i, T i → More B T w2 i := fun i e => .inl e
  have hlt3 : ∀ i, i < w3.heap.size → B ≤ i → More B T w2 i := fun i e e2 => .inr ⟨e2, by omega⟩
  rw [← hw3]
  have hblk3 : Blk w3 tb 95 #[.pointer (some ⟨g, 0, none⟩), .int .i64 most, vP, v4, .map (some mb)] := by
    rw [hw3]
    exact blk2.set_ 3 v4
  have hints : w3.ownsRow base 3 1 r.v P.length (nv (fs n P r.t.x)) := by
    have q0 := own_only hv ho1 fun i e e2 => Ty.map hm0 (e2 ▸ Ty.own hv e)
    have q1 := own_only q0 ho2 fun i e e2 => (f2 i _ e2 (Ty.own q0 e)).2.1 rfl
    have q2 := own_only q1 ho3 fun i e e2 => (f3 i _ e2 (Ty.own q1 e)).2.1 rfl
    exact pv.own_base q2 hB
  have hvec : Vc w3 (More B T w2) r.t.a (iv r.t.x.vec) := by
    have q0 : Vc w (fun i => B ≤ i ∧ i < w.heap.size) r.t.a (iv r.t.x.vec) := Vc.own hx fun i e => own_lt hx e
    have q3 := ((q0.off ho1 f1).off ho2 f2).off ho3 f3
    exact q3.mono fun i e => .inr ⟨e.1, by omega⟩
  have hvlt : ∀ i, r.v.ownBlock = some i → B ≤ i ∧ i < w.heap.size := fun i e => own_lt hv e
  refine ⟨⟨hblk3, Blk.only (Blk.only (Blk.only h.mt ho1 hgm) ho2 hgR) ho3 hgt, hgb, piv_off (piv_off (piv_off h.piv ho1 f1) ho2 f2) ho3 f3, ?_, ⟨D, ?_, ?_⟩, ?_, ?_, h.bP, ?_, ?_, ?_, .inl h.tt, .inl h.tm, fun i e => .inl (h.tP i e), ?_⟩, ?_⟩
  · have e1 : (R ++ [r]).length = R.length + 1 := by simp
    have e2 : pts (R ++ [r]) = pts R ++ [ptr r.b] := by simp [pts]
    rw [e1, e2]
    exact own_only hrow ho3 fun i e e2 => blk_types hrow blk2 (by decide) (e2 ▸ e)
  · have e1 : (R ++ [r]).length = R.length + 1 := by simp
    rw [e1]
    exact hm3
  · have e2 : ids (R ++ [r]) = ids R ++ [r.id] := by simp [ids]
    rw [e2]
    exact hD
  · intro q hq
    rcases List.mem_append.1 hq with hq | hq
    · exact ((((h.rx q hq).off ho1 f1).off ho2 f2).off ho3 f3).mono hm
    · simp only [List.mem_singleton] at hq
      subst hq
      have hb3 := Blk.only hblk ho3 fun e => (f3 _ _ e (Ty.blk hblk)).1 rfl
      have hl := hb3.lt
      exact ⟨hb3, by omega, hints, hvec, hbf, hwf, .inr ⟨by omega, by omega⟩, fun i e => .inr ⟨(hvlt i e).1, by have := (hvlt i e).2; omega⟩⟩
  · exact fun p hp => ((((h.vecP p hp).off ho1 f1).off ho2 f2).off ho3 f3).mono hm
  · refine List.pairwise_append.2 ⟨h.ap, List.pairwise_singleton _ _, fun q hq s hs => ?_⟩
    simp only [List.mem_singleton] at hs
    subst hs
    have hq1 := h.rx q hq
    refine ⟨fun e => ?_, fun i e e2 => hvT i e2 (hq1.tv i e)⟩
    have := (hlow _ hq1.tb).2
    omega
  · have e2 : ids (R ++ [r]) = ids R ++ [r.id] := by simp [ids]
    rw [e2]
    refine List.nodup_append.2 ⟨h.nd, by simp, fun a ha b hb e => ?_⟩
    simp only [List.mem_singleton] at hb
    rw [e, hb] at ha
    have : (ids R).contains r.id = true := by simpa using ha
    rw [this] at hnew
    cases hnew
  · intro i e
    rcases e with e | e
    · exact ⟨(hlow i e).1, by have := (hlow i e).2; omega⟩
    · exact ⟨by omega, by omega⟩
  · intro i e
    rcases hv4 with e4 | ⟨j, e4, hj⟩
    · rw [e4] at e
      exact .inl (h.tR i e)
    · have hl := (own_lt hrow e).2
      rw [e4] at e
      injection e with e
      subst e
      exact .inr ⟨by omega, hl⟩
  · exact ((ho1.mono (T := T) fun i e => .inl (by rw [e]; exact h.tm)).trans ho2 fun i e => .inl (h.tR i e)).trans ho3 fun i e => .inl (by rw [e]; exact h.tt)
/-- what add leaves: a row more -/
def Added (w : World) (base tb g mb : Nat) (n k most : Int) (T : Nat → Prop) (vP : Value) (P : List At) (R : List Ro) (B : Nat) (id : Int) (x : At) (v : Value) (e : Ending) (w' : World) : Prop :=
  e = .returned (.tuple #[]) ∧ ∃ b v4 T', Tx w' base tb g mb n k most T' vP v4 P (R ++ [⟨id, x, b, v⟩]) ∧ Only T w w' ∧ ∀ i, T' i → T i ∨ B ≤ i
theorem ptrK : ElemK Tryz.prog 109 1 8 := elemK_mk (z := .pointer none) (by kernel_rfl) rfl
set_option maxRecDepth 100000 in
set_option maxHeartbeats 3200000 in
theorem add_any {B : Nat} {id : Int} {x : At} {Av : Option Addr} {cv : Nat} (h : Tx w base tb g mb n k most T vP vR P R) (hB : base ≤ B) (hBw : B ≤ w.heap.size) (hnew : (ids R).contains id = false) (hwf : (Lit.int .u64 id).wf = true) (hbf : Bf x.x)
    (hv : w.ownsRow B 3 1 (.slice Av P.length cv) P.length (nv (fs n P x.x))) (hvT : ∀ i, (Value.slice Av P.length cv).ownBlock = some i → ¬ T i) (hx : w.ownsRow B 21 1 (.slice x.a x.x.vec.length x.c) x.x.vec.length (iv x.x.vec)) (hR : R.length ≤ 1048576) :
    Calls Tryz.prog 94 #[.pointer (some ⟨tb, 0, none⟩), .agg #[.int .u64 id, .int .i64 x.x.tag, .slice x.a x.x.vec.length x.c, .string x.x.str], .slice Av P.length cv] w (Added w base tb g mb n k most T vP P R B id x (.slice Av P.length cv)) := by
  obtain ⟨V, hV⟩ : ∃ V, V = w.alloc (.cells #[.int .u64 id, .int .i64 x.x.tag, .slice x.a x.x.vec.length x.c, .string x.x.str] 37) := ⟨_, rfl⟩
  have hbV : Below w.heap.size w V := by rw [hV]; exact (Below.refl _ _).alloc (Nat.le_refl _) _
  have hkx : Blk V w.heap.size 37 #[.int .u64 id, .int .i64 x.x.tag, .slice x.a x.x.vec.length x.c, .string x.x.str] := by rw [hV]; exact Blk.new w _ _
  have hzV : V.heap.size = w.heap.size + 1 := by rw [hV]; simp
  have hV1 := h.below hbV
  have hvV := own_below hv hbV (Nat.le_refl _)
  have hxV := own_below hx hbV (Nat.le_refl _)
  obtain ⟨D, hm, hpl⟩ := hV1.map
  obtain ⟨AR, cR, rfl, hcR⟩ := own_slice h.rows
  have hkey : keyOf Tryz.prog 32 (.int .u64 id) = some (.int .u64 id) := keyOf_int_mk Tryz.underlying32 hwf
  have hval : plainElem (H := Unit) Tryz.prog 3 (.int .i64 (R.length : Int)) = some (.lit (.int .i64 (R.length : Int)), []) := plainElem_int Tryz.underlying3 (by simp [Lit.wf, IntKind.min, IntKind.max, IntKind.signed, IntKind.bits]; omega)
  have hbb : w.heap.size ≠ mb := fun e => by
    have := (h.low _ h.tm).2
    omega
  have hlt := (h.low _ h.tt).2
  have HSS : Hid (∀ W, Only (· = mb) V W → W.cell? ⟨tb, 4, none⟩ = some (.map (some mb)) ∧ W.cell? ⟨w.heap.size, 0, none⟩ = some (.int .u64 id) ∧ W.cell? ⟨tb, 3, none⟩ = some (.slice AR R.length cR)) := Lib.hid fun W hW => by
    have b1 := Blk.only hV1.blk hW fun e => Ty.map hm (e ▸ Ty.blk hV1.blk)
    have b2 := Blk.only hkx hW hbb
    exact ⟨b1.cell 4, b2.cell 0, b1.cell 3⟩
  have HM := Lib.hid (And.intro hm hval)
  have HV := Lib.hid hV
  have hpl2 := hpl.put hnew
  rw [ids_length] at hpl2
  -- what is left to do behind the map's turn
  have HF : Hid (∀ w1, w1.ownsMap Tryz.prog 32 (plainElem (H := Unit) Tryz.prog 3) mb (R.length + 1) (D.put (ky id) (.lit (.int .i64 (R.length : Int)))) → Only (· = mb) V w1 →
      (w1.cell? ⟨tb, 3, none⟩ = some (.slice AR R.length cR) ∧ w1.ownsRow base 109 1 (.slice AR R.length cR) R.length (pts R) ∧ w.heap.size + 1 ≤ w1.heap.size ∧
        (w1.cell? ⟨w.heap.size, 0, none⟩ = some (.int .u64 id) ∧ w1.cell? ⟨w.heap.size, 1, none⟩ = some (.int .i64 x.x.tag) ∧ w1.cell? ⟨w.heap.size, 2, none⟩ = some (.slice x.a x.x.vec.length x.c) ∧ w1.cell? ⟨w.heap.size, 3, none⟩ = some (.string x.x.str))) ∧
      ∀ w2 v4, ((w1.drew.alloc (.cells (roC ⟨id, x, w1.heap.size, .slice Av P.length cv⟩) 108)).alloc (.cells #[ptr w1.heap.size] 109)).grownBy w2 (Value.slice AR R.length cR).ownBlock → (v4.ownBlock = (Value.slice AR R.length cR).ownBlock ∨ v4.ownBlock = some (w1.heap.size + 2)) →
        w2.ownsRow base 109 1 v4 (R.length + 1) (pts R ++ [ptr w1.heap.size]) →
        (∃ cx, w2.cell? ⟨tb, 3, none⟩ = some cx) ∧ w2.frozen? ⟨tb, 3, none⟩ = false ∧ w2.cell? ⟨tb, 3, none⟩ = some (.slice AR R.length cR) ∧ Added w base tb g mb n k most T vP P R B id x (.slice Av P.length cv) (.returned (.tuple #[])) (w2.setCell ⟨tb, 3, none⟩ v4)) := Lib.hid fun w1 hw1 ho1 => by
    have htb1 : tb ≠ mb := fun e => Ty.map hm (e ▸ Ty.blk hV1.blk)
    have b1 := Blk.only hV1.blk ho1 htb1
    have b2 := Blk.only hkx ho1 hbb
    have r1 : w1.ownsRow base 109 1 (.slice AR R.length cR) R.length (pts R) := own_only hV1.rows ho1 fun i e e2 => Ty.map hm (e2 ▸ Ty.own hV1.rows e)
    have s1 := ho1.size
    refine ⟨⟨b1.cell 3, r1, by omega, b2.cell 0, b2.cell 1, b2.cell 2, b2.cell 3⟩, fun w2 v4 hg hv4 hrow => ?_⟩
    have hO : Only (fun i => (Value.slice AR R.length cR).ownBlock = some i) w1 w2 := (((Only.refl _ w1).drew.alloc _).alloc _).trans (Only.of_grown hg fun j e => .inl e) fun j e => .inl e
    have b3 := Blk.only b1 hO (blk_types r1 b1 (by decide))
    have hblk : Blk w2 w1.heap.size 108 (roC ⟨id, x, w1.heap.size, .slice Av P.length cv⟩) := by
      have q0 : Blk (w1.drew.alloc (.cells (roC ⟨id, x, w1.heap.size, .slice Av P.length cv⟩) 108)) w1.heap.size 108 (roC ⟨id, x, w1.heap.size, .slice Av P.length cv⟩) := Blk.new w1.drew _ _
      refine (q0.alloc _).grown hg fun e => ?_
      have := (own_lt r1 e.symm).2
      omega
    have hz2 : w1.heap.size + 2 ≤ w2.heap.size := by
      have := hg.size
      simp at this
      exact this
    obtain ⟨hT, hO2⟩ := add_fin (r := ⟨id, x, w1.heap.size, .slice Av P.length cv⟩) hV1 hB (by omega) hnew hwf hbf hvV hvT hxV ho1 hw1 hpl2 hO (Nat.le_refl _) hblk hrow (hv4.imp (fun e => e) fun e => ⟨_, e, by omega⟩)
    refine ⟨⟨_, b3.cell 3⟩, b3.frozen 3, b3.cell 3, rfl, w1.heap.size, v4, _, hT, (Only.of_below hbV (Nat.le_refl _) _).trans hO2 fun i e => .inl e, fun i e => e.imp (fun e => e) fun e => e.1⟩
  have q := HSS.out V (Only.refl _ _)
  obtain ⟨q4, q0, q3⟩ := q
  have hRb : R.length < maxLen := by unfold maxLen; omega
  obtain ⟨w1, hrun, hown1, hg1⟩ := (World.ownsMap.drew hm).update (t := 92) (e := 3) idx.mlaw Tryz.underlying92 hRb hkey hval
  have hO1 : Only (· = mb) V w1 := (Only.refl _ V).drew.trans (Only.of_grown hg1 (S := (· = mb)) fun j e => .inl (by injection e with e; exact e.symm)) fun j e => .inl e
  have HRL := Lib.hid hR
  have hbl : base ≤ w.heap.size := by omega
  clear hV1 hvV hxV hkx hbV hm hpl hpl2 hval hv hvT hx hnew hbf h hcR hR hB hBw hbb hV
  go_enter Tryz.func94, Tryz.ntmps94
  go_wp2_with (fail)
  rw [← HV.out]
  go_region_held3 (fun W => W.cell? ⟨tb, 4, none⟩ = some (.map (some mb)) ∧ W.cell? ⟨w.heap.size, 0, none⟩ = some (.int .u64 id) ∧ W.cell? ⟨tb, 3, none⟩ = some (.slice AR R.length cR))
    ((first | (with_reducible assumption) | (refine HSS.out _ ?_; repeat' (first | (with_reducible assumption) | (with_reducible exact Only.refl _ _) | (with_reducible refine Only.drew ?_) | (with_reducible refine Only.drewN ?_ _)))))
    (fail)
  obtain ⟨⟨c3, hrow1, hz1, x0, x1, x2, x3⟩, hK⟩ := HF.out w1 hown1 hO1
  have HK := Lib.hid hK
  have c3a : (w1.alloc (.cells #[.int .u64 id, .int .i64 x.x.tag, .slice x.a x.x.vec.length x.c, .string x.x.str, .slice Av P.length cv] 108)).cell? ⟨tb, 3, none⟩ = some (.slice AR R.length cR) := (World.cell?_alloc_lt w1 _ ⟨tb, 3, none⟩ (show tb < w1.heap.size by omega)).trans c3
  have c3b : ((w1.alloc (.cells #[.int .u64 id, .int .i64 x.x.tag, .slice x.a x.x.vec.length x.c, .string x.x.str, .slice Av P.length cv] 108)).alloc (.cells #[.pointer (some ⟨w1.heap.size, 0, none⟩)] 109)).cell? ⟨tb, 3, none⟩ = some (.slice AR R.length cR) := (World.cell?_alloc_lt _ _ ⟨tb, 3, none⟩ (show tb < _ by simp; omega)).trans c3a
  have hsl := Sl.lit ((w1.drewN 1).alloc (.cells #[.int .u64 id, .int .i64 x.x.tag, .slice x.a x.x.vec.length x.c, .string x.x.str, .slice Av P.length cv] 108)) [ptr w1.heap.size] 109
  rw [show ((w1.drewN 1).alloc (.cells #[.int .u64 id, .int .i64 x.x.tag, .slice x.a x.x.vec.length x.c, .string x.x.str, .slice Av P.length cv] 108)).heap.size = w1.heap.size + 1 by simp [World.drewN]] at hsl
  have HSL := Lib.hid hsl
  have hbl2 : base ≤ w1.heap.size := by omega
  clear hK hsl hown1 hg1 hrun hO1 q4 q0 q3 HSS HF HM hkey
  go_wp2_with (fail)
  go_region_law (refine step_append_slk _ (by rfl) _ _ _ (by rfl) base 109 1 8 Tryz.underlying93 ptrK (by omega) (.slice AR R.length cR) R.length (pts R) (by rfl) (World.ownsRow.alloc (World.ownsRow.alloc (w := w1.drewN 1) hrow1 _) _) _ _ 1 1 [ptr w1.heap.size] (by rfl) HSL.out rfl (by simp [ptr, Value.oneCell']) (by have := HRL.out; omega) (by have := HRL.out; unfold maxLen; omega) (by simp; omega) ?_; intro v4 w4 hown4 hg4 hat4; obtain ⟨A4, c4, rfl, hc4⟩ := own_slice hown4; obtain ⟨-, hf1, hd2, hx4⟩ := HK.out w4 _ hg4 (hat4.imp (fun e => e) fun e => e.trans (by simp)) hown4)
  all_goals
    have HX := Lib.hid hx4
    clear hx4 hg4 hown4 hat4
    go_wp2_with (fail)
    refine bodyPost_ret (v := .tuple #[]) (by simp [results, Tryz.results94, go_sem]) rfl ?_
    exact HX.out
end
end Go.Proofs.YtgbjpobgjmkjgaaGreat.tab
