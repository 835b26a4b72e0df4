/-
  For every item the law StoreNone returns true, and changes nothing that there was. No condition.
-/
import Derived.Test.YtaickhhbdbbmjaaStO
import Derived.Test.YtaickhhbdbbmjaaStJ
namespace Go.Proofs.Ytaickhhbdbbmjaa.storeNone
open Go.RowKit Go.Shelf law bytes only flat ord obj told store
open aro (Kept zK)
open Go.ChangeShapes Go.WideShapes Go.ChangeAt
set_option linter.unusedVariables false
attribute [local go_sem] Oper.semAt_some

/-- a nil store hands nothing on -/
theorem each_none {w : World} {p : Nat} (hp : w.cell? ⟨p, 0, none⟩ = some (.pointer none)) (n : Nat) (hn : 3 ≤ n) (encs : Unit → Array Value) (T : Nat → Prop) :
    Hands Try.prog n 32 #[.pointer (some ⟨p, 0, none⟩)] encs T (fun _ _ _ => False) (fun _ => True) w := by
  intro l C J Jx W hW hC hCl hJ hJx hY h0
  have hlt := World.block_lt_of_cell? w _ hp
  refine callsIn_of_wp Try.func32 rfl trivial ?_ rfl
  simp only [Try.ntmps32, List.size_toArray, List.length_cons, List.length_nil, Nat.reduceAdd, Nat.reduceSub, Array.replicate_succ, Array.replicate_zero, List.push_toArray, List.append_toArray, List.nil_append, List.cons_append]
  have h1 : 1 ≤ n := by omega
  have hey := eql_yield l
  have hmo : Try.prog.follows .mixedOrders = true := by kernel_rfl
  have c0 : W.cell? ⟨p, 0, none⟩ = some (.pointer none) := (hW.cell (p := ⟨p, 0, none⟩) hlt).trans hp
  have HA : Hid (CallsIn Fence.wide (n - 1) Try.prog 33 #[.pointer none] W fun e w' => e = .returned (.slice none 0 0) ∧ W = w') := Lib.hid (callsIn_wide.2 (all_nil W))
  have HJ0 := Lib.hid (h0 W (Below.refl _ _))
  clear hJ hJx hY h0 hC hCl hp hlt hW
  gi_wp2_with (refine ⟨trivial, ?_⟩; gi_at_call 33; (with_reducible refine HA.out.mono ?_); rintro e w2 ⟨rfl, rfl⟩)
  gi_loopw [10] (fun i wr => i = .int .i64 0 ∧ wr = W) (fun i _ => 0)
  case atStart => exact ⟨rfl, rfl⟩
  case round =>
    obtain ⟨rfl, rfl⟩ := hrel
    gi_wp2
    go_end0
    exact ⟨⟨_, rfl⟩, .inl ⟨_, [], trivial, HJ0.out⟩⟩
set_option maxRecDepth 100000 in
set_option maxHeartbeats 3200000 in
theorem items_nil (w : World) : Calls Try.prog 18 #[.pointer none] w fun e w' => ∃ A c, e = .returned (.slice A 0 c) ∧ Below w.heap.size w w' := by
  refine (callsIn_wide (n := 6)).1 ?_
  refine callsIn_of_wp_marks Try.func18 rfl trivial ?_ rfl
  simp only [Try.ntmps18, List.size_toArray, List.length_cons, List.length_nil, Nat.reduceAdd, Nat.reduceSub, Array.replicate_succ, Array.replicate_zero, List.push_toArray, List.append_toArray, List.nil_append, List.cons_append]
  have HL := Lib.hid (callsIn_wide (n := 6 - 1).2 (len_nil w))
  have HMK := Lib.hid (fun u => make_items 0 (by omega) u)
  gi_wp2_with (refine ⟨trivial, ?_⟩; gi_at_call 16; (with_reducible refine HL.out.mono ?_); rintro e w2 ⟨rfl, rfl⟩; obtain ⟨Z, hZ, hmk⟩ := HMK.out w; have e00 : ((0 : Nat) : Int) = 0 := rfl; rw [e00] at hmk)
  refine ⟨trivial, ?_⟩
  obtain ⟨V, hV⟩ : ∃ V, V = (w.alloc (.cells Z 31)).alloc (.cells #[.slice (some ⟨w.heap.size, 0, none⟩) 0 0] 25) := ⟨_, rfl⟩
  obtain ⟨W, hW⟩ : ∃ W, W = V.alloc (.cells #[.pointer none] 23) := ⟨_, rfl⟩
  have z1 : (w.alloc (.cells Z 31)).heap.size = w.heap.size + 1 := by simp
  have z2 : V.heap.size = w.heap.size + 2 := by rw [hV]; simp
  have z3 : W.heap.size = w.heap.size + 3 := by rw [hW]; simp [z2]
  have hbW : Below w.heap.size w W := by rw [hW, hV]; exact (((Below.refl _ w).alloc (Nat.le_refl _) _).alloc (by simp) _).alloc (by simp; omega) _
  have hbox : Blk W (w.heap.size + 1) 25 #[.slice (some ⟨w.heap.size, 0, none⟩) 0 0] := by
    rw [hW, hV, ← z1]
    exact (Blk.new _ _ _).alloc _
  have hp : W.cell? ⟨w.heap.size + 2, 0, none⟩ = some (.pointer none) := by
    rw [hW, ← z2]
    exact (Blk.new _ _ _).cell 0
  rw [← hV]
  refine (callsIn_wide (n := 5).2 (each_any none V)).mono ?_
  rintro e w4 ⟨rfl, rfl⟩
  rw [← hW, z2]
  have hEV : eachV (w.heap.size + 2) = .func (.func 32) #[] #[.pointer (some ⟨w.heap.size + 2, 0, none⟩)] := rfl
  rw [hEV]
  clear hV hW HL HMK hmk hZ hEV
  gi_wp2
  have HT := each_none hp (6 - 1) (by omega) (fun _ => #[.bool true]) (fun _ => False)
  refine range_told (P := Try.prog) (n := 6) (gf := 32) (lb := #[.pointer (some ⟨w.heap.size + 2, 0, none⟩)]) rfl (enters_of Try.func32 (by kernel_rfl) rfl) HT (Below.refl _ _) (fun i e => e.elim) (fun _ => rfl)
    (fun _ => False) (fun _ e => e.elim) (fun _ e => e.elim) (fun _ _ V => Below W.heap.size W V) (fun _ _ _ _ => False)
    (fun B => ownFrom_below (Nat.le_refl _) (Nat.le_refl _)) (fun _ _ _ _ _ _ hs _ _ => hs) (fun W1 hW1 => hW1) (fun _ _ _ _ _ _ _ h => h.elim) ?done (fun _ _ _ _ _ _ h => h.elim)
  case done =>
    rintro B D ys V hD - hbV hK
    have c0 : V.cell? ⟨w.heap.size + 1, 0, none⟩ = some (.slice (some ⟨w.heap.size, 0, none⟩) 0 0) := (hbox.below hbV (by omega)).cell 0
    have HE : Hid (Below w.heap.size w (V.putObj D (.deferred none))) := Lib.hid ((hbW.trans (hbV.mono (by omega))).trans (belowK_b (w := w) (Nat.le_refl _) V D _ _ (by omega) hK rfl rfl))
    clear HT hbox hp hbW hbV
    gi_wp2
    refine ⟨by simp, .inl ⟨_, _, rfl, run_takeDeferred hK, ?_⟩⟩
    refine ⟨.slice (some ⟨w.heap.size, 0, none⟩) 0 0, ?_, _, _, rfl, HE.out⟩
    simp [results, Try.f18, go_sem]
set_option maxRecDepth 100000 in
set_option maxHeartbeats 6400000 in
theorem walk (id : Int) (x : Kept) (w : World) : Calls Try.prog 6 #[iV id x] w fun e w' => e = .returned (.bool true) ∧ Below w.heap.size w w' := by
  have hIV : iV id x = .agg #[.int .u64 id, .int .i64 x.x.tag, .slice x.A x.x.vec.length x.c, .string x.x.str] := rfl
  rw [hIV]
  refine (callsIn_wide (n := 6)).1 ?_
  refine callsIn_of_wp_marks Try.func6 rfl trivial ?_ rfl
  simp only [Try.ntmps6, List.size_toArray, List.length_cons, List.length_nil, Nat.reduceAdd, Nat.reduceSub, Array.replicate_succ, Array.replicate_zero, List.push_toArray, List.append_toArray, List.nil_append, List.cons_append]
  have hb1 : Below w.heap.size w (w.alloc (.cells #[.int .u64 id, .int .i64 x.x.tag, .slice x.A x.x.vec.length x.c, .string x.x.str] 31)) := (Below.refl _ _).alloc (Nat.le_refl _) _
  have hgx := Blk.new w 31 #[.int .u64 id, .int .i64 x.x.tag, .slice x.A x.x.vec.length x.c, .string x.x.str]
  obtain ⟨c0, c1, c2, c3, -⟩ := cells4' hgx
  have HG : Hid (∀ W, CallsIn Fence.wide (6 - 1) Try.prog 12 #[.pointer none, .int .u64 id] W fun e w' => ∃ A2 c2, e = .returned (.tuple #[.agg #[.int .i64 0, .slice A2 0 c2, .string ⟨#[]⟩], .bool false]) ∧ Below W.heap.size W w') := Lib.hid fun W => callsIn_wide.2 ((get_nil id W).mono fun e w' ⟨A2, c2, he, _, hb⟩ => ⟨A2, c2, he, hb⟩)
  have HB := Lib.hid hb1
  have HX := Lib.hid hgx
  have hlx := hgx.lt
  generalize hV1 : w.alloc (.cells #[.int .u64 id, .int .i64 x.x.tag, .slice x.A x.x.vec.length x.c, .string x.x.str] 31) = V1 at HB HX c0 c1 c2 c3 hlx
  clear hgx hb1 hIV
  gi_wp2_with (refine ⟨trivial, ?_⟩; gi_at_call 12; (with_reducible refine (HG.out _).mono ?_); rintro e w2 ⟨A2, c2', rfl, hb2⟩)
  refine ⟨trivial, ?_⟩
  have s1 := HB.out.size
  have s2 := hb2.size
  obtain ⟨V, hV⟩ : ∃ V, V = w2.alloc (.cells #[.int .i64 0, .slice A2 0 c2', .string ⟨#[]⟩] 29) := ⟨_, rfl⟩
  obtain ⟨V2, hV2⟩ : ∃ W, W = V.alloc (.cells #[.pointer none] 23) := ⟨_, rfl⟩
  have z2 : V.heap.size = w2.heap.size + 1 := by rw [hV]; simp
  have z3 : V2.heap.size = w2.heap.size + 2 := by rw [hV2]; simp [z2]
  have hbW : Below w2.heap.size w2 V2 := by rw [hV2, hV]; exact ((Below.refl _ w2).alloc (Nat.le_refl _) _).alloc (by simp) _
  have hgy : Blk V2 w2.heap.size 29 #[.int .i64 0, .slice A2 0 c2', .string ⟨#[]⟩] := by
    rw [hV2, hV]
    exact (Blk.new _ _ _).alloc _
  have hp : V2.cell? ⟨w2.heap.size + 1, 0, none⟩ = some (.pointer none) := by
    rw [hV2, ← z2]
    exact (Blk.new _ _ _).cell 0
  rw [← hV]
  refine (callsIn_wide (n := 5).2 (each_any none V)).mono ?_
  rintro e w4 ⟨rfl, rfl⟩
  rw [← hV2, z2]
  have hEV : eachV (w2.heap.size + 1) = .func (.func 32) #[] #[.pointer (some ⟨w2.heap.size + 1, 0, none⟩)] := rfl
  have hee := eql_each (w2.heap.size + 1)
  rw [hEV]
  have HHX := Lib.hid ((HX.out.below hb2 hlx).below hbW (Nat.lt_of_lt_of_le hlx s2))
  have HHY := Lib.hid hgy
  have HLW := Lib.hid ((HB.out.trans (hb2.mono s1)).trans (hbW.mono (by omega)))
  have HP := Lib.hid hp
  clear hV hV2 hEV HG hb2 hbW hgy hp c0 c1 c2 c3 HX
  gi_wp2
  obtain ⟨W0, hW0⟩ : ∃ W, W = V2.alloc (.cells #[.int .i64 0] 3) := ⟨_, rfl⟩
  have z4 : W0.heap.size = w2.heap.size + 3 := by rw [hW0]; simp [z3]
  have hb0 : Below V2.heap.size V2 W0 := by rw [hW0]; exact (Below.refl _ _).alloc (Nat.le_refl _) _
  have hgn : Blk W0 (w2.heap.size + 2) 3 #[.int .i64 0] := by
    rw [hW0, ← z3]
    exact Blk.new _ _ _
  rw [← hW0]
  have hT0 := each_none (w := W0) (p := w2.heap.size + 1) ((hb0.cell (p := ⟨w2.heap.size + 1, 0, none⟩) (by show w2.heap.size + 1 < _; omega)).trans HP.out) (6 - 1) (by omega) (fun _ => #[.bool true]) (fun _ => False)
  have HX0 := Lib.hid (HHX.out.below hb0 (by omega))
  have HY0 := Lib.hid (HHY.out.below hb0 (by omega))
  have HL0 := Lib.hid (HLW.out.trans (hb0.mono HLW.out.size))
  have HN0 := Lib.hid hgn
  clear hW0 hgn hb0
  refine range_told (α := Unit) (P := Try.prog) (n := 6) (gf := 32) (lb := #[.pointer (some ⟨w2.heap.size + 1, 0, none⟩)]) rfl (enters_of Try.func32 (by kernel_rfl) rfl) hT0 (Below.refl _ _) (fun i e => e.elim) (fun _ => rfl)
    (fun _ => False) (fun _ e => e.elim) (fun _ e => e.elim) (fun _ _ V => Below W0.heap.size W0 V) (fun _ _ _ _ => False)
    (fun B => ownFrom_below (Nat.le_refl _) (Nat.le_refl _)) (fun _ _ _ _ _ _ hs _ _ => hs) (fun W1 hW1 => hW1) (fun _ _ _ _ _ _ _ h => h.elim) ?done (fun _ _ _ _ _ _ h => h.elim)
  case done =>
    rintro B D ys V hD - hbV hK
    have sV := hbV.size
    have hDl := (Array.getElem?_eq_some_iff.1 hK).1
    have HXV := Lib.hid (HX0.out.below hbV (by omega))
    have HYV := Lib.hid (HY0.out.below hbV (by omega))
    have HNV := Lib.hid (HN0.out.below hbV (by omega))
    have HLV := Lib.hid (HL0.out.trans (hbV.mono HL0.out.size))
    have HKV := Lib.hid hK
    have hPN : ∀ W, CallsIn Fence.wide (6 - 1) Try.prog 10 #[.pointer none, .agg #[.int .u64 id, .int .i64 x.x.tag, .slice x.A x.x.vec.length x.c, .string x.x.str]] W fun e w' => e = .returned (.int .i64 1) ∧ Below W.heap.size W w' := fun W => callsIn_wide.2 (put_nil id x W)
    have HPN := Lib.hid hPN
    have HS : Hid (∀ W, Calls Try.prog 15 #[.agg #[.int .i64 0, .slice A2 0 c2', .string ⟨#[]⟩], .agg #[.int .i64 0, .slice none 0 0, .string ⟨#[]⟩]] W fun e w' => e = .returned (.bool true) ∧ Below W.heap.size W w') := Lib.hid fun W => by
      have h := rsame_any A2 none c2' 0 0 0 zeroO zeroO W (by decide) (by decide) (Nat.zero_le _) (Nat.zero_le _) Sl.nil Sl.nil
      rw [sameO_rfl] at h
      exact h
    obtain ⟨x0, x1, x2, x3, -⟩ := cells4' HXV.out
    have lx := HXV.out.lt
    have ly := HYV.out.lt
    have ln := HNV.out.lt
    clear hT0 hbV hK hPN
    gi_wp2
    refine ⟨trivial, ?_⟩
    refine (HPN.out V).mono ?_
    rintro e w3 ⟨rfl, hb3⟩
    obtain ⟨x0, x1, x2, x3, -⟩ := cells4' (HXV.out.below hb3 lx)
    have HCN := Lib.hid (callsIn_wide (n := 6 - 1).2 (cut_nil id w3))
    gi_wp2
    refine ⟨trivial, ?_⟩
    refine HCN.out.mono ?_
    rintro e w4 ⟨rfl, rfl⟩
    obtain ⟨y0, y1, y2, -⟩ := cells3 (HYV.out.below hb3 ly)
    have HSN := Lib.hid (callsIn_wide (n := 6 - 1).2 (HS.out w3))
    clear HCN
    gi_wp2
    refine ⟨trivial, ?_⟩
    refine HSN.out.mono ?_
    rintro e w5 ⟨rfl, hb5⟩
    have hb5 := hb3.trans (hb5.mono hb3.size)
    obtain ⟨x0, x1, x2, x3, -⟩ := cells4' (HXV.out.below hb5 lx)
    have HHN := Lib.hid (callsIn_wide (n := 6 - 1).2 (has_nil id w5))
    clear HSN
    gi_wp2
    refine ⟨trivial, ?_⟩
    refine HHN.out.mono ?_
    rintro e w6 ⟨rfl, hb6⟩
    have hb6 := hb5.trans (hb6.mono hb5.size)
    have HLN := Lib.hid (callsIn_wide (n := 6 - 1).2 (len_nil w6))
    clear HHN
    gi_wp2
    refine ⟨trivial, ?_⟩
    refine HLN.out.mono ?_
    rintro e w7 ⟨rfl, rfl⟩
    have HIN := Lib.hid (callsIn_wide (n := 6 - 1).2 (items_nil w6))
    clear HLN
    gi_wp2
    refine ⟨trivial, ?_⟩
    refine HIN.out.mono ?_
    rintro e w8 ⟨A8, c8, rfl, hb8⟩
    have hb8 := hb6.trans (hb8.mono hb6.size)
    have n0 : w8.cell? ⟨w2.heap.size + 2, 0, none⟩ = some (.int .i64 0) := (HNV.out.below hb8 ln).cell 0
    have HLIV := Lib.hid (callsIn_wide (n := 6 - 1).2 (lives_any w8))
    clear HIN
    gi_wp2
    refine ⟨trivial, ?_⟩
    refine HLIV.out.mono ?_
    rintro e w9 ⟨rfl, hb9⟩
    have hb9 := hb8.trans (hb9.mono hb8.size)
    have hK9 : w9.heap[D]? = some (.deferred (some [])) := (hb9.block D hDl).trans HKV.out
    have HE : Hid (Below w.heap.size w (w9.putObj D (.deferred none))) := Lib.hid ((HLV.out.trans (hb9.mono HLV.out.size)).trans (belowK_b (w := w) (Nat.le_refl _) w9 D _ _ (by have := HL0.out.size; omega) hK9 rfl rfl))
    clear HLIV
    gi_wp2
    refine ⟨by simp, .inl ⟨_, _, rfl, run_takeDeferred hK9, ?_⟩⟩
    refine ⟨.bool true, ?_, rfl, HE.out⟩
    simp [results, Try.f6, go_sem]
theorem lifted (os : Os) (started : os.Started) (H : Type) (enc : TypeId × Value → H) :
    ReturnsInHanded {} Try.checked os 6 .any (Rows.storeNoneSpec.pre6 enc Try.prog Try.f6 Rows.storeNoneRow.domain false) (Rows.storeNoneSpec.post enc Try.prog Try.f6 false true false false) := by
  refine lift (C := Try.checked) (by kernel_rfl) started (by kernel_rfl) Try.func6 rfl (by kernel_rfl) (by kernel_rfl) rfl Try.underlying4
    (fun ds hd => by match ds, hd with | [_], _ => exact ⟨rfl, rfl, rfl⟩)
    (ChangeSpec.witness6 (enc := enc) (C := Try.checked) false ⟨#[], #[.agg #[.int .u64 0, .int .i64 0, .slice none 0 0, .string ⟨#[]⟩]], []⟩ 8 (by kernel_rfl) (by kernel_rfl) (by kernel_rfl) (by kernel_rfl)) ?_
  intro W base args ds before hval0 hA0 hfz hsz0
  have hval : ∀ (j : Nat) t v, Try.f6.params[j]? = some t → args[j]? = some v → Value.okWide Try.prog W .any base t v := hval0
  have hA : DataW.TrodAll enc Try.prog W 0 (fun _ => true) true Try.f6.params.toList args.toList ds before := hA0
  have hsz : (DataW.weightsEach Try.prog Try.f6.params.toList ds).all (· ≤ reachBytes) = true := hsz0
  rw [Try.params6] at hA hval hsz
  obtain ⟨v0, vs0, d0, ds0, p0, q0, hargs, rfl, rfl, h0, r0⟩ := trodAll_cons hA
  obtain ⟨rfl, rfl, rfl⟩ := trodAll_nil r0
  obtain rfl : args = #[v0] := by cases args; simp_all
  obtain ⟨p, hv⟩ : ∃ p : Int × Kept, v0 = iV p.1 p.2 := by
    obtain ⟨cs, rfl, hs⟩ := okWide_struct Try.underlying31 (hval 0 31 v0 rfl rfl)
    obtain ⟨fuel, hf⟩ := h0
    obtain ⟨p, e, -⟩ := item_in fuel _ _ hf
    refine ⟨p, ?_⟩
    have e2 : cs.toList = iE p := e
    rw [show cs = (iE p).toArray by rw [← e2]]
    rfl
  obtain ⟨id, x⟩ := p
  subst hv
  exact walk id x W

theorem proved : Rows.StoreNoneSaid :=
  OpenClaim.holds_of_wide 6 Try.f6 rfl rfl rfl rfl rfl rfl rfl ⟨rfl, rfl, rfl, rfl, rfl⟩ rfl rfl rfl rfl rfl (by kernel_rfl) Try.func6 (by kernel_rfl)
    (of_decide_eq_true (by kernel_rfl)) (by unfold Func.isWrapper; first | (rw [if_pos (by decide +kernel)]; kernel_rfl) | (rw [if_neg (by decide +kernel)]; exact ⟨rfl, rfl⟩))
    (fun os started H enc _ => lifted os started H enc)
#print axioms proved
end Go.Proofs.Ytaickhhbdbbmjaa.storeNone
