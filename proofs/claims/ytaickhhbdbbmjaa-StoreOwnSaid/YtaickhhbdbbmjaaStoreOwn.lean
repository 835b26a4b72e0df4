/-
  For every number, every row of numbers of 32 bits and every number to add the law StoreOwn returns true, and changes nothing that there was. No condition.
-/
import Derived.Test.YtaickhhbdbbmjaaStC
import Derived.Deep.LoopGhost
namespace Go.Proofs.Ytaickhhbdbbmjaa.storeOwn
open Go.RowKit law bytes only flat ord obj store
open Go.ChangeShapes Go.WideShapes Go.ChangeAt
set_option linter.unusedVariables false

/-- what was handed in: a row in memory of the law's own -/
def X (l : List Int) : Thing := ⟨1, l, ⟨#[]⟩⟩
/-- where the law stands: a store with one thing, a row apart from it, a box with that row's slice among its cells -/
structure Q (w0 : World) (sb : Nat) (T : Nat → Prop) (id : Int) (l : List Int) (gx t : Nat) (pre post : List Value) (A : Option Addr) (n c base1 : Nat) (m : List Int) (W : World) : Prop where
  low : Below w0.heap.size w0 W
  st : St W w0.heap.size sb T [(id, X l)] 1
  len : m.length = n
  row : W.ownsRow base1 21 1 (.slice A n c) n (iv m)
  box : Blk W gx t (pre ++ .slice A n c :: post).toArray
  b1 : w0.heap.size ≤ base1
  bx : w0.heap.size ≤ gx
  tx : ¬ T gx
  tg : ∀ g, (Value.slice A n c).ownBlock = some g → ¬ T g ∧ g ≠ gx
section
variable {w0 W : World} {sb gx t n c base1 g k : Nat} {T : Nat → Prop} {id : Int} {l m : List Int} {pre post : List Value}
theorem Q.form {A : Option Addr} (h : Q w0 sb T id l gx t pre post A n c base1 m W) (hn : 0 < n) : ∃ g, A = some ⟨g, 0, none⟩ := by
  obtain ⟨g, c', hv, _⟩ := own_form h.row hn
  injection hv with hv
  exact ⟨g, hv⟩
theorem Q.at_ (h : Q w0 sb T id l gx t pre post (some ⟨g, 0, none⟩) n c base1 m W) (hk : k < n) (v : Int) : (∃ u : Int, W.cell? ⟨g, k, none⟩ = some (.int .i32 u)) ∧ W.frozen? ⟨g, k, none⟩ = false ∧ Q w0 sb T id l gx t pre post (some ⟨g, 0, none⟩) n c base1 (m.set k v) (W.setCell ⟨g, k, none⟩ (.int .i32 v)) := by
  have hg := (h.tg g rfl)
  have hgb := (own_lt h.row (g := g) rfl).1
  have hkm : k < m.length := by rw [h.len]; exact hk
  have hb1 := h.b1
  have ho : Only (· = g) W (W.setCell ⟨g, k, none⟩ (.int .i32 v)) := Only.setCell (S := (· = g)) (p := ⟨g, k, none⟩) (Only.refl _ _) (.inl rfl) _
  have hr := own_set h.row k (.int .i32 v)
  have e1 : (iv m).set k (.int .i32 v) = iv (m.set k v) := by simp [iv, List.map_set]
  rw [e1] at hr
  refine ⟨⟨m[k], ?_⟩, h.row.frozenAt _, ⟨h.low.setCell (p := ⟨g, k, none⟩) (by show w0.heap.size ≤ g; omega) _, h.st.only ho fun i e e2 => hg.1 (by rw [← show i = g from e2]; exact e), by rw [List.length_set]; exact h.len, hr, Blk.only h.box ho fun e => hg.2 e.symm, h.b1, h.bx, h.tx, h.tg⟩⟩
  have := h.row.cellAt k (by omega)
  rw [this]
  simp [iv, hkm]
end
set_option maxRecDepth 100000 in
set_option maxHeartbeats 6400000 in
theorem walk (id : Int) (A0 : Option Addr) (c0 : Nat) (l : List Int) (by_ : Int) (w : World) (hl : l.length * 4 ≤ 140737488351232) (hs : Sl w w.heap.size A0 (iv l)) : Calls Try.prog 5 #[.int .u64 id, .slice A0 l.length c0, .int .i32 by_] w fun e w' => e = .returned (.bool true) ∧ Below w.heap.size w w' := by
  have HN := Lib.hid (new_st w)
  have HLV := Lib.hid (fun W => lives_any W)
  have hfit : Fit (X l) := ⟨by show l.length * 4 ≤ _; omega, by show (0 : Nat) ≤ _; omega⟩
  have hil := iv_length l
  go_enter Try.func5, Try.ntmps5
  go_wp2_with (fail)
  refine HN.out.mono ?_
  rintro e w1 ⟨sb, T, rfl, hb1, h1⟩
  have s1 := hb1.size
  have hs1 := hs.below hb1
  clear HN
  go_wp2_with (at_builtin
               refine wpList_append_sl _ rfl (.tmp 17) (.tmp 18) _ rfl w1.heap.size 21 _ 4 Try.underlying27 int32E (.slice (some ⟨w1.heap.size, 0, none⟩) 0 0) 0 [] rfl (World.ownsRow_lit w1 #[] 0 (Nat.le_refl _) (by unfold maxLen; omega) rfl) _ A0 l.length c0 (iv l) rfl (hs1.alloc s1 _) hil (iv_one _) (by omega) (by unfold maxLen; omega) (by simp) ?_
               intro v1 w2 hown2 hg2 hat2
               have hb2 : Below w1.heap.size w1 w2 := ((Below.refl _ w1).alloc (Nat.le_refl _) _).grown hg2 (by simp) (by simp [Value.ownBlock])
               simp only [Nat.zero_add, List.nil_append] at hown2
               obtain ⟨A1, c1, rfl, hc1⟩ := own_slice hown2)
  have s2 := hb2.size
  have hwV : Below w2.heap.size w2 (w2.alloc (.cells #[.int .u64 id, .int .i64 1, .slice A1 l.length c1, .string ⟨#[]⟩] 31)) := (Below.refl _ _).alloc (Nat.le_refl _) _
  have hgx := Blk.new w2 31 #[.int .u64 id, .int .i64 1, .slice A1 l.length c1, .string ⟨#[]⟩]
  have sV := hwV.size
  have hrowV := own_below hown2 hwV (Nat.le_refl _)
  have hstV := (h1.below hb2).below hwV
  have hslV := Sl.of_own hrowV
  have hTlt : ∀ i, T i → i < w1.heap.size := fun i e => (h1.low e).2
  have hlowV : Below w.heap.size w (w2.alloc (.cells #[.int .u64 id, .int .i64 1, .slice A1 l.length c1, .string ⟨#[]⟩] 31)) := (hb1.trans (hb2.mono s1)).trans (hwV.mono (by omega))
  have hsV0 := hs.below hlowV
  have hsz : (w2.alloc (.cells #[.int .u64 id, .int .i64 1, .slice A1 l.length c1, .string ⟨#[]⟩] 31)).heap.size = w2.heap.size + 1 := by simp
  have hgr : ∀ g, (Value.slice A1 l.length c1).ownBlock = some g → w1.heap.size ≤ g ∧ g < w2.heap.size := fun g e => own_lt hown2 e
  generalize hV : w2.alloc (.cells #[.int .u64 id, .int .i64 1, .slice A1 l.length c1, .string ⟨#[]⟩] 31) = V at hwV hgx sV hrowV hstV hslV hlowV hsz hsV0
  obtain ⟨gx, hgxe⟩ : ∃ g, g = w2.heap.size := ⟨_, rfl⟩
  rw [← hgxe] at hgx hsz hgr
  have hP := put_st hstV id (X l) A1 c1 hslV hfit (Nat.le_trans s1 (by omega)) (by omega)
  have hIV : iV id ⟨X l, A1, c1⟩ = .agg #[.int .u64 id, .int .i64 1, .slice A1 l.length c1, .string ⟨#[]⟩] := rfl
  rw [hIV] at hP
  have HP : Hid (Calls Try.prog 10 #[.pointer (some ⟨sb, 0, none⟩), .agg #[.int .u64 id, .int .i64 1, .slice A1 l.length c1, .string ⟨#[]⟩]] V fun e w' => e = .returned (.int .i64 0) ∧ ∃ T', Q w sb T' id l gx 31 [.int .u64 id, .int .i64 1] [.string ⟨#[]⟩] A1 l.length c1 w1.heap.size l w') := Lib.hid (hP.mono fun e w' ⟨he, hlf⟩ => by
    have hlow := hlowV.trans (hlf.below hstV (by omega))
    have hx3 := Blk.only hgx hlf.1 fun e => by have := hTlt gx e; omega
    have hr3 := own_only hrowV hlf.1 fun g e e2 => by have := hTlt g e2; have := hgr g e; omega
    obtain ⟨-, T', hst', hT'⟩ := hlf
    refine ⟨he, T', hlow, hst', rfl, hr3, hx3, by omega, by omega, fun e => ?_, fun g e => ⟨fun e2 => ?_, ?_⟩⟩
    · rcases hT' gx e with e | e
      · have := hTlt gx e; omega
      · omega
    · have h3 := hgr g e
      rcases hT' g e2 with e2 | e2
      · have := hTlt g e2; omega
      · omega
    · have h3 := hgr g e
      omega)
  have HG := Lib.hid hgxe
  have HS : Hid (∀ W, Below w.heap.size w W → Sl W w.heap.size A0 (iv l)) := Lib.hid fun W hW => hs.below hW
  have hx0 : V.cell? ⟨w2.heap.size, 0, none⟩ = some (.int .u64 id) ∧ V.cell? ⟨w2.heap.size, 1, none⟩ = some (.int .i64 1) ∧ V.cell? ⟨w2.heap.size, 2, none⟩ = some (.slice A1 l.length c1) ∧ V.cell? ⟨w2.heap.size, 3, none⟩ = some (.string ⟨#[]⟩) := by rw [← hgxe]; exact ⟨hgx.cell 0, hgx.cell 1, hgx.cell 2, hgx.cell 3⟩
  clear hP hIV hgxe hs hs1 hb1 h1 hown2 hg2 hat2 hb2 hwV hgx sV hrowV hstV hslV hTlt hlowV hgr hsz hsV0
  refine HP.out.mono ?_
  rintro e w3 ⟨rfl, T', hq⟩
  rw [← HG.out]
  clear HP hV hx0
  have HQ0 := Lib.hid hq
  clear hq
  go_wp2_with (fail)
  go_loopg [9] l.length (fun gk s9 wr => ∃ (k : Nat) (m : List Int), gk = l.length - k ∧ k ≤ l.length ∧ s9 = .int .i64 k ∧ Q w sb T' id l gx 31 [.int .u64 id, .int .i64 1] [.string ⟨#[]⟩] A1 l.length c1 w1.heap.size m wr)
  case atStart => exact ⟨0, l, rfl, Nat.zero_le _, rfl, HQ0.out⟩
  case round =>
    clear HQ0
    obtain ⟨k, m, rfl, hk, rfl, hq⟩ := hrel
    have x2 : wr.cell? ⟨gx, 2, none⟩ = some (.slice A1 l.length c1) := hq.box.cell 2
    by_cases hlt : k < l.length
    · obtain ⟨g, rfl⟩ := hq.form (by omega)
      have i1 : (k : Int) < (l.length : Int) := by omega
      obtain ⟨⟨u, y0⟩, f0, -⟩ := hq.at_ hlt 0
      have HQ2 := Lib.hid (hq.at_ hlt (IntKind.i32.wrap (u + by_))).2.2
      generalize hv : IntKind.i32.wrap (u + by_) = v at HQ2
      clear hq
      go_wp2_with (fail)
      go_roundg (l.length - (k + 1))
      case measure => omega
      case rel => exact ⟨k + 1, _, rfl, by omega, by go_num, HQ2.out⟩
    · obtain rfl : k = l.length := by omega
      have i1 : ¬ (l.length : Int) < (l.length : Int) := by omega
      have hmf : mf [(id, X l)] id = some (X l) := by simp [mf]
      have hG := get_st hq.st id
      rw [hmf] at hG
      have HGT : Hid (Calls Try.prog 12 #[.pointer (some ⟨sb, 0, none⟩), .int .u64 id] wr fun e w' => ∃ A2 c2, e = .returned (.tuple #[.agg #[.int .i64 1, .slice A2 l.length c2, .string ⟨#[]⟩], .bool true]) ∧ Q w sb T' id l w'.heap.size 29 [.int .i64 1] [.string ⟨#[]⟩] A2 l.length c2 wr.heap.size l (w'.alloc (.cells #[.int .i64 1, .slice A2 l.length c2, .string ⟨#[]⟩] 29))) := Lib.hid (hG.mono fun e w' ⟨A2, c2, he, ho, hb⟩ => by
        have sb' := hb.size
        have hal : Below w'.heap.size w' (w'.alloc (.cells #[.int .i64 1, .slice A2 l.length c2, .string ⟨#[]⟩] 29)) := (Below.refl _ _).alloc (Nat.le_refl _) _
        have hlo := hq.low.size
        refine ⟨A2, c2, he, (hq.low.trans (hb.mono hlo)).trans (hal.mono (by omega)), (hq.st.below hb).below hal, rfl, own_below ho hal (Nat.le_refl _), Blk.new _ _ _, by omega, by omega, fun e => ?_, fun g e => ⟨fun e2 => ?_, ?_⟩⟩
        · have := (hq.st.low e).2; omega
        · have h3 := own_lt ho e
          have := (hq.st.low e2).2
          omega
        · have h3 := own_lt ho e
          omega)
      clear hq hG hmf
      go_wp2_with (fail)
      refine HGT.out.mono ?_
      rintro e w4 ⟨A2, c2, rfl, hq⟩
      have HQ1 := Lib.hid hq
      clear HGT hq x2
      obtain ⟨wr0, hwr0⟩ : ∃ V, V = wr := ⟨_, rfl⟩
      rw [← hwr0] at HQ1
      clear hwr0
      go_wp2_with (fail)
      generalize hg2 : w4.heap.size = gy at HQ1
      go_loopg [12] l.length (fun gk s12 wr => ∃ (k : Nat) (m : List Int), gk = l.length - k ∧ k ≤ l.length ∧ s12 = .int .i64 k ∧ Q w sb T' id l gy 29 [.int .i64 1] [.string ⟨#[]⟩] A2 l.length c2 wr0.heap.size m wr)
      case atStart => exact ⟨0, l, rfl, Nat.zero_le _, rfl, HQ1.out⟩
      case round =>
        clear HQ1 hg2
        obtain ⟨k, m, rfl, hk, rfl, hq⟩ := hrel
        have x2 : wr.cell? ⟨gy, 1, none⟩ = some (.slice A2 l.length c2) := hq.box.cell 1
        by_cases hlt : k < l.length
        · obtain ⟨g, rfl⟩ := hq.form (by omega)
          have i1 : (k : Int) < (l.length : Int) := by omega
          obtain ⟨⟨u, y0⟩, f0, -⟩ := hq.at_ hlt 0
          have HQ2 := Lib.hid (hq.at_ hlt (IntKind.i32.wrap (u + by_))).2.2
          generalize hv : IntKind.i32.wrap (u + by_) = v at HQ2
          clear hq
          go_wp2_with (fail)
          go_roundg (l.length - (k + 1))
          case measure => omega
          case rel => exact ⟨k + 1, _, rfl, by omega, by go_num, HQ2.out⟩
        · obtain rfl : k = l.length := by omega
          have i1 : ¬ (l.length : Int) < (l.length : Int) := by omega
          have hmf : mf [(id, X l)] id = some (X l) := by simp [mf]
          have hG := get_st hq.st id
          rw [hmf] at hG
          have HGT : Hid (Calls Try.prog 12 #[.pointer (some ⟨sb, 0, none⟩), .int .u64 id] wr fun e w' => ∃ A3 c3, e = .returned (.tuple #[.agg #[.int .i64 1, .slice A3 l.length c3, .string ⟨#[]⟩], .bool true]) ∧ Below w.heap.size w w' ∧ ∀ W, Below w'.heap.size w' W → Calls Try.prog 15 #[.agg #[.int .i64 1, .slice A3 l.length c3, .string ⟨#[]⟩], .agg #[.int .i64 1, .slice A0 l.length c0, .string ⟨#[]⟩]] W (Gives (.bool true) W)) := Lib.hid (hG.mono fun e w' ⟨A3, c3, he, ho, hb⟩ => by
            have hlo := hq.low.size
            have hlow := hq.low.trans (hb.mono hlo)
            refine ⟨A3, c3, he, hlow, fun W hW => ?_⟩
            have h1 := rsame_any A3 A0 c3 c0 w'.heap.size w.heap.size (X l) (X l) W (by show l.length ≤ _; omega) (by show l.length ≤ _; omega) hW.size (Nat.le_trans hlow.size hW.size) ((Sl.of_own ho).below hW) (HS.out W (hlow.trans (hW.mono hlow.size)))
            rw [sameO_rfl] at h1
            exact h1)
          clear hq hG hmf
          go_wp2_with (fail)
          refine HGT.out.mono ?_
          rintro e w5 ⟨A3, c3, rfl, hlow, hsame⟩
          have hal : Below w5.heap.size w5 (w5.alloc (.cells #[.int .i64 1, .slice A3 l.length c3, .string ⟨#[]⟩] 29)) := (Below.refl _ _).alloc (Nat.le_refl _) _
          have HSM := Lib.hid (hsame _ hal)
          have HB5 := Lib.hid (hlow.trans (hal.mono hlow.size))
          clear HGT hlow hsame hal x2
          go_wp2_with (fail)
          refine HSM.out.mono ?_
          rintro e w6 ⟨rfl, hb6⟩
          have HB6 := Lib.hid (HB5.out.trans (hb6.mono HB5.out.size))
          clear HSM hb6
          go_wp2_with (fail)
          refine (HLV.out _).mono ?_
          rintro e w7 ⟨rfl, hb7⟩
          have HB7 := Lib.hid (HB6.out.trans (hb7.mono HB6.out.size))
          clear hb7
          go_wp2_with (fail)
          go_ret
          exact ⟨rfl, HB7.out⟩
theorem lifted (os : Os) (started : os.Started) (H : Type) (enc : TypeId × Value → H) :
    ReturnsInHanded {} Try.checked os 5 .any (Rows.storeOwnSpec.pre6 enc Try.prog Try.f5 Rows.storeOwnRow.domain false) (Rows.storeOwnSpec.post enc Try.prog Try.f5 false true false false) := by
  refine lift (C := Try.checked) (by kernel_rfl) started (by kernel_rfl) Try.func5 rfl (by kernel_rfl) (by kernel_rfl) rfl Try.underlying4
    (fun ds hd => by match ds, hd with | [_, _, _], _ => exact ⟨rfl, rfl, rfl⟩)
    (ChangeSpec.witness6 (enc := enc) (C := Try.checked) false ⟨#[], #[.int .u64 0, .slice none 0 0, .int .i32 0], []⟩ 8 (by kernel_rfl) (by kernel_rfl) (by kernel_rfl) (by kernel_rfl)) ?_
  intro W base args ds before hval0 hA0 hfz hsz0
  have hval : ∀ (j : Nat) t v, Try.f5.params[j]? = some t → args[j]? = some v → Value.okWide Try.prog W .any base t v := hval0
  have hA : DataW.TrodAll enc Try.prog W 0 (fun _ => true) true Try.f5.params.toList args.toList ds before := hA0
  have hsz : (DataW.weightsEach Try.prog Try.f5.params.toList ds).all (· ≤ reachBytes) = true := hsz0
  rw [Try.params5] at hA hval hsz
  obtain ⟨v0, vs0, d0, ds0, p0, q0, hargs, rfl, rfl, h0, r0⟩ := trodAll_cons hA
  obtain ⟨v1, vs1, d1, ds1, p1, q1, rfl, rfl, rfl, h1, r1⟩ := trodAll_cons r0
  obtain ⟨v2, vs2, d2, ds2, p2, q2, rfl, rfl, rfl, h2, r2⟩ := trodAll_cons r1
  obtain ⟨rfl, rfl, rfl⟩ := trodAll_nil r2
  obtain rfl : args = #[v0, v1, v2] := by cases args; simp_all
  obtain ⟨a0, rfl, rfl, rfl, w0⟩ := open_int Try.underlying26 (hval 0 26 v0 rfl rfl) h0
  obtain ⟨A, n, c, rfl⟩ := okWide_slice Try.underlying27 (hval 1 27 v1 rfl rfl)
  obtain ⟨fuel, hf⟩ := h1
  obtain ⟨A', c', l, hv, hc, hs, hbd, hd⟩ := open_nums (y := (d1, p1)) Try.underlying27 Try.underlying21 (by kernel_rfl) hf
  injection hv with e1 e2 e3
  subst e1 e2 e3
  obtain ⟨a2, rfl, rfl, rfl, w2⟩ := open_int Try.underlying21 (hval 2 21 v2 rfl rfl) h2
  have hl : l.length * 4 ≤ 140737488351232 := by
    rcases hd with ⟨_, _, h, _⟩ | ⟨el, sp, h, h2, _⟩
    · rw [h]; simp
    · have h : d1 = .slice el sp := h
      subst h
      have h1 := sized_slice hsz (j := 1) rfl rfl Try.underlying27
      have kb : Try.prog.bytesOf 21 = 4 := by kernel_rfl
      have hr : reachBytes = 140737488351232 := by decide
      rw [kb, hr] at h1
      omega
  exact walk a0 A c l a2 W hl hs

theorem proved : Rows.StoreOwnSaid :=
  OpenClaim.holds_of_wide 5 Try.f5 rfl rfl rfl rfl rfl rfl rfl ⟨rfl, rfl, rfl, rfl, rfl⟩ rfl rfl rfl rfl rfl (by kernel_rfl) Try.func5 (by kernel_rfl)
    (of_decide_eq_true (by kernel_rfl)) (by unfold Func.isWrapper; first | (rw [if_pos (by decide +kernel)]; kernel_rfl) | (rw [if_neg (by decide +kernel)]; exact ⟨rfl, rfl⟩))
    (fun os started H enc _ => lifted os started H enc)
#print axioms proved
end Go.Proofs.Ytaickhhbdbbmjaa.storeOwn
