/-
  The contract of Cut; a nil store's methods; what lives.
-/
import Derived.Test.YtaickhhbdbbmjaaStP
namespace Go.Proofs.Ytaickhhbdbbmjaa.store
open Go.RowKit law bytes only flat ord obj direct aro
set_option linter.unusedVariables false

set_option maxRecDepth 100000 in
set_option maxHeartbeats 3200000 in
theorem cut_st {w : World} {base sb n : Nat} {T : Nat → Prop} {M : List (Int × Thing)} (h : St w base sb T M n) (id : Int) (hB : base ≤ w.heap.size) (hm : n ≤ 2513169434916) :
    Calls Try.prog 8 #[.pointer (some ⟨sb, 0, none⟩), .int .u64 id] w fun e w' => e = .returned (.int .i64 (if (mf M id).isSome = true then 0 else 5)) ∧ Left w base sb T (delM M id) n w' := by
  have h0 := h
  obtain ⟨ab, db, TA, TD, d, f, F, hx, rfl⟩ := h
  have c1 : w.cell? ⟨sb, 1, none⟩ = some (.pointer (some ⟨db, 0, none⟩)) := hx.blk.cell 1
  have HF := Lib.hid (find_dy hx.dy id)
  rw [mf_isSome]
  cases hf : fd F id with
  | none =>
    rw [hf] at HF
    have HL : Hid (∀ W, Below w.heap.size w W → Left w base sb T (delM (its d F) id) n W) := Lib.hid fun W hW => by
      have e : delM (its d F) id = its d F := by
        have h1 : mf (its d F) id = none := by rw [mf_its, hf]; rfl
        unfold delM
        refine List.filter_eq_self.2 fun y hy => ?_
        unfold mf at h1
        have h2 : (its d F).find? (fun x => x.1 == id) = none := by simpa using h1
        have := List.find?_eq_none.1 h2 y hy
        simpa using this
      rw [e]
      exact h0.left hW
    clear h0 hx hf
    go_enter Try.func8, Try.ntmps8
    go_wp2_with (fail)
    refine HF.out.mono ?_
    rintro e w1 ⟨rfl, hb⟩
    have HE := Lib.hid (HL.out w1 hb)
    clear HF HL hb
    go_wp2_with (fail)
    go_ret
    exact ⟨rfl, HE.out⟩
  | some s =>
    rw [hf] at HF
    have hTD : ∀ i, TD i → i < w.heap.size := fun i e => (hx.low i (hx.td i e)).2
    have HA : Hid (∀ W, Below w.heap.size w W → W.cell? ⟨sb, 0, none⟩ = some (.pointer (some ⟨ab, 0, none⟩)) ∧ Calls Try.prog 24 #[.pointer (some ⟨ab, 0, none⟩), .int .i64 s] W fun e w' => (∃ b, e = .returned (.bool b)) ∧ aro.Left W base ab TA (cutD d s) (cutF d f s) w') := Lib.hid fun W hW => by
      have hx2 := hx.below hW
      have := hW.size
      exact ⟨hx2.blk.cell 0, (cut_ar hx2.ar s (by omega) (Nat.le_trans hx.lend hm)).mono fun e w' ⟨he, hl⟩ => ⟨⟨_, he⟩, hl⟩⟩
    have HD : Hid (∀ W W2, Below w.heap.size w W → aro.Left W base ab TA (cutD d s) (cutF d f s) W2 → W2.cell? ⟨sb, 1, none⟩ = some (.pointer (some ⟨db, 0, none⟩)) ∧ Calls Try.prog 25 #[.pointer (some ⟨db, 0, none⟩), .int .u64 id] W2 fun e w' => (∃ b, e = .returned (.bool b)) ∧ Left w base sb T (delM (its d F) id) n w') := Lib.hid fun W W2 hW hl => by
      have hx2 := hx.below hW
      have s1 := hW.size
      have s2 := hl.1.size
      have hd2 := hx2.dy.only hl.1 fun i e1 e2 => (hx.ta i e2).2 e1
      have hb2 := Blk.only hx2.blk hl.1 hx.sb_.2.1
      have hlf := hx.lenF
      exact ⟨hb2.cell 1, (direct.cut_any hd2 id (by omega) (by omega)).mono fun e w' ⟨he, hl2⟩ => ⟨⟨_, he⟩, cut_fin hx hB hf hW hl hl2⟩⟩
    clear h0 hx hf
    go_enter Try.func8, Try.ntmps8
    go_wp2_with (fail)
    refine HF.out.mono ?_
    rintro e w1 ⟨rfl, hb⟩
    obtain ⟨c0, hcall⟩ := HA.out w1 hb
    have HA1 := Lib.hid hcall
    clear HF HA hcall
    go_wp2_with (fail)
    refine HA1.out.mono ?_
    rintro e w2 ⟨⟨b, rfl⟩, hl⟩
    obtain ⟨d1, hcall⟩ := HD.out w1 w2 hb hl
    have HD1 := Lib.hid hcall
    clear HA1 HD hcall hb hl
    go_wp2_with (fail)
    refine HD1.out.mono ?_
    rintro e w3 ⟨⟨b2, rfl⟩, hE⟩
    have HE := Lib.hid hE
    clear HD1 hE
    go_wp2_with (fail)
    go_ret
    exact ⟨rfl, HE.out⟩
/-! ### of nil -/
theorem zeroV : kV ⟨zeroO, none, 0⟩ = .agg #[.int .i64 0, .slice none 0 0, .string ⟨#[]⟩] := rfl
theorem own_nil (id : Int) (w : World) : Calls Try.prog 29 #[.pointer none, .int .u64 id] w fun e w' => e = .returned (.tuple #[.agg #[.int .i64 0, .slice none 0 0, .string ⟨#[]⟩], .bool false]) ∧ Below w.heap.size w w' := by
  have hb1 : Below w.heap.size w (w.alloc (.cells #[.int .i64 0, .slice none 0 0, .string ⟨#[]⟩] 29)) := (Below.refl _ _).alloc (Nat.le_refl _) _
  obtain ⟨c0, c1, c2, -⟩ := cells3 (Blk.new w 29 #[.int .i64 0, .slice none 0 0, .string ⟨#[]⟩])
  go_enter Try.func29, Try.ntmps29
  go_wp2_with (fail)
  refine bodyPost_ret (v := .tuple #[.agg #[.int .i64 0, .slice none 0 0, .string ⟨#[]⟩], .bool false]) (by simp [results, Try.results29, go_sem, c0, c1, c2]) rfl ?_
  exact ⟨rfl, hb1⟩
theorem has_nil (id : Int) (w : World) : Calls Try.prog 14 #[.pointer none, .int .u64 id] w fun e w' => e = .returned (.bool false) ∧ Below w.heap.size w w' := by
  go_enter Try.func14, Try.ntmps14
  go_wp2_with (fail)
  refine (own_nil id w).mono ?_
  rintro e w1 ⟨rfl, hb⟩
  go_wp2_with (fail)
  go_ret
  exact ⟨rfl, hb.alloc hb.size _⟩
theorem len_nil (w : World) : Calls Try.prog 16 #[.pointer none] w fun e w' => e = .returned (.int .i64 0) ∧ w = w' := by
  go_enter Try.func16, Try.ntmps16
  go_wp2_with (fail)
  go_ret
  exact ⟨rfl, rfl⟩
theorem cut_nil (id : Int) (w : World) : Calls Try.prog 8 #[.pointer none, .int .u64 id] w fun e w' => e = .returned (.int .i64 1) ∧ w = w' := by
  go_enter Try.func8, Try.ntmps8
  go_wp2_with (fail)
  go_ret
  exact ⟨rfl, rfl⟩
theorem put_nil (id : Int) (k : Kept) (w : World) : Calls Try.prog 10 #[.pointer none, iV id k] w fun e w' => e = .returned (.int .i64 1) ∧ Below w.heap.size w w' := by
  have HV : iV id k = .agg #[.int .u64 id, .int .i64 k.x.tag, .slice k.A k.x.vec.length k.c, .string k.x.str] := rfl
  rw [HV]
  go_enter Try.func10, Try.ntmps10
  go_wp2_with (fail)
  go_ret
  exact ⟨rfl, (Below.refl _ _).alloc (Nat.le_refl _) _⟩
set_option maxHeartbeats 1600000 in
theorem get_nil (id : Int) (w : World) : Calls Try.prog 12 #[.pointer none, .int .u64 id] w (GetP w none) := by
  have hb1 : Below w.heap.size w (w.alloc (.cells #[.int .i64 0, .slice none 0 0, .string ⟨#[]⟩] 29)) := (Below.refl _ _).alloc (Nat.le_refl _) _
  have hgr := Blk.new w 29 #[.int .i64 0, .slice none 0 0, .string ⟨#[]⟩]
  have HO := Lib.hid (fun W => own_nil id W)
  generalize hV : w.alloc (.cells #[.int .i64 0, .slice none 0 0, .string ⟨#[]⟩] 29) = V at hb1 hgr
  obtain ⟨g, hg⟩ : ∃ g, g = w.heap.size := ⟨_, rfl⟩
  rw [← hg] at hgr
  have HB := Lib.hid hb1
  have HG := Lib.hid hg
  have hgl := hgr.lt
  have HR := Lib.hid hgr
  clear hb1 hg hgr
  go_enter Try.func12, Try.ntmps12
  go_wp2_with (fail)
  rw [← HG.out]
  refine (HO.out _).mono ?_
  rintro e w1 ⟨rfl, hb⟩
  have hw1 : Below w1.heap.size w1 (w1.alloc (.cells #[.int .i64 0, .slice none 0 0, .string ⟨#[]⟩] 29)) := (Below.refl _ _).alloc (Nat.le_refl _) _
  have HC0 := cloneO_any none 0 0 zeroO (w1.alloc (.cells #[.int .i64 0, .slice none 0 0, .string ⟨#[]⟩] 29)) (by decide) (by decide) (Nat.zero_le _) Sl.nil
  have HC : Hid (Calls Try.prog 28 #[.agg #[.int .i64 0, .slice none 0 0, .string ⟨#[]⟩]] (w1.alloc (.cells #[.int .i64 0, .slice none 0 0, .string ⟨#[]⟩] 29)) (ClonedO zeroO (w1.alloc (.cells #[.int .i64 0, .slice none 0 0, .string ⟨#[]⟩] 29)))) := Lib.hid HC0
  have HB2 := Lib.hid (hb.trans (hw1.mono hb.size))
  clear hb hw1 HO HC0
  go_wp2_with (fail)
  refine HC.out.mono ?_
  rintro e w3 ⟨A3, c3, rfl, hown, hb3⟩
  have HB3 := Lib.hid (HB2.out.trans (hb3.mono HB2.out.size))
  have hgl3 : g < (w1.alloc (.cells #[.int .i64 0, .slice none 0 0, .string ⟨#[]⟩] 29)).heap.size := Nat.lt_of_lt_of_le hgl HB2.out.size
  obtain ⟨q0, q1, q2, qf⟩ := cells3 (HR.out.below HB3.out hgl)
  have HE : Hid ((((w3.setCell ⟨g, 0, none⟩ (.int .i64 0)).setCell ⟨g, 1, none⟩ (.slice A3 0 c3)).setCell ⟨g, 2, none⟩ (.string ⟨#[]⟩)).ownsRow w.heap.size 21 1 (.slice A3 0 c3) 0 (iv zeroO.vec)) :=
    Lib.hid (own_base (own_three hown hgl3 _ _ _) (Nat.le_trans HB.out.size HB2.out.size))
  clear hown hb3 HC hgl3
  simp only [zeroO, List.length_nil] at HE ⊢
  go_wp2_with (fail)
  refine bodyPost_ret (v := .tuple #[kV ⟨zeroO, A3, c3⟩, .bool false]) (by simp [results, Try.results12, go_sem, q0, q1, q2, kV, zeroO]) rfl ?_
  exact ⟨A3, c3, rfl, HE.out, box_below HB.out HB3.out HG.out _ _ _⟩
/-! ### what lives -/
set_option maxRecDepth 100000 in
set_option maxHeartbeats 3200000 in
theorem lives_any (w : World) : Calls Try.prog 19 #[] w fun e w' => e = .returned (.bool true) ∧ Below w.heap.size w w' := by
  have HN := Lib.hid (new_st w)
  have hfit : Fit ⟨2, [], ⟨#[97]⟩⟩ := ⟨by decide, by decide⟩
  have hV : iV 3 ⟨⟨2, [], ⟨#[97]⟩⟩, none, 0⟩ = .agg #[.int .u64 3, .int .i64 2, .slice none 0 0, .string ⟨#[97]⟩] := rfl
  go_enter Try.func19, Try.ntmps19
  go_wp2_with (fail)
  refine HN.out.mono ?_
  rintro e w1 ⟨sb, T, rfl, hb1, h1⟩
  have s1 := hb1.size
  have hb2 : Below w1.heap.size w1 (w1.alloc (.cells #[.int .u64 3, .int .i64 2, .slice none 0 0, .string ⟨#[97]⟩] 31)) := (Below.refl _ _).alloc (Nat.le_refl _) _
  have hgr := Blk.new w1 31 #[.int .u64 3, .int .i64 2, .slice none 0 0, .string ⟨#[97]⟩]
  have h2 := h1.below hb2
  have hP1 := put_st h2 3 ⟨2, [], ⟨#[97]⟩⟩ none 0 Sl.nil hfit (Nat.le_trans s1 hb2.size) (by omega)
  rw [hV] at hP1
  generalize hW : w1.alloc (.cells #[.int .u64 3, .int .i64 2, .slice none 0 0, .string ⟨#[97]⟩] 31) = W at hb2 hgr h2 hP1
  obtain ⟨c0, c1, c2, c3, -⟩ := cells4' hgr
  have hgT : ∀ i, T i → i < w1.heap.size := fun i e => (h1.low e).2
  have HP1 := Lib.hid hP1
  clear HN hP1 h1
  go_wp2_with (fail)
  refine HP1.out.mono ?_
  rintro e w2 ⟨rfl, hl⟩
  have sW := hb2.size
  have hbW : Below w.heap.size w W := hb1.trans (hb2.mono s1)
  have hb3 := hbW.trans (hl.below h2 hbW.size)
  have hgr2 := Blk.only hgr hl.1 fun e => Nat.lt_irrefl _ (hgT _ e)
  obtain ⟨d0, d1, d2, d3, -⟩ := cells4' hgr2
  obtain ⟨-, T2, h3, -⟩ := hl
  have e1 : putM [] 3 (⟨2, [], ⟨#[97]⟩⟩ : Thing) = [(3, ⟨2, [], ⟨#[97]⟩⟩)] := rfl
  rw [e1] at h3
  have s3 := hb3.size
  have hP2 := put_st h3 3 ⟨2, [], ⟨#[97]⟩⟩ none 0 Sl.nil hfit s3 (by omega)
  rw [hV] at hP2
  have HP2 := Lib.hid hP2
  have e0 : (if (mf [] 3).isSome = true then (4 : Int) else 0) = 0 := rfl
  rw [e0]
  have HB3 := Lib.hid hb3
  have H3 := Lib.hid h3
  clear HP1 hP2 hgr hgr2 hgT hb1 hb2 h2 hb3 h3 hbW c0 c1 c2 c3 e0
  go_wp2_with (fail)
  refine HP2.out.mono ?_
  rintro e w3 ⟨rfl, hl⟩
  have hb4 := HB3.out.trans (hl.below H3.out s3)
  obtain ⟨-, T3, h4, -⟩ := hl
  have e2 : putM [(3, (⟨2, [], ⟨#[97]⟩⟩ : Thing))] 3 ⟨2, [], ⟨#[97]⟩⟩ = [(3, ⟨2, [], ⟨#[97]⟩⟩)] := rfl
  rw [e2] at h4
  have e0 : (if (mf [(3, (⟨2, [], ⟨#[97]⟩⟩ : Thing))] 3).isSome = true then (4 : Int) else 0) = 4 := rfl
  rw [e0]
  have HL := Lib.hid (len_st h4)
  have HH : Hid (∀ W, Below w3.heap.size w3 W → Calls Try.prog 14 #[.pointer (some ⟨sb, 0, none⟩), .int .u64 3] W fun e w' => e = .returned (.bool true) ∧ Below W.heap.size W w') := Lib.hid fun W hW => has_st (h4.below hW) 3
  have HB4 := Lib.hid hb4
  clear HP2 HB3 H3 hb4 h4 e0 d0 d1 d2 d3
  go_wp2_with (fail)
  refine HL.out.mono ?_
  rintro e w4 ⟨rfl, hb⟩
  have HH2 := Lib.hid (HH.out w4 hb)
  have HB5 := Lib.hid (HB4.out.trans (hb.mono HB4.out.size))
  clear HL HH hb
  go_wp2_with (fail)
  refine HH2.out.mono ?_
  rintro e w5 ⟨rfl, hb⟩
  have HB6 := Lib.hid (HB5.out.trans (hb.mono HB5.out.size))
  go_wp2_with (fail)
  go_ret
  exact ⟨rfl, HB6.out⟩
end Go.Proofs.Ytaickhhbdbbmjaa.store
