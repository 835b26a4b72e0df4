/-
  What lives (layer 23).
-/
import Derived.Test.YtaamlidflfdjkaaBkJ
namespace Go.Proofs.Ytaamlidflfdjkaa.bk
open Go.RowKit Go.WideShapes law bytes only flat nums ord obj metric tab
open aro (Kept)
open store (iE iE_len itemAt rM)
open told (own_types blk_types)
open Go.Maps Go.ChangeAt
set_option linter.unusedVariables false
set_option maxRecDepth 100000

def cat : ByteArray := ⟨#[99, 97, 116]⟩
def cut : ByteArray := ⟨#[99, 117, 116]⟩
def hat : ByteArray := ⟨#[104, 97, 116]⟩
def lvT (s : ByteArray) : Thing := ⟨2, [], s⟩
def lvI (id : Int) (s : ByteArray) : Int × Kept := (id, ⟨lvT s, none, 0⟩)
def lvL : List (Int × Kept) := [lvI 1 cat, lvI 2 cut, lvI 3 hat]
def lvN : List Bn := [⟨1, lvT cat, false, -1, 0⟩, ⟨2, lvT cut, false, 0, 1⟩, ⟨3, lvT hat, false, 1, 2⟩]
theorem lv_fe : idx.fe (live []) (idx.ids lvL) = 0 := by rfl
theorem lv_puts : puts 3 [] (rM lvL) = lvN := by rfl
theorem lv_depth : depth lvN = 3 := by rfl
theorem lv_bf : ∀ q ∈ lvL, Bf q.2.x := fun p hp => by
  simp only [lvL, List.mem_cons, List.not_mem_nil, or_false] at hp
  have h : ∀ s : ByteArray, s.size = 3 → Bf (lvT s) := fun s hs => ⟨fun n hn => by simp [lvT] at hn, by simp [lvT], by show s.size ≤ 65536; omega⟩
  rcases hp with rfl | rfl | rfl
  · exact h cat rfl
  · exact h cut rfl
  · exact h hat rfl
theorem lv_wf : idx.Wf lvL := fun p hp => by
  simp only [lvL, List.mem_cons, List.not_mem_nil, or_false] at hp
  rcases hp with rfl | rfl | rfl <;> rfl
set_option maxHeartbeats 1600000 in
theorem v_any (id : Int) (s : ByteArray) (w : World) : Calls Try.prog 23 #[.int .u64 id, .string s] w fun e w' => e = .returned (.agg #[.int .u64 id, .int .i64 2, .slice none 0 0, .string s]) ∧ Below w.heap.size w w' := by
  go_enter Try.func23, Try.ntmps23
  go_wp2_with (fail)
  obtain ⟨q0, q1, q2, q3, -⟩ := cells4' (Blk.new w 38 #[.int .u64 id, .int .i64 2, .slice none 0 0, .string s])
  refine bodyPost_ret (v := .agg #[.int .u64 id, .int .i64 2, .slice none 0 0, .string s]) (by simp [results, Try.results23, go_sem, q0, q1, q2, q3]) rfl ?_
  exact ⟨rfl, (Below.refl _ _).alloc (Nat.le_refl _) _⟩
/-- behind Bulk -/
def LvS (w : World) (g tb : Nat) (W : World) : Prop := ∃ (base : Nat) (k : Int) (T : Nat → Prop) (N : List Nd), Bx W base tb g 3 k T N ∧ N.map bn = lvN ∧ Below w.heap.size w W
set_option maxHeartbeats 1600000 in
theorem bulk_lives {w w2 W : World} {tb base : Nat} {T : Nat → Prop} {t : TypeId} (hm : Below w.heap.size w w2) (hbase : w.heap.size ≤ base) (h : Bx w2 base tb w.heap.size 3 0 T []) (hbl : Below w2.heap.size w2 W) :
    Calls Try.prog 14 #[.pointer (some ⟨tb, 0, none⟩), .slice (some ⟨W.heap.size, 0, none⟩) 3 3, .pointer none] (W.alloc (.cells (lvL.flatMap iE).toArray t)) fun e w' => e = .returned (.int .i64 0) ∧ LvS w w.heap.size tb w' := by
  have hT := h.below hbl
  have hlow := h.low
  have hgb := h.gb
  obtain ⟨V, hV⟩ : ∃ V, V = W.alloc (.cells (lvL.flatMap iE).toArray t) := ⟨_, rfl⟩
  have hbV : Below W.heap.size W V := by rw [hV]; exact (Below.refl _ _).alloc (Nat.le_refl _) _
  have hz : V.heap.size = W.heap.size + 1 := by rw [hV]; simp
  have hsl : Sl V V.heap.size (some ⟨W.heap.size, 0, none⟩) (lvL.flatMap iE) := by rw [hV]; exact Sl.lit W _ t
  have hs := hbl.size
  have hs0 := hm.size
  have hlt : ∀ i, (i = w.heap.size ∨ T i) → i < w2.heap.size := fun i e => by
    rcases e with e | e
    · have := h.mt.lt; omega
    · exact (hlow i e).2
  have hits : Its V (fun i => i = w.heap.size ∨ T i) (some ⟨W.heap.size, 0, none⟩) lvL := by
    refine ⟨fun j u hj => ?_, fun p hp => ?_⟩
    · obtain ⟨ad, e, hbk, hcell⟩ := hsl j u hj
      injection e with e
      subst e
      exact ⟨_, rfl, hbk, fun e => by have := hlt _ e; simp only at this; omega, hcell⟩
    · simp only [lvL, List.mem_cons, List.not_mem_nil, or_false] at hp
      rcases hp with rfl | rfl | rfl <;> exact Away.nil
  rw [← hV]
  refine (bulk_any (c := 3) (l := lvL) (hT.below hbV) hits lv_bf lv_wf (show 0 + 3 ≤ 1048576 by decide) ⟨by omega, by omega⟩).mono fun e w' ⟨he, k', T', N', g1, g2, g3, g4, g5, g6⟩ => ?_
  rw [List.map_nil, lv_fe] at he g4
  rw [if_pos rfl, lv_puts] at g4
  refine ⟨he, base, k', T', N', g1, g4, ?_⟩
  have hbw : Below w.heap.size w V := (hm.trans (hbl.mono hs0)).trans (hbV.mono (by omega))
  refine hbw.trans (g5.below (by omega) fun i e => ?_)
  rcases e with e | e
  · omega
  · have := (hlow i e).1; omega
/-- what Image tells then -/
theorem image_lives {w W : World} {g tb : Nat} (h : LvS w g tb W) : Calls Try.prog 17 #[.pointer (some ⟨tb, 0, none⟩)] W fun e w' => ∃ b c, e = .returned (.agg #[.slice (some ⟨b, 0, none⟩) 3 c, .slice none 0 0, .slice none 0 0, .int .i64 0, .slice none 0 0, .slice none 0 0]) ∧ 3 ≤ c ∧ w'.cell? ⟨b, 19, none⟩ = some (.int .i64 1) ∧ w'.cell? ⟨b, 20, none⟩ = some (.int .i64 2) ∧ LvS w g tb w' := by
  obtain ⟨base, k, T, N, hX, hN, hb⟩ := h
  have hNl : N.length = 3 := by
    have := congrArg List.length hN
    rw [List.length_map] at this
    exact this
  refine (image_any hX (by omega)).mono fun e w' ⟨A, c, M, he, hbl, hrow, hM, _⟩ => ?_
  rw [hN] at hM
  have hMl : M.length = 3 := by
    have := congrArg List.length hM
    rw [List.length_map] at this
    exact this
  rw [hMl] at he hrow
  obtain ⟨b, c', hv, -, -, hc⟩ := own_form hrow (by decide)
  injection hv with e1 e2 e3
  subst e1 e3
  have h2 : M[2]? = some M[2] := List.getElem?_eq_getElem (by omega)
  have h3 : (M.map bn)[2]? = some (bn M[2]) := by rw [List.getElem?_map, h2]; rfl
  rw [hM] at h3
  have h4 : bn M[2] = ⟨3, lvT hat, false, 1, 2⟩ := by
    have : lvN[2]? = some ⟨3, lvT hat, false, 1, 2⟩ := rfl
    rw [this] at h3
    injection h3 with h3
    exact h3.symm
  have hp : M[2].par = 1 := congrArg Bn.par h4
  have hq : M[2].edge = 2 := congrArg Bn.edge h4
  have hcell : ∀ j, j < 7 → w'.cell? ⟨b, 2 * 7 + j, none⟩ = (bkE M[2])[j]? := fun j hj => own_cellK hrow bkE_len (by omega) 2 j (by omega) hj
  refine ⟨b, c, he, hc, ?_, ?_, base, k, T, N, hX.below hbl, hN, hb.trans (hbl.mono hb.size)⟩
  · rw [show (19 : Nat) = 2 * 7 + 5 from rfl, hcell 5 (by omega)]
    show some (Value.int .i64 M[2].par) = _
    rw [hp]
  · rw [show (20 : Nat) = 2 * 7 + 6 from rfl, hcell 6 (by omega)]
    show some (Value.int .i64 M[2].edge) = _
    rw [hq]
theorem depth_lives {w W : World} {g tb : Nat} (h : LvS w g tb W) : Calls Try.prog 18 #[.pointer (some ⟨tb, 0, none⟩)] W fun e w' => e = .returned (.int .i64 3) ∧ Below w.heap.size w w' := by
  obtain ⟨base, k, T, N, hX, hN, hb⟩ := h
  have hNl : N.length = 3 := by
    have := congrArg List.length hN
    rw [List.length_map] at this
    exact this
  refine (depth_any hX (by omega)).mono fun e w' ⟨he, hbl⟩ => ⟨?_, hb.trans (hbl.mono hb.size)⟩
  rw [he, hN, lv_depth]
  rfl
set_option maxHeartbeats 3200000 in
theorem lives_any (w : World) : Calls Try.prog 5 #[] w fun e w' => e = .returned (.bool true) ∧ Below w.heap.size w w' := by
  have HN := Lib.hid (metric.new_any 3 w)
  go_enter Try.func5, Try.ntmps5
  go_wp2_with (fail)
  refine HN.out.mono ?_
  rintro e w1 ⟨rfl, hm1, hb1⟩
  have HT := Lib.hid (new_bk w.heap.size 3 0 w1 hm1)
  clear HN hm1
  go_wp2_with (fail)
  refine HT.out.mono ?_
  rintro e w2 ⟨tb, T, rfl, hT, hb2⟩
  have H2 := Lib.hid (And.intro hT (And.intro (hb1.trans (hb2.mono hb1.size)) hb1.size))
  clear HT hT hb1 hb2
  go_wp2_with (fail)
  refine (v_any 1 cat w2).mono ?_
  rintro e w3 ⟨rfl, hb3⟩
  have H3 := Lib.hid hb3
  clear hb3
  go_wp2_with (fail)
  refine (v_any 2 cut w3).mono ?_
  rintro e w4 ⟨rfl, hb4⟩
  have H4 := Lib.hid hb4
  clear hb4
  go_wp2_with (fail)
  refine (v_any 3 hat w4).mono ?_
  rintro e w5 ⟨rfl, hb5⟩
  have HB : Hid (Calls Try.prog 14 #[.pointer (some ⟨tb, 0, none⟩), .slice (some ⟨w5.heap.size, 0, none⟩) 3 3, .pointer none] (w5.alloc (.cells #[.int .u64 1, .int .i64 2, .slice none 0 0, .string cat, .int .u64 2, .int .i64 2, .slice none 0 0, .string cut, .int .u64 3, .int .i64 2, .slice none 0 0, .string hat] 38)) fun e w' => e = .returned (.int .i64 0) ∧ LvS w w.heap.size tb w') := Lib.hid (by
    have hb3 := H3.out
    have hb4 := H4.out
    obtain ⟨hT, hb2, hs2⟩ := H2.out
    have s3 := hb3.size
    have s4 := hb4.size
    exact bulk_lives (t := 38) hb2 hs2 hT ((hb3.trans (hb4.mono s3)).trans (hb5.mono (by omega))))
  clear H3 H4 H2 hb5
  go_wp2_with (fail)
  refine HB.out.mono ?_
  rintro e w6 ⟨rfl, hls⟩
  clear HB
  have HI := Lib.hid (image_lives hls)
  clear hls
  go_wp2_with (fail)
  refine HI.out.mono ?_
  rintro e w7 ⟨b, c, rfl, hc, k1, k2, hls⟩
  have HD := Lib.hid (depth_lives hls)
  have hfld : ∀ (W : World), (Instr.field 58 (.agg #[.slice (some ⟨b, 0, none⟩) 3 c, .slice none 0 0, .slice none 0 0, .int .i64 0, .slice none 0 0, .slice none 0 0]) 0).run Try.prog W = .ok (.slice (some ⟨b, 0, none⟩) 3 c) W := fun W => by kernel_rfl
  clear hls HI
  go_wp2_with (fail)
  refine HD.out.mono ?_
  rintro e w8 ⟨rfl, hb8⟩
  have HE := Lib.hid hb8
  clear hb8
  go_wp2_with (fail)
  go_ret
  exact ⟨rfl, HE.out⟩
end Go.Proofs.Ytaamlidflfdjkaa.bk
