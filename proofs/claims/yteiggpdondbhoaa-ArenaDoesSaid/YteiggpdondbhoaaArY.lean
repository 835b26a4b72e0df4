/-
  The contract of the document's Put.
-/
import Derived.Test.YteiggpdondbhoaaArX
namespace Go.Proofs.Yteiggpdondbhoaa.arena
open Go.RowKit law bytes only flat came
set_option linter.unusedVariables false

set_option maxHeartbeats 1600000 in
/-- the end of a Put into a new slot -/
theorem rput_new {w w2 w3 : World} {M : Nat → Prop} {L F v2 : Value} {A3 : Option Addr} {c3 B : Nat} {d : List (Option Int)} {x : Int} (hM : ∀ i, M i → i < w.heap.size) (hB : w.heap.size + 2 ≤ B)
    (hv2 : Vs w w2 L F) (ho2 : w2.ownsRow B 43 2 v2 d.length (d.flatMap rE)) (ho3 : w3.ownsRow B 43 2 (.slice A3 (d.length + 1) c3) (d.length + 1) (d.flatMap rE ++ [.bool true, .int .i64 x])) (hg3 : (w2.alloc (.cells #[.bool true, .int .i64 x] 43)).grownBy w3 v2.ownBlock) (hc3 : d.length + 1 ≤ c3) :
    w3.cell? ⟨w.heap.size + 1, 0, none⟩ = some (.slice none 0 0) ∧ w3.cell? ⟨w.heap.size + 1, 1, none⟩ = some (.slice none 0 0) ∧ w3.frozen? ⟨w.heap.size + 1, 0, none⟩ = false ∧ w3.frozen? ⟨w.heap.size + 1, 1, none⟩ = false ∧
      ((w3.setCell ⟨w.heap.size + 1, 0, none⟩ (.slice A3 (d.length + 1) c3)).setCell ⟨w.heap.size + 1, 1, none⟩ (.slice none 0 0)).cell? ⟨w.heap.size + 1, 0, none⟩ = some (.slice A3 (d.length + 1) c3) ∧ ((w3.setCell ⟨w.heap.size + 1, 0, none⟩ (.slice A3 (d.length + 1) c3)).setCell ⟨w.heap.size + 1, 1, none⟩ (.slice none 0 0)).cell? ⟨w.heap.size + 1, 1, none⟩ = some (.slice none 0 0) ∧
      RPost w M (d ++ [some x]) [] (.int .i64 d.length) (.returned (.tuple #[.agg #[.slice A3 (d.length + 1) c3, .slice none 0 0], .int .i64 d.length])) ((w3.setCell ⟨w.heap.size + 1, 0, none⟩ (.slice A3 (d.length + 1) c3)).setCell ⟨w.heap.size + 1, 1, none⟩ (.slice none 0 0)) := by
  have hlow := fun g e => (own_lt ho2 (g := g) e).1
  have hv3 : Vs w w3 L F := (hv2.alloc _).grown hg3 fun g e => by have := hlow g e; omega
  obtain ⟨e0, e1, ef0, ef1, hr0, hr1, hbl⟩ := hv3.fin (.slice A3 (d.length + 1) c3) (.slice none 0 0)
  refine ⟨e0, e1, ef0, ef1, hr0, hr1, _, _, rfl, Rf.mk (by simp) rfl hc3 (Nat.le_refl _) ?_ Aw.nil, hbl⟩
  have h := hv3.made (by decide) ho3 hB hM (.slice A3 (d.length + 1) c3) (.slice none 0 0)
  rw [List.flatMap_append]
  exact h
set_option maxHeartbeats 1600000 in
/-- the end of a Put into a free slot -/
theorem rput_old {w w2 w4 : World} {M : Nat → Prop} {L F : Value} {A4 : Option Addr} {g2 c2 c4 q s B B3 : Nat} {d : List (Option Int)} {G : List Nat} {x : Int} (hM : ∀ i, M i → i < w.heap.size) (hB : w.heap.size + 2 ≤ B) (hq : q = G.length)
    (hv3 : Vs w ((w2.setCell ⟨g2, s * 2, none⟩ (.bool true)).setCell ⟨g2, s * 2 + 1, none⟩ (.int .i64 x)) L F) (ho3 : ((w2.setCell ⟨g2, s * 2, none⟩ (.bool true)).setCell ⟨g2, s * 2 + 1, none⟩ (.int .i64 x)).ownsRow B 43 2 (.slice (some ⟨g2, 0, none⟩) d.length c2) d.length ((d.set s (some x)).flatMap rE)) (hg4 : ((w2.setCell ⟨g2, s * 2, none⟩ (.bool true)).setCell ⟨g2, s * 2 + 1, none⟩ (.int .i64 x)).grownBy w4 none) (ho4 : w4.ownsRow B3 3 1 (.slice A4 q c4) q (fv G)) (hB3 : w.heap.size + 2 ≤ B3) (hc2 : d.length ≤ c2) (hc4 : q ≤ c4) :
    w4.cell? ⟨w.heap.size + 1, 0, none⟩ = some (.slice none 0 0) ∧ w4.cell? ⟨w.heap.size + 1, 1, none⟩ = some (.slice none 0 0) ∧ w4.frozen? ⟨w.heap.size + 1, 0, none⟩ = false ∧ w4.frozen? ⟨w.heap.size + 1, 1, none⟩ = false ∧
      ((w4.setCell ⟨w.heap.size + 1, 0, none⟩ (.slice (some ⟨g2, 0, none⟩) d.length c2)).setCell ⟨w.heap.size + 1, 1, none⟩ (.slice A4 q c4)).cell? ⟨w.heap.size + 1, 0, none⟩ = some (.slice (some ⟨g2, 0, none⟩) d.length c2) ∧ ((w4.setCell ⟨w.heap.size + 1, 0, none⟩ (.slice (some ⟨g2, 0, none⟩) d.length c2)).setCell ⟨w.heap.size + 1, 1, none⟩ (.slice A4 q c4)).cell? ⟨w.heap.size + 1, 1, none⟩ = some (.slice A4 q c4) ∧
      RPost w M (d.set s (some x)) G (.int .i64 s) (.returned (.tuple #[.agg #[.slice (some ⟨g2, 0, none⟩) d.length c2, .slice A4 q c4], .int .i64 s])) ((w4.setCell ⟨w.heap.size + 1, 0, none⟩ (.slice (some ⟨g2, 0, none⟩) d.length c2)).setCell ⟨w.heap.size + 1, 1, none⟩ (.slice A4 q c4)) := by
  have hb : Below ((w2.setCell ⟨g2, s * 2, none⟩ (.bool true)).setCell ⟨g2, s * 2 + 1, none⟩ (.int .i64 x)).heap.size ((w2.setCell ⟨g2, s * 2, none⟩ (.bool true)).setCell ⟨g2, s * 2 + 1, none⟩ (.int .i64 x)) w4 := (Below.refl _ _).grown hg4 (Nat.le_refl _) (fun g e => by cases e)
  have hv4 := hv3.on hb
  obtain ⟨e0, e1, ef0, ef1, hr0, hr1, hbl⟩ := hv4.fin (.slice (some ⟨g2, 0, none⟩) d.length c2) (.slice A4 q c4)
  refine ⟨e0, e1, ef0, ef1, hr0, hr1, _, _, rfl, Rf.mk (by simp) hq hc2 hc4 (hv4.made (by decide) (own_below ho3 hb (Nat.le_refl _)) hB hM _ _) (hv4.made (by decide) ho4 hB3 hM _ _), hbl⟩
set_option maxRecDepth 100000 in
set_option maxHeartbeats 6400000 in
theorem rput_any {w : World} {M : Nat → Prop} {L F : Value} {d : List (Option Int)} {f : List Nat} (h : Rf w M L F d f) (hi : Inv d f) (x : Int) (hM : ∀ i, M i → i < w.heap.size) (hm : d.length ≤ 5864062014804) :
    Calls Try.prog 8 #[.agg #[L, F], .int .i64 x] w (RPost w M (putD d f x) f.dropLast (.int .i64 (slotP d f))) := by
  have hR := h
  have hfl := hi.len
  obtain ⟨A, c, A', c', rfl, hc, rfl, hc', ha, hb⟩ := h
  have hlen : (d.flatMap rE).length = d.length * 2 := flat_length rE_len d
  rcases last_cases f with rfl | ⟨G, s, rfl⟩
  · rw [slotP_nil, putD_nil, List.dropLast_nil]
    rw [List.length_nil]
    have hv := Vs.start w (.slice A d.length c) (.slice A' 0 c')
    have hsl := ha.sl.below hv.below
    have hsz0 := hv.size
    have c0 : ((w.alloc (.cells #[.slice A d.length c, .slice A' 0 c'] 28)).alloc (.cells #[.slice none 0 0, .slice none 0 0] 28)).cell? ⟨w.heap.size, 0, none⟩ = some (.slice A d.length c) := hv.k1.cell 0
    have c1 : ((w.alloc (.cells #[.slice A d.length c, .slice A' 0 c'] 28)).alloc (.cells #[.slice none 0 0, .slice none 0 0] 28)).cell? ⟨w.heap.size, 1, none⟩ = some (.slice A' 0 c') := hv.k1.cell 1
    have HV := Lib.hid hv
    clear hR ha hb hv hi hc' hfl
    go_enter Try.func8, Try.ntmps8
    go_wp2_with (first
      | (at_builtin
         refine wpList_append_slk _ rfl (.const (.slice none 0 0)) (.tmp 13) _ rfl ((w.alloc (.cells #[.slice A d.length c, .slice A' 0 c'] 28)).alloc (.cells #[.slice none 0 0, .slice none 0 0] 28)).heap.size 43 2 16 Try.underlying25 cellK (by omega) (.slice none 0 0) 0 [] rfl (World.ownsRow_nil _ _ _ _) _ A d.length c (d.flatMap rE) rfl hsl hlen (rE_one d) (by omega) (by unfold maxLen; omega) (Nat.le_refl _) ?_
         intro v2 w2 hown2 hg2 hat2
         simp only [Nat.zero_add, List.nil_append] at hown2
         have HV2 := Lib.hid (HV.out.grown hg2 (fun g e => by cases e))
         have hsz2 := hg2.size
         obtain ⟨A2, c2, rfl, hc2⟩ := own_slice hown2
         clear hg2 hat2 HV c0 c1)
      | (at_builtin
         refine wpList_append_slk _ rfl (.tmp 17) (.tmp 20) _ rfl ((w.alloc (.cells #[.slice A d.length c, .slice A' 0 c'] 28)).alloc (.cells #[.slice none 0 0, .slice none 0 0] 28)).heap.size 43 2 16 Try.underlying25 cellK (by omega) (.slice A2 d.length c2) d.length (d.flatMap rE) rfl (World.ownsRow.alloc (w := w2) hown2 _) _ _ 1 1 [.bool true, .int .i64 x] rfl (Sl.lit w2 _ _) rfl (by simp [Value.oneCell']) (by omega) (by unfold maxLen; omega) (by simp only [World.size_alloc] at hsz2 ⊢; omega) ?_
         intro v3 w3 hown3 hg3 hat3
         obtain ⟨A3, c3, rfl, hc3⟩ := own_slice hown3
         obtain ⟨e0, e1, ef0, ef1, hr0, hr1, he⟩ := rput_new hM hsz0 HV2.out hown2 hown3 hg3 hc3
         have HE := Lib.hid he
         clear hown2 hown3 hg3 hat3 he HV2))
    refine bodyPost_ret (v := .tuple #[.agg #[.slice A3 (d.length + 1) c3, .slice none 0 0], .int .i64 d.length]) (by simp [results, Try.results8, go_sem, hr0, hr1]) rfl ?_
    exact HE.out
  · rw [slotP_snoc, putD_snoc, List.dropLast_concat]
    obtain ⟨hsl, -⟩ := hi.lt (s := s) (by simp)
    obtain ⟨q, hq⟩ : ∃ q, q = G.length := ⟨_, rfl⟩
    obtain ⟨n1, hn1⟩ : ∃ n1, (G ++ [s]).length = n1 := ⟨_, rfl⟩
    have hnq : n1 = q + 1 := by rw [← hn1, hq]; simp
    rw [hn1] at hc' hfl ⊢
    have hfv : (fv (G ++ [s])).length = n1 := by rw [fv_length, hn1]
    have hv := Vs.start w (.slice A d.length c) (.slice A' n1 c')
    have hsl0 := ha.sl.below hv.below
    have hsz0 := hv.size
    have c0 : ((w.alloc (.cells #[.slice A d.length c, .slice A' n1 c'] 28)).alloc (.cells #[.slice none 0 0, .slice none 0 0] 28)).cell? ⟨w.heap.size, 0, none⟩ = some (.slice A d.length c) := hv.k1.cell 0
    have c1 : ((w.alloc (.cells #[.slice A d.length c, .slice A' n1 c'] 28)).alloc (.cells #[.slice none 0 0, .slice none 0 0] 28)).cell? ⟨w.heap.size, 1, none⟩ = some (.slice A' n1 c') := hv.k1.cell 1
    have hpl := Sl.place (hb.sl.below hv.below) (by rw [hfv]; omega)
    obtain ⟨b', o', rfl, hb', -⟩ := hpl
    have HF : Hid (∀ W, Below w.heap.size w W → W.cell? ⟨b', o' + q, none⟩ = some (.int .i64 (s : Int)) ∧ ∃ B, Sl W B (some ⟨b', o', none⟩) (fv G)) := Lib.hid fun W hW => by
      have h1 := hb.sl.below hW
      refine ⟨?_, w.heap.size, ?_⟩
      · obtain ⟨b2, o2, e2, _, hc2⟩ := Sl.place h1 (by rw [hfv]; omega)
        injection e2 with e2
        injection e2 with e3 e4
        subst e3 e4
        rw [hc2 q (by rw [hfv]; omega)]
        have : (fv (G ++ [s]))[q]? = some (.int .i64 (s : Int)) := by
          rw [fv_append, hq, ← fv_length G, List.getElem?_append_right (Nat.le_refl _), Nat.sub_self]
          rfl
        rw [List.getElem?_eq_getElem (by rw [hfv]; omega)] at this
        exact this
      · have h2 := h1.take q
        rw [fv_append, hq, ← fv_length G, List.take_left] at h2
        exact h2
    have hG : (fv G).length = q := by rw [fv_length, hq]
    have HV := Lib.hid hv
    have i00 : ((n1 : Int) == 0) = false := by rw [beq_eq_false_iff_ne]; omega
    have i0 : IntKind.i64.wrap ((n1 : Int) - 1) = (q : Int) := by rw [IntKind.wrap_i64]; omega
    have i1 : (q : Int) < (n1 : Int) := by omega
    have i2 : (q : Int) ≤ (c' : Int) := by omega
    have i3 : q ≤ c' := by omega
    have i4 : (s : Int) < (d.length : Int) := by omega
    have i5 : q ≤ d.length := by omega
    have HQ := Lib.hid hq
    have HBN := Lib.hid (show w.heap.size ≤ ((w.alloc (.cells #[.slice A d.length c, .slice (some ⟨b', o', none⟩) n1 c'] 28)).alloc (.cells #[.slice none 0 0, .slice none 0 0] 28)).heap.size by omega)
    clear hR ha hb hv hi hfl hn1 hnq hfv hb' hq
    go_enter Try.func8, Try.ntmps8
    go_wp2_with (first
      | (at_builtin
         refine wpList_append_slk _ rfl (.const (.slice none 0 0)) (.tmp 13) _ rfl ((w.alloc (.cells #[.slice A d.length c, .slice (some ⟨b', o', none⟩) n1 c'] 28)).alloc (.cells #[.slice none 0 0, .slice none 0 0] 28)).heap.size 43 2 16 Try.underlying25 cellK (by omega) (.slice none 0 0) 0 [] rfl (World.ownsRow_nil _ _ _ _) _ A d.length c (d.flatMap rE) rfl hsl0 hlen (rE_one d) (by omega) (by unfold maxLen; omega) (Nat.le_refl _) ?_
         intro v2 w2 hown2 hg2 hat2
         simp only [Nat.zero_add, List.nil_append] at hown2
         have hv2 := HV.out.grown hg2 (fun g e => by cases e)
         have hsz2 := hg2.size
         obtain ⟨g2, c2, rfl, hgb, hgl, hc2⟩ := own_form hown2 (by omega)
         obtain ⟨hown3, p1, p2, p3, p4, p5, p6⟩ := own_rE2 hown2 rfl hsl (some x)
         have hv3 := (hv2.off (g := g2) (i := s * 2) (by omega) (.bool true)).off (g := g2) (i := s * 2 + 1) (by omega) (.int .i64 x)
         have b1 : w2.cell? ⟨w.heap.size, 1, none⟩ = some (.slice (some ⟨b', o', none⟩) n1 c') := hv2.k1.cell 1
         have b3 : ((w2.setCell ⟨g2, s * 2, none⟩ (.bool true)).setCell ⟨g2, s * 2 + 1, none⟩ (.int .i64 x)).cell? ⟨w.heap.size, 1, none⟩ = some (.slice (some ⟨b', o', none⟩) n1 c') := hv3.k1.cell 1
         obtain ⟨r0, -⟩ := HF.out w2 hv2.below
         obtain ⟨-, B3, hsl3⟩ := HF.out ((w2.setCell ⟨g2, s * 2, none⟩ (.bool true)).setCell ⟨g2, s * 2 + 1, none⟩ (.int .i64 x)) hv3.below
         have HV3 := Lib.hid hv3
         have HO3 := Lib.hid hown3
         have hs3 : w.heap.size + 2 ≤ ((w2.setCell ⟨g2, s * 2, none⟩ (.bool true)).setCell ⟨g2, s * 2 + 1, none⟩ (.int .i64 x)).heap.size := hv3.size
         clear hg2 hat2 HV c0 c1 hown2 hown3 hv2 hv3 HF)
      | (at_builtin
         refine wpList_append_sl _ rfl (.const (.slice none 0 0)) (.tmp 41) _ rfl ((w2.setCell ⟨g2, s * 2, none⟩ (.bool true)).setCell ⟨g2, s * 2 + 1, none⟩ (.int .i64 x)).heap.size 3 _ 8 Try.underlying26 intE (.slice none 0 0) 0 [] rfl (World.ownsRow_nil _ _ _ _) _ (some ⟨b', o', none⟩) q c' (fv G) rfl hsl3 hG (fv_one G) (by omega) (by unfold maxLen; omega) (Nat.le_refl _) ?_
         intro v4 w4 hown4 hg4 hat4
         simp only [Nat.zero_add, List.nil_append] at hown4
         obtain ⟨A4, c4, rfl, hc4⟩ := own_slice hown4
         obtain ⟨e0, e1, ef0, ef1, hr0, hr1, he⟩ := rput_old hM hsz0 HQ.out HV3.out HO3.out hg4 hown4 hs3 hc2 hc4
         have HE := Lib.hid he
         clear hown4 hg4 hat4 he HV3 HO3))
    refine bodyPost_ret (v := .tuple #[.agg #[.slice (some ⟨g2, 0, none⟩) d.length c2, .slice A4 q c4], .int .i64 s]) (by simp [results, Try.results8, go_sem, hr0, hr1]) rfl ?_
    exact HE.out
end Go.Proofs.Yteiggpdondbhoaa.arena
