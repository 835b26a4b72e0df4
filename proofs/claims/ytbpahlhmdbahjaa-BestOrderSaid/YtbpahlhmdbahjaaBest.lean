/-
  A Best in memory; the contracts of New, Full, Len, last, Bound, List.
-/
import Derived.Test.YtbpahlhmdbahjaaBAll
import Derived.Test.YtbpahlhmdbahjaaBRev
namespace Go.Proofs.Ytbpahlhmdbahjaa.best
open Go.RowKit law bytes only flat hit heapM hso Go.Sort Go.Shelf
set_option linter.unusedVariables false

/-- a Best at block bb, its heap at block hb -/
structure Bx (w : World) (base bb hb : Nat) (v : Value) (k : Int) (d : Array Hit) : Prop where
  blk : Blk w bb 41 #[.int .i64 k, .pointer (some ⟨hb, 0, none⟩)]
  hp : HHp w base hb v 16 d
  ne : bb ≠ hb
  nv : v.ownBlock ≠ some bb
  bb : base ≤ bb
  hb : base ≤ hb
section
variable {w w' : World} {base bb hb : Nat} {v : Value} {k : Int} {d : Array Hit}
theorem Bx.below {B : Nat} (h : Bx w base bb hb v k d) (o : Below B w w') (hB : w.heap.size ≤ B) : Bx w' base bb hb v k d := ⟨h.blk.below o (Nat.lt_of_lt_of_le h.blk.lt hB), h.hp.below o hB, h.ne, h.nv, h.bb, h.hb⟩
theorem Bx.only {S : Nat → Prop} (h : Bx w base bb hb v k d) (o : Only S w w') (h1 : ¬ S bb) (h2 : ∀ i, Mine hb v i → ¬ S i) : Bx w' base bb hb v k d := ⟨Blk.only h.blk o h1, h.hp.only o h2, h.ne, h.nv, h.bb, h.hb⟩
end
theorem heap_empty : Heap (lf cB) (#[] : Array Hit) := fun i h0 hi => by simp at hi
set_option maxRecDepth 100000 in
set_option maxHeartbeats 1600000 in
theorem newx_any (k : Int) (w : World) : Calls Try.prog 6 #[.int .i64 k] w fun e w' => ∃ bb hb, e = .returned (.pointer (some ⟨bb, 0, none⟩)) ∧ Below w.heap.size w w' ∧ Bx w' w.heap.size bb hb (.slice none 0 0) k #[] := by
  have hmf : ∀ (fn : Fn) (first cap : Array Value) (w : World), (Instr.makeFunc fn first cap).run Try.prog w = .ok (.func fn first cap) w := fun _ _ _ _ => rfl
  have HN := Lib.hid (new_hit 16 w.heap.size w (Nat.le_refl _))
  go_enter Try.func6, Try.ntmps6
  go_wp2_with (fail)
  refine HN.out.mono ?_
  rintro e w1 ⟨rfl, hb1, hp⟩
  have HX : Hid (Below w.heap.size w (w1.alloc (.cells #[.int .i64 k, .pointer (some ⟨w.heap.size, 0, none⟩)] 41)) ∧ Bx (w1.alloc (.cells #[.int .i64 k, .pointer (some ⟨w.heap.size, 0, none⟩)] 41)) w.heap.size w1.heap.size w.heap.size (.slice none 0 0) k #[]) := Lib.hid
    ⟨hb1.alloc hb1.size _, Blk.new w1 _ _, hp.below ((Below.refl _ _).alloc (Nat.le_refl _) _) (Nat.le_refl _), by have := hp.lt; omega, by simp [Value.ownBlock], hb1.size, Nat.le_refl _⟩
  clear hb1 hp HN
  go_wp2_with (fail)
  go_ret
  exact ⟨_, _, rfl, HX.out.1, HX.out.2⟩
set_option maxRecDepth 100000 in
set_option maxHeartbeats 1600000 in
theorem fullx_any {w : World} {base bb hb : Nat} {v : Value} {k : Int} {d : Array Hit} (h : Bx w base bb hb v k d) : Calls Try.prog 14 #[.pointer (some ⟨bb, 0, none⟩)] w fun e w' => e = .returned (.bool (decide (k ≤ (d.size : Int)))) ∧ Below w.heap.size w w' := by
  have HS : Hid (∀ W, Below w.heap.size w W → W.cell? ⟨bb, 0, none⟩ = some (.int .i64 k) ∧ W.cell? ⟨bb, 1, none⟩ = some (.pointer (some ⟨hb, 0, none⟩))) := Lib.hid fun W hW => ⟨(h.below hW (Nat.le_refl _)).blk.cell 0, (h.below hW (Nat.le_refl _)).blk.cell 1⟩
  have HL : Hid (∀ W, Below w.heap.size w W → Calls Try.prog 26 #[.pointer (some ⟨hb, 0, none⟩)] W fun e w' => e = .returned (.int .i64 d.size) ∧ Below w.heap.size w w') := Lib.hid fun W hW => (len_hit (h.below hW (Nat.le_refl _)).hp).mono fun e w' ⟨he, hw⟩ => ⟨he, hw ▸ hW⟩
  obtain ⟨q0, q1⟩ := HS.out w (Below.refl _ _)
  obtain ⟨n, hn⟩ : ∃ n : Int, (d.size : Int) = n := ⟨_, rfl⟩
  rw [hn] at HL ⊢
  clear h hn
  obtain ⟨o, hd⟩ : ∃ o, decide (k ≤ n) = o := ⟨_, rfl⟩
  rw [hd]
  go_enter Try.func14, Try.ntmps14
  go_wp2_with (fail)
  go_region_held3 (fun W => W.cell? ⟨bb, 0, none⟩ = some (.int .i64 k) ∧ W.cell? ⟨bb, 1, none⟩ = some (.pointer (some ⟨hb, 0, none⟩))) ((refine HS.out _ ?_; repeat' (first | (with_reducible exact Below.refl _ _) | (with_reducible assumption) | (with_reducible refine Below.drew ?_) | (with_reducible refine below_drewN' ?_ _))))
    (first
      | (go_at_call 26; (with_reducible refine (HL.out _ (by repeat' (first | (with_reducible exact Below.refl _ _) | (with_reducible assumption) | (with_reducible refine Below.drew ?_) | (with_reducible refine below_drewN' ?_ _)))).mono ?_); rintro e w2 ⟨rfl, hb2⟩))
  go_wp2_with (fail)
  go_ret
  exact ⟨rfl, by repeat' (first | (with_reducible assumption) | (with_reducible refine Below.drew ?_) | (with_reducible refine below_drewN' ?_ _))⟩
set_option maxRecDepth 100000 in
set_option maxHeartbeats 1600000 in
theorem lenx_any {w : World} {base bb hb : Nat} {v : Value} {k : Int} {d : Array Hit} (h : Bx w base bb hb v k d) : Calls Try.prog 11 #[.pointer (some ⟨bb, 0, none⟩)] w fun e w' => e = .returned (.int .i64 d.size) ∧ w = w' := by
  have HL := Lib.hid (len_hit h.hp)
  have q1 : w.cell? ⟨bb, 1, none⟩ = some (.pointer (some ⟨hb, 0, none⟩)) := h.blk.cell 1
  clear h
  go_enter Try.func11, Try.ntmps11
  go_wp2_with (fail)
  refine HL.out.mono ?_
  rintro e w' ⟨rfl, rfl⟩
  go_wp2_with (fail)
  go_ret
  exact ⟨rfl, rfl⟩
theorem topH_form (d : Array Hit) : ∃ (x : Hit) (ok : Bool), topH d = .tuple #[.agg #[.int .u64 x.1, .int .i64 x.2], .bool ok] ∧ (d.size = 0 → ok = false) ∧ (0 < d.size → ok = true ∧ d[0]! = x) := by
  unfold topH tE
  by_cases h0 : d.size = 0
  · rw [if_pos h0]; exact ⟨(0, 0), false, rfl, fun _ => rfl, fun h => by omega⟩
  · rw [if_neg h0]; exact ⟨d[0]!, true, rfl, fun h => by omega, fun _ => ⟨rfl, rfl⟩⟩
set_option maxRecDepth 100000 in
set_option maxHeartbeats 1600000 in
theorem lastx_any {w : World} {base bb hb : Nat} {v : Value} {k : Int} {d : Array Hit} (h : Bx w base bb hb v k d) (x : Hit) (ok : Bool) (hx : topH d = .tuple #[.agg #[.int .u64 x.1, .int .i64 x.2], .bool ok]) :
    Calls Try.prog 21 #[.pointer (some ⟨bb, 0, none⟩)] w fun e w' => e = .returned (.tuple #[.agg #[.int .u64 x.1, .int .i64 x.2], .bool ok]) ∧ Below w.heap.size w w' := by
  have hb1 : Below w.heap.size w (w.alloc (.cells #[.int .u64 0, .int .i64 0] 30)) := (Below.refl _ _).alloc (Nat.le_refl _) _
  have h1 := h.below hb1 (Nat.le_refl _)
  have ht := top_hit h1.hp
  rw [hx] at ht
  have HT := Lib.hid ht
  have c1 : (w.alloc (.cells #[.int .u64 0, .int .i64 0] 30)).cell? ⟨bb, 1, none⟩ = some (.pointer (some ⟨hb, 0, none⟩)) := h1.blk.cell 1
  clear h h1 ht
  go_enter Try.func21, Try.ntmps21
  go_wp2_with (fail)
  refine HT.out.mono ?_
  rintro e w2 ⟨rfl, hb2⟩
  have hbl : Blk w2 w.heap.size 30 #[.int .u64 0, .int .i64 0] := (Blk.new w _ _).below hb2 (by simp)
  have z0 := hbl.cell 0
  have z1 := hbl.cell 1
  have f0 := hbl.frozen 0
  have f1 := hbl.frozen 1
  simp only [List.getElem?_toArray, List.getElem?_cons_succ, List.getElem?_cons_zero] at z0 z1
  have b6 := (hbl.set_ 0 (.int .u64 x.1)).set_ 1 (.int .i64 x.2)
  have w0 : ((w2.setCell ⟨w.heap.size, 0, none⟩ (.int .u64 x.1)).setCell ⟨w.heap.size, 1, none⟩ (.int .i64 x.2)).cell? ⟨w.heap.size, 0, none⟩ = some (.int .u64 x.1) := b6.cell 0
  have w1' : ((w2.setCell ⟨w.heap.size, 0, none⟩ (.int .u64 x.1)).setCell ⟨w.heap.size, 1, none⟩ (.int .i64 x.2)).cell? ⟨w.heap.size, 1, none⟩ = some (.int .i64 x.2) := b6.cell 1
  have KK := Lib.hid (And.intro ((((hb1.trans (hb2.mono (by simp))).setCell (p := ⟨w.heap.size, 0, none⟩) (Nat.le_refl _) (.int .u64 x.1)).setCell (p := ⟨w.heap.size, 1, none⟩) (Nat.le_refl _) (.int .i64 x.2))) (And.intro w0 w1'))
  clear b6 w0 w1' hbl hb1 hb2 HT c1
  go_wp2_with (fail)
  obtain ⟨V6, hV6⟩ : ∃ V6, V6 = ((w2.setCell ⟨w.heap.size, 0, none⟩ (.int .u64 x.1)).setCell ⟨w.heap.size, 1, none⟩ (.int .i64 x.2)) := ⟨_, rfl⟩
  rw [← hV6] at KK ⊢
  clear hV6
  obtain ⟨o6, w0, w1'⟩ := KK.out
  refine bodyPost_ret (v := .tuple #[.agg #[.int .u64 x.1, .int .i64 x.2], .bool ok]) (by simp [results, Try.results21, go_sem, w0, w1']) rfl ?_
  exact ⟨rfl, o6⟩
/-- how far one may be, as the heap tells it -/
def bdx (k : Int) (d : Array Hit) : Int := if k ≤ (d.size : Int) then (if d.size = 0 then -1 else d[0]!.2) else 1125899906842624
set_option maxRecDepth 100000 in
set_option maxHeartbeats 1600000 in
theorem boundx_any {w : World} {base bb hb : Nat} {v : Value} {k : Int} {d : Array Hit} (h : Bx w base bb hb v k d) : Calls Try.prog 12 #[.pointer (some ⟨bb, 0, none⟩)] w fun e w' => e = .returned (.int .i64 (bdx k d)) ∧ Below w.heap.size w w' := by
  obtain ⟨x, ok, hx, k0, k1⟩ := topH_form d
  have HF := Lib.hid (fullx_any h)
  have HT : Hid (∀ W, Below w.heap.size w W → Calls Try.prog 21 #[.pointer (some ⟨bb, 0, none⟩)] W fun e w' => e = .returned (.tuple #[.agg #[.int .u64 x.1, .int .i64 x.2], .bool ok]) ∧ Below w.heap.size w w') := Lib.hid fun W hW =>
    (lastx_any (h.below hW (Nat.le_refl _)) x ok hx).mono fun e w' ⟨he, hb⟩ => ⟨he, hW.trans (hb.mono hW.size)⟩
  clear h hx
  by_cases hf : k ≤ (d.size : Int)
  · rw [decide_eq_true hf] at HF
    have HB : Hid (bdx k d = if ok = true then x.2 else -1) := Lib.hid (by
      unfold bdx
      rw [if_pos hf]
      by_cases h0 : d.size = 0
      · rw [if_pos h0, k0 h0]; simp
      · obtain ⟨e1, e2⟩ := k1 (by omega)
        rw [if_neg h0, e1, e2]; simp)
    clear k0 k1 hf
    go_enter Try.func12, Try.ntmps12
    go_wp2_with (fail)
    refine HF.out.mono ?_
    rintro e w1 ⟨rfl, hb1⟩
    have HT1 := Lib.hid (HT.out w1 hb1)
    clear HT HF hb1
    go_wp2_with (fail)
    refine HT1.out.mono ?_
    rintro e w2 ⟨rfl, hb2⟩
    have HB2 := Lib.hid (hb2.alloc hb2.size (.cells #[.int .u64 x.1, .int .i64 x.2] 30))
    clear hb2 HT1
    cases ok with
    | true =>
      go_wp2_with (fail)
      go_ret
      exact ⟨by rw [HB.out]; rfl, HB2.out⟩
    | false =>
      go_wp2_with (fail)
      go_ret
      exact ⟨by rw [HB.out]; rfl, HB2.out⟩
  · rw [decide_eq_false hf] at HF
    have HB : Hid (bdx k d = 1125899906842624) := Lib.hid (by unfold bdx; rw [if_neg hf])
    clear k0 k1 hf
    go_enter Try.func12, Try.ntmps12
    go_wp2_with (fail)
    refine HF.out.mono ?_
    rintro e w1 ⟨rfl, hb1⟩
    have HB1 := Lib.hid hb1
    clear HT HF hb1
    go_wp2_with (fail)
    go_ret
    exact ⟨by rw [HB.out]; rfl, HB1.out⟩
set_option maxRecDepth 100000 in
set_option maxHeartbeats 1600000 in
theorem listx_any {w : World} {base bb hb : Nat} {v : Value} {k : Int} {d : Array Hit} {l : List Hit} (h : Bx w base bb hb v k d) (hp : d.toList.Perm (keep k l)) (hsz : d.size * 16 ≤ 140737488355328) :
    Calls Try.prog 10 #[.pointer (some ⟨bb, 0, none⟩)] w (Own (keep k l) w) := by
  have q1 : w.cell? ⟨bb, 1, none⟩ = some (.pointer (some ⟨hb, 0, none⟩)) := h.blk.cell 1
  have HA : Hid (Calls Try.prog 24 #[.pointer (some ⟨hb, 0, none⟩)] w fun e w1 => ∃ A c, e = .returned (.slice A d.size c) ∧ Calls Try.prog 25 #[.slice A d.size c] w1 fun e w' => e = .returned (.tuple #[]) ∧ Own (keep k l) w (.returned (.slice A d.size c)) w') := Lib.hid ((all_hit cB border_enters border_tells cB_swo w h.hp hsz).mono fun e w1 ⟨A, c, R, he, ho, p1, p2, hb⟩ => by
    obtain ⟨e1, e2⟩ := turned hp p1 p2
    refine ⟨A, c, he, ?_⟩
    rw [← e1] at ho ⊢
    refine (reverse_any A R c _ w1 (by omega) ho).mono fun e w' ⟨he, ho2, hr⟩ => ⟨he, Own.mk hr e2 (hb.trans (ho2.below hb.size fun i e3 => (own_lt ho e3).1))⟩)
  clear h hp
  go_enter Try.func10, Try.ntmps10
  go_wp2_with (fail)
  refine HA.out.mono ?_
  rintro e w1 ⟨A, c, rfl, hr⟩
  have HR := Lib.hid hr
  clear hr HA
  go_wp2_with (fail)
  refine HR.out.mono ?_
  rintro e w2 ⟨rfl, ho⟩
  have HO := Lib.hid ho
  clear ho HR
  go_wp2_with (fail)
  refine bodyPost_ret (v := .slice A d.size c) (by simp [results, Try.results10, go_sem]) rfl ?_
  exact HO.out
end Go.Proofs.Ytbpahlhmdbahjaa.best
