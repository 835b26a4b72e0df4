/-
  For all two rows of hits that hold together at most 1048576 values the law HitsMerge returns true, and changes nothing that there was.
-/
import Derived.Test.YtbpeblmjnipakaaHitMg
import Derived.Test.YtbpeblmjnipakaaHitN
import Derived.Test.YtbpeblmjnipakaaHitOpen
import Derived.Test.YtbpeblmjnipakaaUpto
namespace Go.Proofs.Ytbpeblmjnipakaa.hitsMerge
open Go.RowKit law bytes only flat came hit Go.Sort Go.Shelf
open Go.ChangeShapes Go.WideShapes Go.Deep Go.ChangeAt
set_option linter.unusedVariables false

/-- what the law's calls come to -/
structure Law (w : World) (p q n : Nat) (A A' : Option Addr) (c c' : Nat) (a b : List Hit) : Prop where
  pq : p + q = n
  small : n ≤ 1048576
  ha : Sl w w.heap.size A (hv a)
  hb : Sl w w.heap.size A' (hv b)
  la : (hv a).length = p * 2
  lb : (hv b).length = q * 2
  all : ∀ (W : World) (A2 : Option Addr) (c2 : Nat), Sl W W.heap.size A2 (hv a ++ hv b) → Calls Try.prog 5 #[.slice A2 n c2] W (RowP n (sortH (a ++ b)) W)
  merge : ∀ W, Below w.heap.size w W → Calls Try.prog 7 #[.slice A p c, .slice A' q c'] W (RowP n (sortH (a ++ b)) W)
  sorta : ∀ W, Below w.heap.size w W → Calls Try.prog 5 #[.slice A p c] W (RowP p (sortH a) W)
  sortb : ∀ W, Below w.heap.size w W → Calls Try.prog 5 #[.slice A' q c'] W (RowP q (sortH b) W)
  again : ∀ (W : World) (A2 A3 : Option Addr) (c2 c3 : Nat), p ≤ c2 → q ≤ c3 → Sl W W.heap.size A2 (hv (sortH a)) → Sl W W.heap.size A3 (hv (sortH b)) → Calls Try.prog 7 #[.slice A2 p c2, .slice A3 q c3] W (RowP n (sortH (a ++ b)) W)
  same : ∀ (W : World) (A2 A3 : Option Addr) (c2 c3 : Nat), Sl W W.heap.size A2 (hv (sortH (a ++ b))) → Sl W W.heap.size A3 (hv (sortH (a ++ b))) → Calls Try.prog 6 #[.slice A2 n c2, .slice A3 n c3] W fun e w' => e = .returned (.bool true) ∧ Below W.heap.size W w'
theorem law_of (A A' : Option Addr) (c c' : Nat) (a b : List Hit) (w : World) (hm : a.length + b.length ≤ 1048576) (hca : a.length ≤ c) (hcb : b.length ≤ c') (ha : Sl w w.heap.size A (hv a)) (hb : Sl w w.heap.size A' (hv b)) :
    Law w a.length b.length (a.length + b.length) A A' c c' a b where
  pq := rfl
  small := hm
  ha := ha
  hb := hb
  la := hv_length a
  lb := hv_length b
  all W A2 c2 h := by
    have hl : (a ++ b).length = a.length + b.length := List.length_append
    have hr := rsort_any A2 (a ++ b) c2 _ W (by omega) (Nat.le_refl _) (by rw [hv_append]; exact h)
    rw [hl] at hr
    exact hr.mono fun e w' ho => ho.rows.row (by rw [sortH_length, hl])
  merge W hW := merge_any A A' a b c c' _ _ W (by omega) hca hcb hW.size (ha.below hW) (hb.below hW) rfl
  sorta W hW := (rsort_any A a c _ W (by omega) hW.size (ha.below hW)).mono fun e w' ho => ho.rows.row (sortH_length a)
  sortb W hW := (rsort_any A' b c' _ W (by omega) hW.size (hb.below hW)).mono fun e w' ho => ho.rows.row (sortH_length b)
  again W A2 A3 c2 c3 h2 h3 s2 s3 := by
    have h := merge_any A2 A3 (sortH a) (sortH b) c2 c3 _ (a.length + b.length) W (by rw [sortH_length, sortH_length]; omega) (by rw [sortH_length]; exact h2) (by rw [sortH_length]; exact h3) (Nat.le_refl _) s2 s3 (by rw [sortH_length, sortH_length])
    rw [sortH_length, sortH_length, sortH_sorts] at h
    exact h
  same W A2 A3 c2 c3 s2 s3 := by
    have hl : (sortH (a ++ b)).length = a.length + b.length := by rw [sortH_length, List.length_append]
    have h := same_any A2 A3 (sortH (a ++ b)) c2 c3 _ _ W (by rw [hl]; omega) s2 s3
    rw [hl] at h
    exact h
set_option maxRecDepth 100000 in
set_option maxHeartbeats 1600000 in
theorem walk0 (A A' : Option Addr) (c c' p q n : Nat) (a b : List Hit) (w : World) (L : Law w p q n A A' c c' a b) :
    Calls Try.prog 3 #[.slice A p c, .slice A' q c'] w fun e w' => e = .returned (.bool true) ∧ Below w.heap.size w w' := by
  have HPQ := Lib.hid L.pq
  have hsm : p + q ≤ 1048576 := by have := L.pq; have := L.small; omega
  have HL := Lib.hid L
  clear L
  go_enter Try.func3, Try.ntmps3
  go_wp2_with (first
    | (at_builtin
       refine wpList_append_slk _ rfl (.tmp 6) (.tmp 7) _ rfl w.heap.size 31 2 16 Try.underlying22 hitE (by omega) (.slice (some ⟨w.heap.size, 0, none⟩) 0 0) 0 [] rfl (World.ownsRow_lit w #[] 0 (Nat.le_refl _) (by unfold maxLen; omega) rfl) _ A p c (hv a) rfl (HL.out.ha.alloc (Nat.le_refl _) _) HL.out.la (hv_one _) (by omega) (by unfold maxLen; omega) (by simp) ?_
       intro v1 w1 hown1 hg1 hat1
       have hb1 : Below w.heap.size w w1 := ((Below.refl _ w).alloc (Nat.le_refl _) _).grown hg1 (by simp) (by simp [Value.ownBlock])
       simp only [Nat.zero_add, List.nil_append] at hown1
       obtain ⟨A1, c1, rfl, hc1⟩ := own_slice hown1
       have hsz1 := hb1.size
       have hsb1 := HL.out.hb.below hb1)
    | (at_builtin
       refine wpList_append_slk _ rfl (.tmp 8) (.tmp 9) _ rfl w.heap.size 31 2 16 Try.underlying22 hitE (by omega) (.slice A1 p c1) p (hv a) rfl hown1 _ A' q c' (hv b) rfl hsb1 HL.out.lb (hv_one _) (by omega) (by unfold maxLen; omega) hsz1 ?_
       intro v2 w2 hown2 hg2 hat2
       obtain ⟨A2, c2, rfl, hc2⟩ := own_slice hown2
       have hb2 := below_appendK hb1 hsz1 hown1 (Nat.le_refl _) hg2))
  have hal := HL.out.all w2 A2 c2 (Sl.of_ownK hown2)
  rw [← HPQ.out] at hal
  have HA := Lib.hid hal
  have HB2 := Lib.hid hb2
  clear hal hb2 hown2 hg2 hat2 hown1 hg1 hat1 hb1 hsb1 hsz1
  go_wp2_with (fail)
  refine HA.out.mono ?_
  rintro e w3 ⟨A3, c3, rfl, hc3, hs3, hb3⟩
  rw [HPQ.out] at hc3 ⊢
  have HB3 := Lib.hid (HB2.out.trans (hb3.mono HB2.out.size))
  have HS3 := Lib.hid hs3
  have HM := Lib.hid (HL.out.merge w3 HB3.out)
  clear hs3 hb3 HA HB2
  go_wp2_with (fail)
  refine HM.out.mono ?_
  rintro e w4 ⟨A4, c4, rfl, hc4, hs4, hb4⟩
  have HB4 := Lib.hid (HB3.out.trans (hb4.mono HB3.out.size))
  have HS4 := Lib.hid (HS3.out.on hb4)
  have HQ := Lib.hid (HL.out.same w4 A4 A3 c4 c3 hs4 HS4.out)
  clear hs4 hb4 HM HB3 HS3
  go_wp2_with (fail)
  refine HQ.out.mono ?_
  rintro e w5 ⟨rfl, hb5⟩
  have HB5 := Lib.hid (HB4.out.trans (hb5.mono HB4.out.size))
  have HS5 := Lib.hid (HS4.out.on hb5)
  have HR := Lib.hid (HL.out.sorta w5 HB5.out)
  clear hb5 HQ HB4 HS4
  go_wp2_with (fail)
  refine HR.out.mono ?_
  rintro e w6 ⟨A6, c6, rfl, hc6, hs6, hb6⟩
  have HB6 := Lib.hid (HB5.out.trans (hb6.mono HB5.out.size))
  have HS6 := Lib.hid (And.intro (HS5.out.on hb6) hs6)
  have HR := Lib.hid (HL.out.sortb w6 HB6.out)
  clear hs6 hb6 HB5 HS5
  go_wp2_with (fail)
  refine HR.out.mono ?_
  rintro e w7 ⟨A7, c7, rfl, hc7, hs7, hb7⟩
  have HB7 := Lib.hid (HB6.out.trans (hb7.mono HB6.out.size))
  have HS7 := Lib.hid (HS6.out.1.on hb7)
  have HM := Lib.hid (HL.out.again w7 A6 A7 c6 c7 hc6 hc7 (HS6.out.2.on hb7) hs7)
  clear hs7 hb7 HB6 HS6 HR
  go_wp2_with (fail)
  refine HM.out.mono ?_
  rintro e w8 ⟨A8, c8, rfl, hc8, hs8, hb8⟩
  have HB8 := Lib.hid (HB7.out.trans (hb8.mono HB7.out.size))
  have HQ := Lib.hid (HL.out.same w8 A8 A3 c8 c3 hs8 (HS7.out.on hb8))
  clear hs8 hb8 HM HB7 HS7
  go_wp2_with (fail)
  refine HQ.out.mono ?_
  rintro e w9 ⟨rfl, hb9⟩
  have HB9 := Lib.hid (HB8.out.trans (hb9.mono HB8.out.size))
  have HV := Lib.hid (lives_any w9)
  clear hb9 HQ HB8
  go_wp2_with (fail)
  refine HV.out.mono ?_
  rintro e w10 ⟨rfl, hb10⟩
  have HB10 := Lib.hid (HB9.out.trans (hb10.mono HB9.out.size))
  clear hb10 HV HB9
  go_wp2_with (fail)
  go_ret
  exact ⟨rfl, HB10.out⟩

theorem lifted (os : Os) (started : os.Started) (H : Type) (enc : TypeId × Value → H) (F : Stop.Interp) :
    ReturnsInHanded {} Try.checked os 3 .any ((Rows.OpenSpec.upto Rows.hitsMergeSpec).pre6 enc Try.prog Try.f3 Rows.hitsMergeUptoRow.domain false) (((Rows.OpenSpec.upto Rows.hitsMergeSpec).at F).post enc Try.prog Try.f3 false true false false) := by
  refine lift_upto (C := Try.checked) (by kernel_rfl) started (by kernel_rfl) Try.func3 rfl (by kernel_rfl) (by kernel_rfl) rfl Try.underlying4
    (fun ds hd => by match ds, hd with | [_, _], _ => exact ⟨rfl, rfl, rfl⟩)
    (OpenSpec.witness (enc := enc) (C := Try.checked) (s := Rows.OpenSpec.upto Rows.hitsMergeSpec) (k := Rows.uptoSmall) rfl false ⟨#[], #[.slice none 0 0, .slice none 0 0], []⟩ 8 (by kernel_rfl) (by kernel_rfl) (by kernel_rfl)
      (x := ([.nil, .nil], [], [])) (by kernel_rfl) rfl (by kernel_rfl)) ?_
  intro W base args ds before hval0 hA0 hfz hk
  have hval : ∀ (j : Nat) t v, Try.f3.params[j]? = some t → args[j]? = some v → Value.okWide Try.prog W .any base t v := hval0
  have hA : DataW.TrodAll enc Try.prog W 0 (fun _ => true) true Try.f3.params.toList args.toList ds before := hA0
  rw [Try.params3] at hA hval
  obtain ⟨v0, vs0, d0, ds0, p0, q0, hargs, rfl, rfl, h0, r0⟩ := trodAll_cons hA
  obtain ⟨v1, vs1, d1, ds1, p1, q1, rfl, rfl, rfl, h1, r1⟩ := trodAll_cons r0
  obtain ⟨rfl, rfl, rfl⟩ := trodAll_nil r1
  obtain rfl : args = #[v0, v1] := by cases args; simp_all
  obtain ⟨A, c, a, rfl, hca, ha, hda⟩ := open_hitsc (hval 0 22 v0 rfl rfl) h0
  obtain ⟨A', c', b, rfl, hcb, hb, hdb⟩ := open_hitsc (hval 1 22 v1 rfl rfl) h1
  have key : ∀ (l : List Hit) (d : DataW H), (l = [] ∨ ∃ el sp, d = .slice el sp ∧ l.length ≤ el.length + sp.length) → l.length ≤ Rows.uptoBulk d := fun l d h => by
    rcases h with rfl | ⟨el, sp, rfl, hle⟩
    · simp
    · have := bulk_slice el sp
      omega
  have ka := key a d0 hda
  have kb := key b d1 hdb
  simp only [Rows.uptoBulkAll] at hk
  exact walk0 A A' c c' _ _ _ a b W (law_of A A' c c' a b W (by omega) hca hcb ha hb)

theorem proved : Rows.HitsMergeUptoSaid :=
  OpenClaim.holds_of_cond 3 Try.f3 rfl rfl rfl rfl rfl rfl rfl ⟨rfl, rfl, rfl, rfl, rfl⟩ rfl rfl rfl rfl rfl (by kernel_rfl) Try.func3 (by kernel_rfl)
    (of_decide_eq_true (by kernel_rfl)) (by unfold Func.isWrapper; first | (rw [if_pos (by decide +kernel)]; kernel_rfl) | (rw [if_neg (by decide +kernel)]; exact ⟨rfl, rfl⟩))
    (fun os started H enc _ F => lifted os started H enc F)
#print axioms proved
end Go.Proofs.Ytbpeblmjnipakaa.hitsMerge
