/-
  The contract of index.Fresh: the first place of a number that is there, or that stands at an earlier place, too.
-/
import Derived.Test.YtaamlidflfdjkaaIdT
namespace Go.Proofs.Ytaamlidflfdjkaa.idx
open Go.RowKit law bytes only flat ord obj Go.Maps
open aro (Kept zK kV)
open store (iE iE_len itemAt)
set_option linter.unusedVariables false

theorem map_below {P : Program} {k b n : Nat} {R : Value → Option (DataW Unit × List MemPlace)} {D : DataW Unit} {w w' : World} (h : w.ownsMap P k R b n D) (hb : Below w.heap.size w w') : w'.ownsMap P k R b n D := by
  have hlt := h.lt
  obtain ⟨es, clock, h1, h2⟩ := h
  exact ⟨es, clock, (hb.block b hlt).trans h1, h2⟩
set_option maxRecDepth 100000 in
set_option maxHeartbeats 3200000 in
theorem fresh_any {F : Value} {base : Nat} {J : World → Prop} {p : Int → Bool} (H : Has F base J p) (A : Option Addr) (c B : Nat) (l : List (Int × Kept)) (w : World) (hJ : J w) (hB : base ≤ w.heap.size) (hBw : B ≤ w.heap.size) (hs : Sl w B A (l.flatMap iE)) (hw : Wf l) (hq : l.length ≤ 2513169434915) :
    Calls Try.prog 30 #[.slice A l.length c, F] w fun e w' => e = .returned (.tuple #[.int .i64 (fr p (ids l)), .int .i64 (fe p (ids l))]) ∧ Below w.heap.size w w' := by
  have hmm := run_makeMap_n (P := Try.prog) 90 33 91 (l.length : Int) w Try.underlying90
  have HT : Hid (∀ W id, Below w.heap.size w W → Calls Try.prog 37 #[F, .int .u64 id] W fun e w' => e = .returned (.bool (p id)) ∧ Below W.heap.size W w') := Lib.hid fun W id hW => tells_any H id W (H.keep _ _ hJ (hW.mono hB)) (Nat.le_trans hB hW.size)
  have HS := Lib.hid (And.intro hs hBw)
  have HW := Lib.hid hw
  clear hs hw hJ hBw H
  go_enter Try.func30, Try.ntmps30
  go_wp2_with (fail)
  have hb0 : Below w.heap.size w (w.alloc (.map #[] 0)) := (Below.refl _ _).alloc (Nat.le_refl _) _
  have hm0 : (w.alloc (.map #[] 0)).ownsMap Try.prog 33 (unitElem (H := Unit)) w.heap.size 0 (Sd ((ids l).take 0)) := World.ownsMap_made _ _ _ _
  have hz0 : w.heap.size + 1 ≤ (w.alloc (.map #[] 0)).heap.size := by simp
  have HM0 := Lib.hid (And.intro hb0 (And.intro hm0 hz0))
  clear hb0 hm0 hz0 hmm
  obtain ⟨mb, hmb⟩ : ∃ mb, mb = w.heap.size := ⟨_, rfl⟩
  rw [← hmb] at HM0 HS HT hB ⊢
  have HMB := Lib.hid hmb
  clear hmb
  go_loopg [16] l.length (fun gk s16 wr => ∃ (k : Nat), gk = l.length - k ∧ k ≤ l.length ∧ s16 = .int .i64 k ∧ (∀ j, j < k → dup p (ids l) j = false) ∧ wr.ownsMap Try.prog 33 (unitElem (H := Unit)) mb k (Sd ((ids l).take k)) ∧ Below mb w wr ∧ mb + 1 ≤ wr.heap.size)
  case atStart => exact ⟨0, rfl, Nat.zero_le _, rfl, fun j hj => by omega, HM0.out.2.1, HM0.out.1, HM0.out.2.2⟩
  case round =>
    clear HM0
    obtain ⟨k, rfl, hk, rfl, hno, hown, hb, hsz⟩ := hrel
    by_cases hlt : k < l.length
    · have i1 : (k : Int) < (l.length : Int) := by omega
      obtain ⟨b, o, rfl, hb1, d0, d1, d2, d3⟩ := itemAt (HS.out.1.below (hb.mono HS.out.2)) hlt
      have hx := ids_at hlt
      have hwf := HW.out _ (List.getElem_mem hlt)
      obtain ⟨id, hid⟩ : ∃ id, l[k].1 = id := ⟨_, rfl⟩
      rw [hid] at d0 hx hwf
      generalize l[k].2 = kp at d1 d2 d3
      have hkey : keyOf Try.prog 33 (.int .u64 id) = some (.int .u64 id) := keyOf_int_mk Try.underlying33 hwf
      have hd := dup_at (p := p) hx
      rw [← has_Sd] at hd
      have HD := Lib.hid (And.intro hno (And.intro hd hx))
      obtain ⟨V, hV⟩ : ∃ V, V = wr.alloc (.cells #[.int .u64 id, .int .i64 kp.x.tag, .slice kp.A kp.x.vec.length kp.c, .string kp.x.str] 38) := ⟨_, rfl⟩
      have hVs : V.heap.size = wr.heap.size + 1 := by rw [hV]; simp
      have hVb : Below wr.heap.size wr V := by rw [hV]; exact (Below.refl _ _).alloc (Nat.le_refl _) _
      have hVk : Blk V wr.heap.size 38 #[.int .u64 id, .int .i64 kp.x.tag, .slice kp.A kp.x.vec.length kp.c, .string kp.x.str] := by rw [hV]; exact Blk.new wr _ _
      have hown1 : V.ownsMap Try.prog 33 (unitElem (H := Unit)) mb k (Sd ((ids l).take k)) := by rw [hV]; exact hown.alloc _
      have v0 : V.cell? ⟨wr.heap.size, 0, none⟩ = some (.int .u64 id) := hVk.cell 0
      have HV := Lib.hid (And.intro hV (And.intro hVs (And.intro hVb hVk)))
      have HB := Lib.hid (And.intro hb hsz)
      have v0' := v0
      rw [hV] at v0' hown1
      clear hno hd hx hV hVs hVb hVk v0 hown hb hwf hid hsz
      go_wp2_with (first
        | (at_lookup; refine wpList_lookup_own_unit _ rfl _ _ 90 rfl 33 91 mlaw Try.underlying90 (unitZ _) mb k _ rfl hown1 _ _ rfl hkey ?_))
      · have ht : Maps.has (Sd ((ids l).take k)) (.int .u64 id) = true := by assumption
        obtain ⟨h1, h2, h3⟩ := HD.out
        rw [ht, Bool.true_or] at h2
        have hf := fr_here h1 h2 (by rw [ids_length]; exact hlt)
        have HF := Lib.hid (And.intro hf HB.out.1)
        clear h1 h2 hf
        refine bodyPost_ret (v := .tuple #[.int .i64 (k : Int), .int .i64 4]) (by simp [results, Try.results30, go_sem]) rfl ?_
        refine ⟨by rw [HF.out.1.1, HF.out.1.2], ?_⟩
        rw [← HMB.out]
        exact (HF.out.2.alloc (by have := HB.out.2; omega) _).alloc (by have := HB.out.2; simp; omega) _
      · have ht : Maps.has (Sd ((ids l).take k)) (.int .u64 id) = false := by first | assumption | exact Bool.eq_false_iff.2 (by assumption) | (simpa using (by assumption : ¬ (Maps.has (Sd ((ids l).take k)) (.int .u64 id) = true)))
        have hV2 : Below mb w ((wr.alloc (.cells #[.int .u64 id, .int .i64 kp.x.tag, .slice kp.A kp.x.vec.length kp.c, .string kp.x.str] 38)).alloc (.cells #[] 91)) := (HB.out.1.alloc (by have := HB.out.2; omega) _).alloc (by have := HB.out.2; simp; omega) _
        have HC := Lib.hid (HT.out _ id hV2)
        obtain ⟨h1, h2, h3⟩ := HD.out
        rw [ht, Bool.false_or] at h2
        have HO := Lib.hid hown1
        have HV2 := Lib.hid hV2
        have HDD := Lib.hid h2
        have hb2 : Below wr.heap.size wr ((wr.alloc (.cells #[.int .u64 id, .int .i64 kp.x.tag, .slice kp.A kp.x.vec.length kp.c, .string kp.x.str] 38)).alloc (.cells #[] 91)) := ((Below.refl _ _).alloc (Nat.le_refl _) _).alloc (by simp) _
        have hk2 := (Blk.new wr 38 #[.int .u64 id, .int .i64 kp.x.tag, .slice kp.A kp.x.vec.length kp.c, .string kp.x.str]).alloc (.cells #[] 91)
        have ho2 := hown1.alloc (.cells #[] 91)
        obtain ⟨V2, hV⟩ : ∃ V2, V2 = ((wr.alloc (.cells #[.int .u64 id, .int .i64 kp.x.tag, .slice kp.A kp.x.vec.length kp.c, .string kp.x.str] 38)).alloc (.cells #[] 91)) := ⟨_, rfl⟩
        have hVs : V2.heap.size = wr.heap.size + 2 := by rw [hV]; simp
        rw [← hV] at HC HV2 hb2 hk2 ho2 ⊢
        have HK := Lib.hid (And.intro hk2 (And.intro ho2 hVs))
        clear hV hV2 h1 h2 hk2 ho2 HO hown1 hVs v0' ht
        cases hp : p id with
        | true =>
          rw [hp] at HC HDD
          have hf := fr_here HD.out.1 HDD.out (by rw [ids_length]; exact hlt)
          have HF := Lib.hid hf
          clear hf hp
          refine HC.out.mono ?_
          rintro e w2 ⟨rfl, hb3⟩
          have HE : Hid (Below mb w w2) := Lib.hid (HV2.out.trans (hb3.mono (by have := HV2.out.size; have := HB.out.2; have := HK.out.2.2; omega)))
          clear hb3 hb2 HC
          go_wp2_with (fail)
          refine bodyPost_ret (v := .tuple #[.int .i64 (k : Int), .int .i64 4]) (by simp [results, Try.results30, go_sem]) rfl ?_
          exact ⟨by rw [HF.out.1, HF.out.2], by rw [← HMB.out]; exact HE.out⟩
        | false =>
          rw [hp] at HC HDD
          clear hp
          refine HC.out.mono ?_
          rintro e w2 ⟨rfl, hb3⟩
          have s2 := hb3.size
          have k0 : w2.cell? ⟨wr.heap.size, 0, none⟩ = some (.int .u64 id) := (HK.out.1.below hb3 (by have := HK.out.2.2; omega)).cell 0
          have hown2 : w2.ownsMap Try.prog 33 (unitElem (H := Unit)) mb k (Sd ((ids l).take k)) := map_below HK.out.2.1 hb3
          have HE : Hid (Below mb w w2 ∧ mb + 1 ≤ w2.heap.size) := Lib.hid ⟨HV2.out.trans (hb3.mono (by have := HV2.out.size; have := HB.out.2; have := HK.out.2.2; omega)), by have := HB.out.2; have := HK.out.2.2; omega⟩
          have hn2 : k < maxLen := by unfold maxLen; omega
          clear hb3 hb2 HC s2
          go_wp2_with (first
            | (at_mapUpdate; refine wpList_mapUpdate_own _ rfl _ _ _ 90 rfl 33 91 mlaw Try.underlying90 (unitElem (H := Unit)) mb k _ rfl hown2 hn2 _ _ _ rfl rfl hkey _ [] unitElem_mk ?_; intro w3 hown3 hg3))
          rw [Sd_snoc HD.out.2.2] at hown3
          have HN : Hid ((∀ j, j < k + 1 → dup p (ids l) j = false) ∧ w3.ownsMap Try.prog 33 (unitElem (H := Unit)) mb (k + 1) (Sd ((ids l).take (k + 1))) ∧ Below mb w w3 ∧ mb + 1 ≤ w3.heap.size) := Lib.hid ⟨fun j hj => by
            rcases Nat.lt_or_ge j k with h | h
            · exact HD.out.1 j h
            · rw [show j = k by omega]; exact HDD.out, hown3, HE.out.1.grown hg3 (by have := HE.out.2; omega) (fun g e => by injection e with e; omega), Nat.le_trans HE.out.2 hg3.size⟩
          clear hown3 hg3 hown2 k0
          go_roundg (l.length - (k + 1))
          case measure => omega
          case rel => exact ⟨k + 1, rfl, by omega, by go_num, HN.out.1, HN.out.2.1, HN.out.2.2.1, HN.out.2.2.2⟩
    · obtain rfl : k = l.length := by omega
      have i1 : ¬ (l.length : Int) < (l.length : Int) := by omega
      have hf := fr_none (p := p) (l := ids l) (by rw [ids_length]; exact hno)
      rw [ids_length] at hf
      have HF := Lib.hid (And.intro hf hb)
      clear hf hb hown hno
      go_wp2_with (fail)
      refine bodyPost_ret (v := .tuple #[.int .i64 (l.length : Int), .int .i64 0]) (by simp [results, Try.results30, go_sem]) rfl ?_
      exact ⟨by rw [HF.out.1.1, HF.out.1.2], by rw [← HMB.out]; exact HF.out.2⟩
end Go.Proofs.Ytaamlidflfdjkaa.idx
