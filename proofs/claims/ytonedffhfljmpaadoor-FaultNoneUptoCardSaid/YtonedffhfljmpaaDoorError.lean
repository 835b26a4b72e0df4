/-
  A fault's text, with those of all that it goes on to: (*Fault).Error.
-/
import Derived.Test.YtonedffhfljmpaaDoorText
import Derived.Test.YtonedffhfljmpaaDoorBuild
namespace Go.Proofs.YtonedffhfljmpaaDoor.fault
open Go.RowKit Go.Lib law bytes strc build
set_option linter.unusedVariables false

structure St where
  g : Nat
  op : List UInt8
  p : Int
  i : Nat
def St.ok (s : St) : Prop := I64 s.p ∧ s.i < 18446744073709551616
def St.text (s : St) : List UInt8 := placeL s.op s.p s.i
/-- an error that is, and goes on to, these faults, and last to an error that is none -/
def Row (w : World) (last : Value) : List St → Value → Prop
  | [], v => v = last ∧ Ends last
  | s :: r, v => v = flt s.g ∧ s.ok ∧ ∃ err, Flt w s.g ⟨s.op.toArray⟩ s.p s.i err ∧ Row w last r err
theorem Row.goes {w : World} {last : Value} : ∀ {ss : List St} {v : Value}, Row w last ss v → Goes w last (ss.map St.g) v
  | [], _, h => h
  | _ :: _, _, ⟨hv, _, err, hf, hr⟩ => ⟨hv, _, _, _, err, hf, hr.goes⟩
theorem Row.keep {w w' : World} {last : Value} : ∀ {ss : List St} {v : Value}, Row w last ss v → (∀ g t cs, Blk w g t cs → Blk w' g t cs) → Row w' last ss v
  | [], _, h, _ => h
  | _ :: _, _, ⟨hv, ho, err, hf, hr⟩, hk => ⟨hv, ho, err, hk _ _ _ hf, hr.keep hk⟩
theorem Row.below {w w' : World} {last v : Value} {ss : List St} (h : Row w last ss v) (hb : Below w.heap.size w w') : Row w' last ss v := h.keep fun _ _ _ k => k.below hb k.lt
theorem Row.each {w : World} {last : Value} : ∀ {ss : List St} {v : Value}, Row w last ss v → ∀ s ∈ ss, s.ok ∧ ∃ err, Flt w s.g ⟨s.op.toArray⟩ s.p s.i err
  | [], _, _, _, h => by cases h
  | _ :: _, _, ⟨_, ho, err, hf, hr⟩, s, h => by
    rcases List.mem_cons.1 h with rfl | h
    · exact ⟨ho, err, hf⟩
    · exact hr.each s h
def rowL (ss : List St) : List UInt8 := (ss.map St.text).flatten
theorem rowL_take {ss : List St} {k : Nat} (h : k < ss.length) : rowL (ss.take (k + 1)) = rowL (ss.take k) ++ ss[k].text := by
  unfold rowL
  rw [List.take_succ_eq_append_getElem h, List.map_append, List.flatten_append]
  simp
theorem rowL_take_len (ss : List St) (k : Nat) : (rowL (ss.take k)).length ≤ (rowL ss).length := by
  conv => rhs; rw [← List.take_append_drop k ss]
  simp only [rowL, List.map_append, List.flatten_append, List.length_append]
  omega
theorem op_len {ss : List St} {k : Nat} (h : k < ss.length) : ss[k].op.length ≤ (rowL ss).length := by
  have h1 := rowL_take_len ss (k + 1)
  rw [rowL_take h, List.length_append] at h1
  have : ss[k].op.length ≤ ss[k].text.length := by simp only [St.text, placeL, List.length_append]; omega
  omega
theorem error_nil (w : World) : Calls Tryd.prog 12 #[.pointer none] w (Text [] w) := by
  go_enter Tryd.func12, Tryd.ntmps12
  go_wp2
  go_ret
  exact ⟨rfl, Below.refl _ _⟩
set_option maxRecDepth 100000 in
set_option maxHeartbeats 1000000 in
theorem error_any (s0 : St) (ss : List St) (last : Value) (l : List UInt8) (w : World) (hr : Row w last (s0 :: ss) (flt s0.g)) (htl : Tells last l) (ht : Tab w) (hn : ss.length ≤ 1000000) (hl : (rowL (s0 :: ss)).length ≤ 70368744177664) :
    Calls Tryd.prog 12 #[ptr s0.g] w (Text (rowL (s0 :: ss) ++ l) w) := by
  have HC := Lib.hid (chain_any ((s0 :: ss).map St.g) last (flt s0.g) w hr.goes (by simp; omega))
  obtain ⟨xs, hxs⟩ : ∃ xs, xs = s0 :: ss := ⟨_, rfl⟩
  rw [← hxs] at hr hl HC ⊢
  have hxn : xs.length ≤ 1000001 := by rw [hxs]; simp; omega
  clear hxs hn
  go_enter Tryd.func12, Tryd.ntmps12
  go_wp2_with (fail)
  refine HC.out.mono ?_
  rintro e w1 ⟨A, c, rfl, hc, hs, hb⟩
  have ex : (xs.map St.g).length = xs.length := by simp
  rw [ex] at hc ⊢
  have HX := Lib.hid ex
  have hb0 : Below w1.heap.size w1 (w1.alloc (.cells #[.pointer none, .slice none 0 0] 61)) := (Below.refl _ _).alloc (Nat.le_refl _) _
  have hw : w.heap.size ≤ w1.heap.size := hb.size
  have hx0 : xs.length ≤ 9223372036854775807 := by omega
  have HT := Lib.hid ht
  have HR := Lib.hid hr
  have HTL := Lib.hid htl
  have HL := Lib.hid hl
  have HXN := Lib.hid hxn
  have htlen := tells_len htl
  clear ht hr htl hl hxn ex
  go_wp2_with (fail)
  go_loopw [7, 18] (fun _ i wr => ∃ k : Nat, k ≤ xs.length ∧ i = .int .i64 k ∧ Bu w1.heap.size w1.heap.size (rowL (xs.take k)) wr ∧ Below w1.heap.size w1 wr ∧ w1.heap.size < wr.heap.size) (fun _ i _ => xs.length - (RowKit.intOf i).toNat)
  case atStart => exact ⟨0, Nat.zero_le _, rfl, bu_new w1, hb0, by simp⟩
  case round =>
    obtain ⟨k, hk, rfl, hbu, hbr, hws⟩ := hrel
    have hball : Below w.heap.size w wr := hb.trans (hbr.mono hw)
    by_cases hlt : k < xs.length
    · obtain ⟨ad, rfl, hab, hcell⟩ := (hs.below hbr).at_ (k := k) (by simpa using hlt)
      rw [List.getElem_map] at hcell
      rw [List.getElem_map] at hcell
      obtain ⟨hok, err, hf⟩ := HR.out.each xs[k] (List.getElem_mem hlt)
      have hol := op_len hlt
      have HLO := HL.out
      have HP := Lib.hid (place_any xs[k].g xs[k].op xs[k].p xs[k].i err wr (hf.below hball hf.lt) hok.1 hok.2 (by omega) (tab_below HT.out hball))
      have hpl : (rowL (xs.take k)).length + (placeL xs[k].op xs[k].p xs[k].i).length ≤ 70368744177664 := by
        have h1 := rowL_take_len xs (k + 1)
        rw [rowL_take hlt, List.length_append] at h1
        exact Nat.le_trans h1 HLO
      have HPL := Lib.hid hpl
      have HK := Lib.hid (rowL_take hlt)
      clear hpl HLO hol hf hok
      go_wp2_with (fail)
      refine HP.out.mono ?_
      rintro e w2 ⟨rfl, hb2⟩
      have hbu2 := bu_below hbu hb2 (Nat.le_refl _)
      go_wp2_with (fail)
      refine (writeString_any w1.heap.size w1.heap.size _ _ w2 hbu2 (by have := HPL.out; omega) (by have := hb2.size; omega)).mono ?_
      rintro e w3 ⟨rfl, hbu3, hb3⟩
      go_wp2_with (fail)
      go_roundw
      case rel =>
        refine ⟨k + 1, by omega, by go_num, ?_, (hbr.trans (hb2.mono (Nat.le_of_lt hws))).trans hb3, by have := hb2.size; have := hb3.size; omega⟩
        rw [HK.out]
        exact hbu3
      case measure => simp [RowKit.intOf]; omega
    · have hkk : k = xs.length := by omega
      subst hkk
      rw [List.take_length] at hbu
      have HA := Lib.hid (text_any HTL.out wr (tab_below HT.out hball))
      have HLO := HL.out
      have hpl : (rowL xs).length + l.length ≤ 140737488355328 := by omega
      have HPL := Lib.hid hpl
      clear hpl HLO
      go_wp2_with (fail)
      refine HA.out.mono ?_
      rintro e w2 ⟨rfl, hb2⟩
      have hbu2 := bu_below hbu hb2 (Nat.le_refl _)
      go_wp2_with (fail)
      refine (writeString_any w1.heap.size w1.heap.size _ _ w2 hbu2 HPL.out (by have := hb2.size; omega)).mono ?_
      rintro e w3 ⟨rfl, hbu3, hb3⟩
      go_wp2_with (fail)
      refine (string_any w1.heap.size w1.heap.size _ w3 hbu3 (by have := hb2.size; have := hb3.size; omega)).mono ?_
      rintro e w4 ⟨rfl, hb4⟩
      go_wp2_with (fail)
      go_ret
      exact ⟨rfl, hb.trans ((((hbr.trans (hb2.mono (Nat.le_of_lt hws))).trans hb3).trans hb4).mono hw)⟩
end Go.Proofs.YtonedffhfljmpaaDoor.fault
