/-
  The contract of object.Put.
-/
import Derived.Test.YtlgjbdgolchadaaPutW
import Derived.Test.YtlgjbdgolchadaaCodec
import Derived.Test.YtlgjbdgolchadaaSameO
namespace Go.Proofs.Ytlgjbdgolchadaa.obj
open Go.RowKit law bytes nums ord code
set_option linter.unusedVariables false

set_option maxHeartbeats 1600000 in
theorem put_any (g : Nat) (A : Option Addr) (c B : Nat) (x : Thing) (xs : List UInt8) (w : World) (hw : Wr w g xs) (hB : B ≤ g) (hs : Sl w B A (iv x.vec)) (hok : Okay x) (hvl : x.vec.length ≤ 1048576) (hsl : x.str.size ≤ 1048576) (hl : xs.length ≤ 140737400000000) :
    Calls Try.prog 16 #[.pointer (some ⟨g, 0, none⟩), .agg #[.int .i64 x.tag, .slice A x.vec.length c, .string x.str]] w (Wrote g (xs ++ encO x) w) := by
  obtain ⟨⟨ht1, ht2⟩, hvb⟩ := hok
  have hE : encO x = encB (encI x.tag) ++ (if x.tag = 1 then encB x.vec.length ++ encV x.vec else if x.tag = 2 then encB x.str.size ++ tl x.str else []) := rfl
  have hgw := hw.choose_spec.1.lt
  have hwp := hw.box (.cells #[.int .i64 x.tag, .slice A x.vec.length c, .string x.str] 24)
  have hblk := Blk.new w 24 #[.int .i64 x.tag, .slice A x.vec.length c, .string x.str]
  have hb0 : Below g w (w.alloc (.cells #[.int .i64 x.tag, .slice A x.vec.length c, .string x.str] 24)) := (Below.refl _ w).alloc (Nat.le_of_lt hgw) _
  have hs0 := hs.alloc (o := .cells #[.int .i64 x.tag, .slice A x.vec.length c, .string x.str] 24) (by omega)
  have hn1 := encB_len (encI_lt ht1 ht2)
  have hX := int_p g w.heap.size x.tag ht1 ht2 xs _ hwp (by omega)
  have HX := Lib.hid hX
  clear hX hw hs
  obtain ⟨V, hV⟩ : ∃ V, V = w.alloc (.cells #[.int .i64 x.tag, .slice A x.vec.length c, .string x.str] 24) := ⟨_, rfl⟩
  rw [← hV] at hwp hblk hb0 hs0 HX
  have hxl : (xs ++ encB (encI x.tag)).length = xs.length + (encB (encI x.tag)).length := List.length_append
  by_cases k1 : x.tag = 1
  · rw [if_pos k1] at hE
    have HE := Lib.hid hE
    have e1 : (x.tag == 1) = true := by simpa using k1
    clear hE k1
    go_enter Try.func16, Try.ntmps16
    go_wp2_with (fail)
    rw [← hV]
    clear hV
    refine HX.out.mono ?_
    rintro e w1 ⟨rfl, hb1, hw1, hp1⟩
    obtain ⟨c0, c1, c2, cf⟩ := cells3 (hblk.keep hp1)
    have hN := num_p g w.heap.size x.vec.length (by unfold U64; omega) _ w1 hw1 (by rw [hxl]; omega)
    have HN := Lib.hid hN
    have hb1' := hb0.trans hb1
    clear hN hwp HX hw1
    go_wp2_with (fail)
    refine HN.out.mono ?_
    rintro e w2 ⟨rfl, hb2, hw2, hp2⟩
    obtain ⟨c0, c1, c2, cf⟩ := cells3 (hblk.keep (hp2.trans hp1))
    have hb2' := hb1'.trans hb2
    have hs2 := (hs0.below (hb1.mono hB)).below (hb2.mono hB)
    have hw2 := hw2.wr
    have hn2 := encB_len (n := x.vec.length) (by omega)
    have hV4 := encV_len hvb
    have HV4 := Lib.hid hV4
    have hvb' := Lib.hid hvb
    clear HN hb1 hb2 hp1 hp2 hb1' hs0 hV4 hvb
    go_wp2_with (fail)
    go_loopw [23] (fun i wr => ∃ k : Nat, k ≤ x.vec.length ∧ i = .int .i64 k ∧ Wr wr g (xs ++ encB (encI x.tag) ++ encB x.vec.length ++ encV (x.vec.take k)) ∧ Below g w wr ∧ Sl wr B A (iv x.vec)) (fun i _ => x.vec.length - (intOf i).toNat)
    case atStart => exact ⟨0, Nat.zero_le _, rfl, by simpa [encV] using hw2, hb2', hs2⟩
    case round =>
      clear hb2' hs2 hw2 c0 c1 c2 cf
      obtain ⟨k, hk, rfl, hwr, hb, hsr⟩ := hrel
      by_cases hlt : k < x.vec.length
      · obtain ⟨ad, rfl, -, hc⟩ := Sl.num hsr hlt
        have hbd := hvb'.out x.vec[k] (List.getElem_mem hlt)
        have hle := HV4.out k
        have HS := Lib.hid (encV_take x.vec k hlt)
        have hlen : (xs ++ encB (encI x.tag) ++ encB x.vec.length ++ encV (x.vec.take k)).length + 10 ≤ 140737488355328 := by
          simp only [List.length_append]
          omega
        have hI := int_any g x.vec[k] (by omega) (by omega) _ wr hwr hlen
        have HI := Lib.hid hI
        clear hI hlen hle hwr
        generalize x.vec[k] = v at hc HI HS hbd
        go_wp2_with (fail)
        refine HI.out.mono ?_
        rintro e w3 ⟨rfl, hb3, hw3⟩
        go_wp2_with (fail)
        go_roundw
        case rel => exact ⟨k + 1, by omega, by go_num, by rw [HS.out, ← List.append_assoc]; exact hw3, hb.trans hb3, hsr.below (hb3.mono hB)⟩
        case measure => simp [intOf]; omega
      · go_wp2
        go_end0
        have e : x.vec.take k = x.vec := List.take_of_length_le (by omega)
        rw [e] at hwr
        refine ⟨rfl, hb, ?_⟩
        rw [HE.out, ← List.append_assoc, ← List.append_assoc]
        exact hwr
  rw [if_neg k1] at hE
  have e1 : (x.tag == 1) = false := by simpa using k1
  by_cases k2 : x.tag = 2
  · rw [if_pos k2] at hE
    have HE := Lib.hid hE
    have e2 : (x.tag == 2) = true := by simpa using k2
    clear hE k1 k2
    go_enter Try.func16, Try.ntmps16
    go_wp2_with (fail)
    rw [← hV]
    clear hV
    refine HX.out.mono ?_
    rintro e w1 ⟨rfl, hb1, hw1, hp1⟩
    obtain ⟨c0, c1, c2, cf⟩ := cells3 (hblk.keep hp1)
    have hT := text_any g x.str _ w1 hw1.wr (by rw [hxl]; omega)
    have HT := Lib.hid hT
    clear hT HX
    go_wp2_with (fail)
    refine HT.out.mono ?_
    rintro e w2 ⟨rfl, hb2, hw2⟩
    go_wp2_with (fail)
    go_end0
    refine ⟨rfl, (hb0.trans hb1).trans hb2, ?_⟩
    rw [HE.out, ← List.append_assoc]
    exact hw2
  rw [if_neg k2, List.append_nil] at hE
  have HE := Lib.hid hE
  have e2 : (x.tag == 2) = false := by simpa using k2
  clear hE k1 k2
  go_enter Try.func16, Try.ntmps16
  go_wp2_with (fail)
  rw [← hV]
  clear hV
  refine HX.out.mono ?_
  rintro e w1 ⟨rfl, hb1, hw1, hp1⟩
  obtain ⟨c0, c1, c2, cf⟩ := cells3 (hblk.keep hp1)
  clear HX
  go_wp2_with (fail)
  go_end0
  refine ⟨rfl, hb0.trans hb1, ?_⟩
  rw [HE.out]
  exact hw1.wr
end Go.Proofs.Ytlgjbdgolchadaa.obj
