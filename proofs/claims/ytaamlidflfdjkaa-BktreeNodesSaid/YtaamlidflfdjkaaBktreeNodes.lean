/-
  For all runs: act by act, a tree's nodes are those that the document tells, as deep, as many gone, and its image is one of a tree (P23.1). No condition.
-/
import Derived.Test.YtaamlidflfdjkaaBkX
import Derived.Test.YtaamlidflfdjkaaBkV
import Derived.Deep.RegionHeld3
import Derived.BigQuiet
import Derived.Deep.CutBlock
import Derived.Deep.Cut
import Derived.Deep.CutRange
namespace Go.Proofs.Ytaamlidflfdjkaa.bktreeNodes
open Go.RowKit Go.ChangeShapes Go.WideShapes Go.ChangeAt law bytes only flat nums ord obj metric tab bk play
open aro (Kept)
open store (iE iE_len itemAt)
set_option linter.unusedVariables false
set_option maxRecDepth 100000
structure Hyp (w : World) (A : Option Addr) (l : List Deed) : Prop where
  row : Sl w w.heap.size A (l.flatMap acE)
  each : ∀ a ∈ l, DIn w a
  few : l.length ≤ 9223372036854775807
section
variable {H : Type} {enc : TypeId × Value → H} {W : World} {base b0 : Nat} {held : Bool}
/-- what is done, by value -/
theorem open_run {r : Reach} {ts : List TypeId} {ds : List (DataW H)} {j : Nat} {v : Value} {d : DataW H} {p : List MemPlace} (hval : Value.okWide Try.prog W r b0 24 v) (h : DataW.Trod enc Try.prog W base (fun _ => true) held 24 v d p)
    (hsz : (DataW.weightsEach Try.prog ts ds).all (· ≤ reachBytes) = true) (hj : ts[j]? = some 24) (hdj : ds[j]? = some d) :
    ∃ (n s : Int) (A : Option Addr) (c : Nat) (l : List Deed), v = .agg #[.int .i64 n, .int .i64 s, .slice A l.length c] ∧ Hyp W A l := by
  obtain ⟨cs, rfl, hsz2⟩ := okWide_struct Try.underlying24 hval
  obtain ⟨fuel, hf⟩ := h
  have hw : ∀ n ∈ d.weights Try.prog 24, n ≤ reachBytes := fun n hn => by
    have := List.all_eq_true.1 hsz n (DataW.weights_mem_each hj hdj n hn)
    simpa using this
  obtain ⟨xs, n, _, hx, hl, hlen, hg⟩ := DataW.trod_struct Try.underlying24 hf
  have hl3 : (Value.cells (.agg cs)).toList.length = 3 := hl.trans (by kernel_rfl)
  have hcs : (Value.cells (.agg cs)).toList = cs.toList := rfl
  rw [hcs] at hl3 hg
  obtain ⟨L, hL⟩ : ∃ L, cs.toList = L := ⟨_, rfl⟩
  rw [hL] at hl3 hg
  match L, hl3, xs, hlen with
  | [c0, c1, c2], _, [y0, y1, y2], _ =>
    have g0 : DataW.trod enc Try.prog W base (fun _ => true) held n 3 [c0] = some y0 := hg 0 _ rfl
    have g1 : DataW.trod enc Try.prog W base (fun _ => true) held n 3 [c1] = some y1 := hg 1 _ rfl
    have g2 : DataW.trod enc Try.prog W base (fun _ => true) held n 22 [c2] = some y2 := hg 2 _ rfl
    obtain ⟨n0, e0, -, -⟩ := DataW.trod_int Try.underlying3 g0
    obtain ⟨n1, e1, -, -⟩ := DataW.trod_int Try.underlying3 g1
    obtain ⟨A, c, l, e2, hc2, hml, hw2⟩ := row_D (N := 8) (R := fun a d => (∀ n ∈ d.weights Try.prog 41, n ≤ reachBytes) → DIn W a) Try.underlying22 (by kernel_rfl) deed_in g2
    have h0 := List.singleton_inj.1 e0
    have h1 := List.singleton_inj.1 e1
    have h2 := List.singleton_inj.1 e2
    subst h0 h1 h2
    refine ⟨n0, n1, A, c, l, ?_, flat.Came.sl hc2 (by decide) acE_len, fun a ha => ?_, by unfold maxLen at hml; omega⟩
    · rw [show cs = (cs.toList).toArray from by simp, hL]
    · have hw3 := hw2 fun m hm => hw m (by
        have e := congrArg Prod.fst hx
        simp only at e
        rw [e]
        simp only [DataW.weights, Try.underlying24, List.map_cons, List.map_nil, DataW.weightsEach, List.mem_append]
        exact .inr (.inr (.inl hm)))
      obtain ⟨d, hd, hdw⟩ := hw3.2 a ha
      exact hd hdw
end
set_option maxHeartbeats 12800000 in
theorem walk (n s : Int) (A0 : Option Addr) (c0 : Nat) (l : List Deed) (w : World) (hy : Hyp w A0 l) : Calls Try.prog 3 #[.agg #[.int .i64 n, .int .i64 s, .slice A0 l.length c0]] w fun e w' => e = .returned (.bool true) ∧ Below w.heap.size w w' := by
  obtain ⟨V, hV⟩ : ∃ V, V = w.alloc (.cells #[.int .i64 n, .int .i64 s, .slice A0 l.length c0] 24) := ⟨_, rfl⟩
  have hbV : Below w.heap.size w V := by rw [hV]; exact (Below.refl _ _).alloc (Nat.le_refl _) _
  have hkV : Blk V w.heap.size 24 #[.int .i64 n, .int .i64 s, .slice A0 l.length c0] := by rw [hV]; exact Blk.new w _ _
  have hzV : V.heap.size = w.heap.size + 1 := by rw [hV]; simp
  have HL : Hid (∀ W, Below w.heap.size w W → Calls Try.prog 5 #[] W fun e w' => e = .returned (.bool true) ∧ Below w.heap.size w w') := Lib.hid fun W hb => (lives_any W).mono fun e w' ⟨he, hb2⟩ => ⟨he, hb.trans (hb2.mono hb.size)⟩
  have HS : Hid (∀ W, Below V.heap.size V W → W.cell? ⟨w.heap.size, 0, none⟩ = some (.int .i64 n) ∧ W.cell? ⟨w.heap.size, 1, none⟩ = some (.int .i64 s) ∧ W.cell? ⟨w.heap.size, 2, none⟩ = some (.slice A0 l.length c0)) := Lib.hid fun W hW => by
    have b := hkV.below hW hkV.lt
    exact ⟨b.cell 0, b.cell 1, b.cell 2⟩
  have HBW : Hid (∀ W, Below V.heap.size V W → Below w.heap.size w W) := Lib.hid fun W hW => hbV.trans (hW.mono (by omega))
  obtain ⟨r, hr⟩ : ∃ r, rgt n s l = r := ⟨_, rfl⟩
  have HR : Hid (Calls Try.prog 4 #[.int .i64 n, .int .i64 s, .slice A0 l.length c0] V fun e w' => e = .returned (.bool r) ∧ Below V.heap.size V w') := Lib.hid (by
    have h := right_any n s A0 c0 l V ((hy.row.below hbV).more hbV.size) (fun a ha => ⟨((hy.each a ha).row.below hbV).more hbV.size, (hy.each a ha).few⟩) hy.few
    rw [hr] at h
    exact h)
  have HDD : Hid (r = true → ∀ W, Below w.heap.size w W → l.length ≤ 120 ∧ ∀ a ∈ l, Dd W a) := Lib.hid fun e W hW => by
    rw [e] at hr
    exact dd_of hy.each hr hW
  have HRW := Lib.hid hy.row
  obtain ⟨x0, x1, x2⟩ := HS.out V (Below.refl _ _)
  have HV := Lib.hid hV
  rw [hV] at x0 x1 x2
  clear hy hbV hkV hzV hV hr
  go_enter Try.func3, Try.ntmps3
  go_wp2_with (fail)
  rw [← HV.out]
  refine HR.out.mono ?_
  rintro e w3 ⟨rfl, hb3⟩
  have HB3 := Lib.hid hb3
  clear hb3 x0 x1 x2 HR HV
  cases r with
  | false =>
    have HLL := Lib.hid (HL.out _ (HBW.out _ HB3.out))
    go_wp2_with (fail)
    refine HLL.out.mono ?_
    rintro e w9 ⟨rfl, hb9⟩
    have HE := Lib.hid hb9
    clear hb9
    go_wp2_with (fail)
    go_ret
    exact ⟨rfl, HE.out⟩
  | true =>
  have HX : Hid (∀ W, Below w3.heap.size w3 W → W.cell? ⟨w.heap.size, 0, none⟩ = some (.int .i64 n) ∧ W.cell? ⟨w.heap.size, 2, none⟩ = some (.slice A0 l.length c0)) := Lib.hid fun W hW => by
    obtain ⟨h0, h1, h2⟩ := HS.out W (HB3.out.trans (hW.mono HB3.out.size))
    exact ⟨h0, h2⟩
  have HLI : Hid (∀ W, Below w3.heap.size w3 W → Calls Try.prog 5 #[] W fun e w' => e = .returned (.bool true) ∧ Below w.heap.size w w') := Lib.hid fun W hW => HL.out W (HBW.out W (HB3.out.trans (hW.mono HB3.out.size)))
  have HD := Lib.hid (HDD.out rfl w3 (HBW.out _ HB3.out))
  have h120 := HD.out.1
  have HRO : Hid (∀ W, Below w3.heap.size w3 W → Sl W w3.heap.size A0 (l.flatMap acE)) := Lib.hid fun W hW => (((HRW.out.below (HBW.out _ HB3.out)).more (HBW.out _ HB3.out).size).below hW)
  have x0 := (HX.out w3 (Below.refl _ _)).1
  have HM := Lib.hid (metric.new_any n w3)
  obtain ⟨rb, hrb⟩ : ∃ rb, rb = w.heap.size := ⟨_, rfl⟩
  rw [← hrb] at HX x0 ⊢
  clear hrb
  clear HDD HRW HL HBW HS
  go_wp2_with (fail)
  refine HM.out.mono ?_
  rintro e w1 ⟨rfl, hm1, hb1⟩
  have HN := Lib.hid (new_bk w3.heap.size n 0 w1 hm1)
  have HB1 := Lib.hid hb1
  clear HM hm1 hb1 x0
  go_wp2_with (fail)
  refine HN.out.mono ?_
  rintro e w2 ⟨tb, T0, rfl, hX2, hb2⟩
  have HST : Hid (Lw w3 w2 w3.heap.size tb w1.heap.size n 0 0 [] none 0 none 0) := Lib.hid (Lw.start hX2 (Nat.le_refl _) (HB1.out.trans (hb2.mono HB1.out.size)))
  obtain ⟨g, hg⟩ : ∃ g, g = w3.heap.size := ⟨_, rfl⟩
  obtain ⟨base, hbase⟩ : ∃ base, base = w1.heap.size := ⟨_, rfl⟩
  rw [← hbase, show Lw w3 w2 w3.heap.size tb base n 0 0 [] none 0 none 0 = Lw w3 w2 g tb base n 0 0 [] none 0 none 0 by rw [hg]] at HST
  clear hX2 hb2 HN HB1 hg hbase
  go_wp2_with (fail)
  go_loopg [4, 5, 6] l.length (fun gk s4 s5 s6 wr => ∃ (i b : Nat) (cs : List Value) (A : Option Addr) (lq c : Nat) (A2 : Option Addr) (ll c2 : Nat), gk = l.length - i ∧ i ≤ l.length ∧ s4 = .slice A2 ll c2 ∧ s5 = .slice A lq c ∧ s6 = .int .i64 i ∧ Lw w3 wr g tb base n i b cs A lq A2 ll)
  case atStart => exact ⟨0, 0, [], none, 0, 0, none, 0, 0, rfl, Nat.zero_le _, rfl, rfl, rfl, HST.out⟩
  case round =>
    clear HST HB3
    obtain ⟨i, b0, cs0, A, lq, c, A2, ll, c2, rfl, hi, rfl, rfl, rfl, hL⟩ := hrel
    by_cases hlt : i < l.length
    · have i1 : (i : Int) < (l.length : Int) := by omega
      have i0 : (0 : Int) ≤ (i : Int) := by omega
      have x2 := (HX.out wr hL.mem.1).2
      obtain ⟨bo, oo, rfl, hbo, d0, d1, d2, d3, d4, d5, d6, d7⟩ := deedAt8 (HRO.out wr hL.mem.1) hlt
      have hda := HD.out.2 _ (List.getElem_mem hlt)
      generalize l[i] = a at d0 d1 d2 d3 d4 d5 d6 d7 hda
      have HDA := Lib.hid hda
      obtain ⟨V, hV⟩ : ∃ V, V = wr.alloc (.cells #[.int .i64 a.kind, .int .u64 a.it.1, .int .i64 a.it.2.x.tag, .slice a.it.2.A a.it.2.x.vec.length a.it.2.c, .string a.it.2.x.str, .slice a.A a.l.length a.c, .int .i64 a.m, .slice a.D a.raw.length a.dc] 41) := ⟨_, rfl⟩
      obtain ⟨hBc, hbV, hzV⟩ := Bc.box wr a V hV
      have HLV := Lib.hid (hL.box hbV hBc (by omega))
      have HV := Lib.hid hV
      have hfz := (Blk.new wr 41 #[.int .i64 0, .int .u64 0, .int .i64 0, .slice none 0 0, .string ⟨#[]⟩, .slice none 0 0, .int .i64 0, .slice none 0 0]).frozen
      have y0 := (Bc.at_ hBc).1
      rw [hV] at y0
      clear hL hda hbo hBc hbV hzV hV
      go_upto_block 2 with (fail)
      go_cut [4, 5, 7, 8, 9, 10, 11, 12, 13, 14] from 28 to 153 (fun s4 s5 s7 s8 s9 s10 s11 s12 s13 s14 wc => ∃ (A : Option Addr) (lq c : Nat) (A2 : Option Addr) (ll c2 : Nat), s4 = .slice A2 ll c2 ∧ s5 = .slice A lq c ∧ Lw w3 wc g tb base n (i + 1) wr.heap.size (acE a) A lq A2 ll)
      case first =>
        rw [← HV.out]
        clear HV y0 hfz d0 d1 d2 d3 d4 d5 d6 d7 x2
        obtain ⟨bx, hbx⟩ : ∃ bx, bx = wr.heap.size := ⟨_, rfl⟩
        rw [← hbx] at HLV ⊢
        have HBX := Lib.hid hbx
        clear hbx
        have hi120 : i < 120 := by omega
        obtain ⟨y0, y1, y2, y3, y4, y5⟩ := HLV.out.mem.2.at_
        by_cases k0 : a.kind = 0
        · have b0 : (a.kind == 0) = true := by simp [k0]
          obtain ⟨f, hf, hI⟩ := HLV.out.insert HDA.out hi120 c c2
          have HI := Lib.hid hI
          clear hI k0 y5 y0
          go_wp2_with (fail)
          refine HI.out.mono ?_
          rintro e w4 ⟨⟨z, rfl⟩, hP⟩
          obtain ⟨hm4, hput⟩ := hP.out w4 (Below.refl _ _)
          have HPU := Lib.hid hput
          clear HI hP hput y1 y2 y3 y4
          obtain ⟨-, y1, y2, y3, y4, -⟩ := hm4.2.at_
          rcases hf with rfl | rfl
          · clear hm4
            go_wp2_with (fail)
            refine HPU.out.mono ?_
            rintro e w5 ⟨A', c', lq', rfl, -, hf0⟩
            obtain ⟨hm5, hput2⟩ := hf0 (by simp) w5 (Below.refl _ _)
            have HP2 := Lib.hid hput2
            have x0 := (HX.out w5 hm5.1).1
            clear hput2 HPU hf0 y1 y2 y3 y4
            obtain ⟨-, y1, y2, y3, y4, -⟩ := hm5.2.at_
            clear hm5
            go_wp2_with (fail)
            refine HP2.out.mono ?_
            rintro e w6 ⟨A3, c3, l3, rfl, hL6⟩
            have HL6 := Lib.hid hL6
            clear hL6 HP2 x0 y1 y2 y3 y4
            go_wp2_with (fail)
            go_meet
            case rel => exact ⟨A', lq', c', A3, l3, c3, rfl, rfl, HBX.out ▸ HL6.out⟩
          · clear hm4
            go_wp2_with (fail)
            refine HPU.out.mono ?_
            rintro e w5 ⟨A', c', lq', rfl, hf4, -⟩
            have HL6 := Lib.hid (hf4 (by simp))
            clear HPU hf4 y1 y2 y3 y4
            go_wp2_with (fail)
            go_meet
            case rel => exact ⟨A', lq', c', A2, ll, c2, rfl, rfl, HBX.out ▸ HL6.out⟩
        have b0 : (a.kind == 0) = false := by simpa using k0
        by_cases k1 : a.kind = 1
        · have b1 : (a.kind == 1) = true := by simp [k1]
          obtain ⟨f, hf, hI⟩ := HLV.out.delete HDA.out hi120 c c2
          have HI := Lib.hid hI
          clear hI k0 k1 y5 y0 y2 y3 y4
          go_wp2_with (fail)
          refine HI.out.mono ?_
          rintro e w4 ⟨⟨z, rfl⟩, hP⟩
          obtain ⟨hm4, hput⟩ := hP.out w4 (Below.refl _ _)
          have HPU := Lib.hid hput
          clear HI hP hput y1
          obtain ⟨-, y1, -⟩ := hm4.2.at_
          rcases hf with rfl | rfl
          · clear hm4
            go_wp2_with (fail)
            refine HPU.out.mono ?_
            rintro e w5 ⟨A', c', lq', rfl, -, hf0⟩
            obtain ⟨hm5, hput2⟩ := hf0 (by simp) w5 (Below.refl _ _)
            have HP2 := Lib.hid hput2
            have x0 := (HX.out w5 hm5.1).1
            clear hput2 HPU hf0 y1
            obtain ⟨-, y1, -⟩ := hm5.2.at_
            clear hm5
            go_wp2_with (fail)
            refine HP2.out.mono ?_
            rintro e w6 ⟨A3, c3, l3, rfl, hL6⟩
            have HL6 := Lib.hid hL6
            clear hL6 HP2 x0 y1
            go_wp2_with (fail)
            go_meet
            case rel => exact ⟨A', lq', c', A3, l3, c3, rfl, rfl, HBX.out ▸ HL6.out⟩
          · clear hm4
            go_wp2_with (fail)
            refine HPU.out.mono ?_
            rintro e w5 ⟨A', c', lq', rfl, hf4, -⟩
            have HL6 := Lib.hid (hf4 (by simp))
            clear HPU hf4 y1
            go_wp2_with (fail)
            go_meet
            case rel => exact ⟨A', lq', c', A2, ll, c2, rfl, rfl, HBX.out ▸ HL6.out⟩
        have b1 : (a.kind == 1) = false := by simpa using k1
        by_cases k2 : a.kind = 2
        · have b2 : (a.kind == 2) = true := by simp [k2]
          obtain ⟨f, hf, hI⟩ := HLV.out.bulk HDA.out hi120 c
          have HI := Lib.hid hI
          clear hI k0 k1 k2 y0 y1 y2 y3 y4
          go_wp2_with (fail)
          refine HI.out.mono ?_
          rintro e w4 ⟨⟨z, rfl⟩, hP⟩
          obtain ⟨hm4, hput⟩ := hP.out w4 (Below.refl _ _)
          have HPU := Lib.hid hput
          clear HI hP hput y5
          obtain ⟨-, -, -, -, -, y5⟩ := hm4.2.at_
          have hl63 : (a.l.length : Int) < 9223372036854775807 := by have := HDA.out.few; omega
          rcases hf with rfl | ⟨rfl, hpos⟩
          · clear hm4
            go_wp2_with (fail)
            refine HPU.out.mono ?_
            rintro e w5 ⟨A', c', lq', rfl, -, hf0⟩
            have HB0 := Lib.hid (hf0 (by simp))
            clear hf0 HPU y5
            go_wp2_with (fail)
            go_loopg [4, 14] a.l.length (fun gk s4 s14 wr => ∃ (k : Nat) (A3 : Option Addr) (l3 c3 : Nat), gk = a.l.length - k ∧ k ≤ a.l.length ∧ s4 = .slice A3 l3 c3 ∧ s14 = .int .i64 k ∧ Lb w3 wr g tb base n i bx a k A' lq' A3 l3)
            case atStart => exact ⟨0, A2, ll, c2, rfl, Nat.zero_le _, rfl, rfl, HB0.out⟩
            case round =>
              clear HB0
              obtain ⟨k, A3, l3, c3, rfl, hk, rfl, rfl, hB⟩ := hrel
              have hmm := hB.mem
              by_cases hkl : k < a.l.length
              · have j1 : (k : Int) < (a.l.length : Int) := by omega
                have j0 : (0 : Int) ≤ (k : Int) := by omega
                obtain ⟨bi, oi, hAi, hbi, e0, e1, e2, e3⟩ := itemAt HDA.out.row hkl
                have HPT : Hid (∀ W, Below wr.heap.size wr W → Calls Try.prog 10 #[.int .i64 n, .slice A3 l3 c3, .agg #[.int .u64 a.l[k].1, .int .i64 a.l[k].2.x.tag, .slice a.l[k].2.A a.l[k].2.x.vec.length a.l[k].2.c, .string a.l[k].2.x.str]] W fun e w7 => ∃ A4 c4 l4, e = .returned (.slice A4 l4 c4) ∧ Below wr.heap.size wr w7 ∧ Lb w3 w7 g tb base n i bx a (k + 1) A' lq' A4 l4) := Lib.hid fun W hW => (hB.put HDA.out hi120 hkl c3 hW).mono fun e w' ⟨A4, c4, l4, he, hb, hl⟩ => ⟨A4, c4, l4, he, hW.trans (hb.mono hW.size), hl⟩
                have HSS : Hid (∀ W, Below wr.heap.size wr W → W.cell? ⟨rb, 0, none⟩ = some (.int .i64 n) ∧ W.cell? ⟨bx, 5, none⟩ = some (.slice a.A a.l.length a.c) ∧ W.cell? ⟨bi, oi + k * 4, none⟩ = some (.int .u64 a.l[k].1) ∧ W.cell? ⟨bi, oi + k * 4 + 1, none⟩ = some (.int .i64 a.l[k].2.x.tag) ∧ W.cell? ⟨bi, oi + k * 4 + 2, none⟩ = some (.slice a.l[k].2.A a.l[k].2.x.vec.length a.l[k].2.c) ∧ W.cell? ⟨bi, oi + k * 4 + 3, none⟩ = some (.string a.l[k].2.x.str)) := Lib.hid fun W hW => by
                  have hW3 := hmm.1.trans (hW.mono hmm.1.size)
                  have hc5 := hmm.2.at_.2.2.2.2.2
                  have hlb : bx < wr.heap.size := World.block_lt_of_cell? wr _ hc5
                  exact ⟨(HX.out W hW3).1, (hW.cell (p := ⟨bx, 5, none⟩) hlb).trans hc5, (hW3.cell (p := ⟨bi, _, none⟩) hbi).trans e0, (hW3.cell (p := ⟨bi, _, none⟩) hbi).trans e1, (hW3.cell (p := ⟨bi, _, none⟩) hbi).trans e2, (hW3.cell (p := ⟨bi, _, none⟩) hbi).trans e3⟩
                generalize a.l[k] = p at HPT HSS e0 e1 e2 e3
                rw [hAi] at HSS
                clear e0 e1 e2 e3 hmm hB hbi
                obtain ⟨x0, y5, e0, e1, e2, e3⟩ := HSS.out wr (Below.refl _ _)
                clear hAi
                go_wp2_with (fail)
                go_region_held3 (fun W => W.cell? ⟨rb, 0, none⟩ = some (.int .i64 n) ∧ W.cell? ⟨bx, 5, none⟩ = some (.slice (some ⟨bi, oi, none⟩) a.l.length a.c) ∧ W.cell? ⟨bi, oi + k * 4, none⟩ = some (.int .u64 p.1) ∧ W.cell? ⟨bi, oi + k * 4 + 1, none⟩ = some (.int .i64 p.2.x.tag) ∧ W.cell? ⟨bi, oi + k * 4 + 2, none⟩ = some (.slice p.2.A p.2.x.vec.length p.2.c) ∧ W.cell? ⟨bi, oi + k * 4 + 3, none⟩ = some (.string p.2.x.str))
                  ((refine HSS.out _ ?_; first | (with_reducible exact Below.refl _ _) | (with_reducible assumption) | (with_reducible exact Below.drew (by with_reducible assumption)) | (with_reducible exact Below.drew (Below.refl _ _)) | (with_reducible exact below_drewN' (by with_reducible assumption) _) | (with_reducible exact below_drewN' (Below.refl _ _) _)))
                  (first
                    | (go_at_call 10; (with_reducible refine (HPT.out _ (by first | (with_reducible exact Below.refl _ _) | (with_reducible assumption) | (with_reducible exact Below.drew (by with_reducible assumption)) | (with_reducible exact Below.drew (Below.refl _ _)) | (with_reducible exact below_drewN' (by with_reducible assumption) _) | (with_reducible exact below_drewN' (Below.refl _ _) _))).mono ?_); rintro e w7 ⟨A4, c4, l4, rfl, hb7, hB7⟩))
                have HB7 := Lib.hid hB7
                clear hB7 hb7 HPT HSS x0 y5 e0 e1 e2 e3
                go_wp2_with (fail)
                go_roundg (a.l.length - (k + 1))
                case measure => omega
                case rel => exact ⟨k + 1, A4, l4, c4, rfl, by omega, rfl, by go_num, HB7.out⟩
              · obtain rfl : k = a.l.length := by omega
                have j1 : ¬ (a.l.length : Int) < (a.l.length : Int) := by omega
                have y5 := hmm.2.at_.2.2.2.2.2
                have HL6 := Lib.hid hB.done
                clear hB hmm
                go_wp2_with (fail)
                go_meet
                case rel => exact ⟨A', lq', c', A3, l3, c3, rfl, rfl, HBX.out ▸ HL6.out⟩
          · clear hm4
            go_wp2_with (fail)
            refine HPU.out.mono ?_
            rintro e w5 ⟨A', c', lq', rfl, hf4, -⟩
            have HL6 := Lib.hid (hf4 (by simp))
            clear HPU hf4 y5
            go_wp2_with (fail)
            go_loopg [4, 14] 0 (fun gk s4 s14 wr => gk = 0 ∧ s4 = .slice A2 ll c2 ∧ s14 = .int .i64 0 ∧ w5 = wr)
            case atStart => exact ⟨rfl, rfl, rfl, rfl⟩
            case round =>
              obtain ⟨rfl, rfl, rfl, rfl⟩ := hrel
              have y5 := HL6.out.mem.2.at_.2.2.2.2.2
              have j1 : (0 : Int) < (a.l.length : Int) := by omega
              go_wp2_with (fail)
              go_meet
              case rel => exact ⟨A', lq', c', A2, ll, c2, rfl, rfl, HBX.out ▸ HL6.out⟩
        have b2 : (a.kind == 2) = false := by simpa using k2
        clear k0 k1 k2 y0 y1 y2 y3 y4 y5
        have HL6 := Lib.hid HLV.out.more
        go_wp2_with (fail)
        go_meet
        case rel => exact ⟨A, lq, c, A2, ll, c2, rfl, rfl, HBX.out ▸ HL6.out⟩
      case rest =>
        clear HLV HDA HV y0 hfz d0 d1 d2 d3 d4 d5 d6 d7 x2
        obtain ⟨A, lq, c, A2, ll, c2, rfl, rfl, hL⟩ := hcut
        obtain ⟨LL, dn, gN, hK, hgn⟩ := hL.look (by omega) c2
        have HK := Lib.hid hK
        have HL := Lib.hid hL
        have HXX : Hid (∀ W, Below wc.heap.size wc W → W.cell? ⟨rb, 0, none⟩ = some (.int .i64 n)) := Lib.hid fun W hW => (HX.out W (HL.out.below hW).mem.1).1
        have x0 := HXX.out wc (Below.refl _ _)
        have g0 : (gN != gN) = false := by simp
        have g1 : (dn != dn) = false := by simp
        have hfld : ∀ (W : World) (A : Option Addr) (m c : Nat), (Instr.field 58 (.agg #[.slice A m c, .slice none 0 0, .slice none 0 0, .int .i64 0, .slice none 0 0, .slice none 0 0]) 0).run Try.prog W = .ok (.slice A m c) W := fun W A m c => by kernel_rfl
        clear hL hK
        go_wp2_with (fail)
        go_region_held3 (fun W => W.cell? ⟨rb, 0, none⟩ = some (.int .i64 n))
          ((refine HXX.out _ ?_; first | (with_reducible exact Below.refl _ _) | (with_reducible assumption) | (with_reducible exact Below.drew (by with_reducible assumption)) | (with_reducible exact Below.drew (Below.refl _ _)) | (with_reducible exact below_drewN' (by with_reducible assumption) _) | (with_reducible exact below_drewN' (Below.refl _ _) _) | (with_reducible exact Im.low (by with_reducible assumption)) | (with_reducible exact Below.drew (Im.low (by with_reducible assumption))) | (with_reducible exact below_drewN' (Im.low (by with_reducible assumption)) _)))
          (first
            | (go_at_call 17; (with_reducible refine (HK.out.image _ (by first | (with_reducible exact Below.refl _ _) | (with_reducible assumption) | (with_reducible exact Below.drew (by with_reducible assumption)) | (with_reducible exact Below.drew (Below.refl _ _)) | (with_reducible exact below_drewN' (by with_reducible assumption) _) | (with_reducible exact below_drewN' (Below.refl _ _) _))).mono ?_); rintro e w4 ⟨A4, c4, m4, rfl, hi4⟩)
            | (go_at_call 16; (with_reducible refine (HK.out.same _ _ _ _ (by first | (with_reducible assumption) | (with_reducible exact Im.drew (by with_reducible assumption)) | (with_reducible exact Im.drewN (by with_reducible assumption) _))).mono ?_); rintro e w5 ⟨rfl, hb5⟩)
            | (go_at_call 18; (with_reducible refine (HK.out.depth _ (by first | (with_reducible exact Below.refl _ _) | (with_reducible assumption) | (with_reducible exact Below.drew (by with_reducible assumption)) | (with_reducible exact Below.drew (Below.refl _ _)) | (with_reducible exact below_drewN' (by with_reducible assumption) _) | (with_reducible exact below_drewN' (Below.refl _ _) _))).mono ?_); rintro e w6 ⟨rfl, hb6⟩)
            | (go_at_call 19; (with_reducible refine (HK.out.rdepth _ (by first | (with_reducible exact Below.refl _ _) | (with_reducible assumption) | (with_reducible exact Below.drew (by with_reducible assumption)) | (with_reducible exact Below.drew (Below.refl _ _)) | (with_reducible exact below_drewN' (by with_reducible assumption) _) | (with_reducible exact below_drewN' (Below.refl _ _) _))).mono ?_); rintro e w7 ⟨rfl, hb7⟩)
            | (go_at_call 20; (with_reducible refine (HK.out.gone _ (by first | (with_reducible exact Below.refl _ _) | (with_reducible assumption) | (with_reducible exact Below.drew (by with_reducible assumption)) | (with_reducible exact Below.drew (Below.refl _ _)) | (with_reducible exact below_drewN' (by with_reducible assumption) _) | (with_reducible exact below_drewN' (Below.refl _ _) _))).mono ?_); rintro e w8 ⟨rfl, hb8⟩)
            | (go_at_call 21; (with_reducible refine (HK.out.right _ _ _ _ (by first | (with_reducible assumption) | (with_reducible exact Im.drew (by with_reducible assumption)) | (with_reducible exact Im.drewN (by with_reducible assumption) _))).mono ?_); rintro e w9 ⟨rfl, hb9⟩))
        have HL9 := Lib.hid (HL.out.below hb9)
        clear HK HL HXX x0 g0 g1 hgn
        go_wp2_with (fail)
        go_roundg (l.length - (i + 1))
        case measure => omega
        case rel => exact ⟨i + 1, wr.heap.size, acE a, A, lq, c, A2, ll, c2, rfl, by omega, rfl, rfl, by go_num, HL9.out⟩
    · obtain rfl : i = l.length := by omega
      have i1 : ¬ (l.length : Int) < (l.length : Int) := by omega
      have x2 := (HX.out wr hL.mem.1).2
      have HE := Lib.hid (HLI.out wr hL.mem.1)
      clear hL
      go_wp2_with (fail)
      refine HE.out.mono ?_
      rintro e w9 ⟨rfl, hb9⟩
      have HE9 := Lib.hid hb9
      clear hb9
      go_wp2_with (fail)
      go_ret
      exact ⟨rfl, HE9.out⟩

theorem lifted (os : Os) (started : os.Started) (H : Type) (enc : TypeId × Value → H) :
    ReturnsInHanded {} Try.checked os 3 .any (Rows.bktreeNodesSpec.pre6 enc Try.prog Try.f3 Rows.bktreeNodesRow.domain false) (Rows.bktreeNodesSpec.post enc Try.prog Try.f3 false true false false) := by
  refine lift (C := Try.checked) (by kernel_rfl) started (by kernel_rfl) Try.func3 rfl (by kernel_rfl) (by kernel_rfl) rfl Try.underlying4
    (fun ds hd => by match ds, hd with | [_], _ => exact ⟨rfl, rfl, rfl⟩)
    (ChangeSpec.witness6 (enc := enc) (C := Try.checked) false ⟨#[], #[.agg #[.int .i64 0, .int .i64 0, .slice none 0 0]], []⟩ 8 (by kernel_rfl) (by kernel_rfl) (by kernel_rfl) (by kernel_rfl)) ?_
  intro W base args ds before hval0 hA0 hfz hsz0
  have hval : ∀ (j : Nat) t v, Try.f3.params[j]? = some t → args[j]? = some v → Value.okWide Try.prog W .any base t v := hval0
  have hA : DataW.TrodAll enc Try.prog W 0 (fun _ => true) true Try.f3.params.toList args.toList ds before := hA0
  have hsz : (DataW.weightsEach Try.prog Try.f3.params.toList ds).all (· ≤ reachBytes) = true := hsz0
  rw [Try.params3] at hA hval hsz
  obtain ⟨v0, vs0, d0, ds0, p0, q0, hargs, rfl, rfl, h0, r0⟩ := trodAll_cons hA
  obtain ⟨rfl, rfl, rfl⟩ := trodAll_nil r0
  obtain rfl : args = #[v0] := by cases args; simp_all
  obtain ⟨n, s, A, c, l, rfl, hy⟩ := open_run (hval 0 24 v0 rfl rfl) h0 hsz (j := 0) rfl rfl
  exact walk n s A c l W hy

theorem proved : Rows.BktreeNodesSaid :=
  OpenClaim.holds_of_wide 3 Try.f3 rfl rfl rfl rfl rfl rfl rfl ⟨rfl, rfl, rfl, rfl, rfl⟩ rfl rfl rfl rfl rfl (by kernel_rfl) Try.func3 (by kernel_rfl)
    (of_decide_eq_true (by kernel_rfl)) (by unfold Func.isWrapper; first | (rw [if_pos (by decide +kernel)]; kernel_rfl) | (rw [if_neg (by decide +kernel)]; exact ⟨rfl, rfl⟩))
    (fun os started H enc _ => lifted os started H enc)
#print axioms proved
end Go.Proofs.Ytaamlidflfdjkaa.bktreeNodes
