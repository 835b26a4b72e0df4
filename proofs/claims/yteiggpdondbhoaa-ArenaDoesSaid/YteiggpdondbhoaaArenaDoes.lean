/-
  For all deeds the law ArenaDoes returns true, and changes nothing that there was. No condition.
-/
import Derived.Test.YteiggpdondbhoaaArE
import Derived.Deep.Cut
import Derived.Deep.CutRange
import Derived.Deep.CutBlock
namespace Go.Proofs.Yteiggpdondbhoaa.arenaDoes
open Go.RowKit law bytes only flat arena came
open Go.ChangeShapes Go.WideShapes Go.Deep Go.ChangeAt
set_option linter.unusedVariables false

set_option maxRecDepth 100000 in
set_option maxHeartbeats 12800000 in
theorem walk (A0 : Option Addr) (c0 : Nat) (l : List (Int × Int × Int)) (hl : l.length * 24 ≤ 140737488355328) (w : World) (hr : Came 3 dC w A0 l) :
    Calls Try.prog 3 #[.slice A0 l.length c0] w fun e w' => e = .returned (.bool true) ∧ Below w.heap.size w w' := by
  have HR := Lib.hid hr
  have HN := Lib.hid (new_ar w)
  clear hr
  go_enter Try.func3, Try.ntmps3
  go_wp2_with (fail)
  refine HN.out.mono ?_
  rintro e w1 ⟨ab, T, rfl, hb1, h1⟩
  have hp := P.start h1 hb1
  obtain ⟨rb, hrb⟩ : ∃ rb, rb = w1.heap.size := ⟨_, rfl⟩
  rw [← hrb] at hp
  have HP := Lib.hid hp
  have HRB := Lib.hid hrb
  clear hb1 h1 HN hp hrb
  go_wp2_with (fail)
  rw [← HRB.out]
  go_loopg [5, 6, 7, 8, 9, 10, 11, 12, 13, 14, 15, 16] l.length (fun gk s5 s6 s7 s8 s9 s10 s11 s12 s13 s14 s15 s16 wr => ∃ k : Nat, gk = l.length - k ∧ k ≤ l.length ∧ s5 = .int .i64 k ∧ P w ab rb k wr)
  case atStart => exact ⟨0, rfl, Nat.zero_le _, rfl, HP.out⟩
  case round =>
    clear HP HRB
    obtain ⟨k, rfl, hk, rfl, hp⟩ := hrel
    obtain ⟨w0, hw0⟩ : ∃ w0, w0 = wr := ⟨_, rfl⟩
    subst hw0
    by_cases hlt : k < l.length
    · obtain ⟨rb0, ro, rfl, hrb⟩ := HR.out.row (by decide) dC_len (by omega)
      have hat := HR.out.at_ k hlt
      obtain ⟨⟨kd, sl, xv⟩, hx⟩ : ∃ x, l[k] = x := ⟨_, rfl⟩
      rw [hx] at hat
      have q0 : w0.cell? ⟨rb0, ro + k * 3, none⟩ = some (.int .i64 kd) := (hp.below.cell (p := ⟨rb0, ro + k * 3, none⟩) hrb).trans (hat 0 (by decide))
      have q1 : w0.cell? ⟨rb0, ro + k * 3 + 1, none⟩ = some (.int .i64 sl) := (hp.below.cell (p := ⟨rb0, ro + k * 3 + 1, none⟩) hrb).trans (hat 1 (by decide))
      have q2 : w0.cell? ⟨rb0, ro + k * 3 + 2, none⟩ = some (.int .i64 xv) := (hp.below.cell (p := ⟨rb0, ro + k * 3 + 2, none⟩) hrb).trans (hat 2 (by decide))
      have i1 : (k : Int) < (l.length : Int) := by omega
      have HP := Lib.hid hp
      clear hat hx hp
      go_upto_block 2 with (fail)
      obtain ⟨T, A, c, A', c', d, f, hdk, hdc, hfc, hM⟩ := HP.out.deed (kd, sl, xv)
      have HM := Lib.hid hM
      have HDK := Lib.hid hdk
      have hl2 : l.length ≤ 5864062014805 := by omega
      clear hM hdk q0 q1 q2
      go_cut [7, 8, 9, 10] from 18 to 141 (fun s7 s8 s9 s10 wc => Sw w ab rb w0.heap.size k (kd, sl, xv) s7 s8 s9 s10 wc)
      case first =>
        by_cases hk0 : kd = 0
        · have z0 : (kd == 0) = true := by rw [hk0]; rfl
          clear hk0
          have HC1 := Lib.hid (HM.out.put xv (by have := HDK.out; omega))
          have e1 : (w0.alloc (.cells #[.int .i64 kd, .int .i64 sl, .int .i64 xv] 30)).cell? ⟨w0.heap.size, 1, none⟩ = some (.int .i64 sl) := HM.out.bd.cell 1
          have e2 : (w0.alloc (.cells #[.int .i64 kd, .int .i64 sl, .int .i64 xv] 30)).cell? ⟨w0.heap.size, 2, none⟩ = some (.int .i64 xv) := HM.out.bd.cell 2
          go_wp2_with (fail)
          refine HC1.out.mono ?_
          rintro e w2 ⟨rfl, T2, h2⟩
          have a1 : w2.cell? ⟨w0.heap.size, 1, none⟩ = some (.int .i64 sl) := h2.bd.cell 1
          have a2 : w2.cell? ⟨w0.heap.size, 2, none⟩ = some (.int .i64 xv) := h2.bd.cell 2
          have b0 : w2.cell? ⟨rb, 0, none⟩ = some (.slice A d.length c) := h2.br.cell 0
          have b1 : w2.cell? ⟨rb, 1, none⟩ = some (.slice A' f.length c') := h2.br.cell 1
          have hc2 := h2.rput HM.out.inv xv (by have := HDK.out; omega)
          obtain ⟨d2, hd2⟩ : ∃ d2, putD d f xv = d2 := ⟨_, rfl⟩
          have hk2 : d2.length ≤ k + 1 := by rw [← hd2]; have := putD_length d f xv; have := HDK.out; omega
          rw [hd2] at h2 hc2
          obtain ⟨f2, hf2⟩ : ∃ f2, f.dropLast = f2 := ⟨_, rfl⟩
          rw [hf2] at h2 hc2
          have HC2 := Lib.hid hc2
          have H2 := Lib.hid h2
          clear HC1 e1 e2 h2 hc2 hd2 hf2
          go_wp2_with (fail)
          refine HC2.out.mono ?_
          intro e w3 hr
          obtain ⟨A2, c2, A3, c3, rfl, hc2, hc3, g0, g1, fz0, fz1, h3⟩ := H2.out.laid hr
          have H3 := Lib.hid h3
          clear HC2 H2 a1 a2 b0 b1 hr h3
          go_wp2_with (fail)
          go_meet
          case rel => exact ⟨_, _, T2, A2, c2, A3, c3, d2, f2, rfl, rfl, rfl, rfl, hk2, hc2, hc3, H3.out⟩
        · have z0 : (kd == 0) = false := by rw [beq_eq_false_iff_ne]; exact hk0
          by_cases hk1 : kd = 1
          · have z1 : (kd == 1) = true := by rw [hk1]; rfl
            clear hk0 hk1
            have HC1 := Lib.hid (HM.out.cut sl (by have := HDK.out; omega))
            have e1 : (w0.alloc (.cells #[.int .i64 kd, .int .i64 sl, .int .i64 xv] 30)).cell? ⟨w0.heap.size, 1, none⟩ = some (.int .i64 sl) := HM.out.bd.cell 1
            have e2 : (w0.alloc (.cells #[.int .i64 kd, .int .i64 sl, .int .i64 xv] 30)).cell? ⟨w0.heap.size, 2, none⟩ = some (.int .i64 xv) := HM.out.bd.cell 2
            go_wp2_with (fail)
            refine HC1.out.mono ?_
            rintro e w2 ⟨rfl, T2, h2⟩
            have a1 : w2.cell? ⟨w0.heap.size, 1, none⟩ = some (.int .i64 sl) := h2.bd.cell 1
            have a2 : w2.cell? ⟨w0.heap.size, 2, none⟩ = some (.int .i64 xv) := h2.bd.cell 2
            have b0 : w2.cell? ⟨rb, 0, none⟩ = some (.slice A d.length c) := h2.br.cell 0
            have b1 : w2.cell? ⟨rb, 1, none⟩ = some (.slice A' f.length c') := h2.br.cell 1
            have hc2 := h2.rcut HM.out.inv sl (by have := HDK.out; omega)
            obtain ⟨d2, hd2⟩ : ∃ d2, cutD d sl = d2 := ⟨_, rfl⟩
            have hk2 : d2.length ≤ k + 1 := by rw [← hd2]; rw [cutD_length]; have := HDK.out; omega
            rw [hd2] at h2 hc2
            obtain ⟨f2, hf2⟩ : ∃ f2, cutF d f sl = f2 := ⟨_, rfl⟩
            rw [hf2] at h2 hc2
            have HC2 := Lib.hid hc2
            have H2 := Lib.hid h2
            clear HC1 e1 e2 h2 hc2 hd2 hf2
            go_wp2_with (fail)
            refine HC2.out.mono ?_
            intro e w3 hr
            obtain ⟨A2, c2, A3, c3, rfl, hc2, hc3, g0, g1, fz0, fz1, h3⟩ := H2.out.laid hr
            have H3 := Lib.hid h3
            clear HC2 H2 a1 a2 b0 b1 hr h3
            go_wp2_with (fail)
            go_meet
            case rel => exact ⟨_, _, T2, A2, c2, A3, c3, d2, f2, rfl, rfl, rfl, rfl, hk2, hc2, hc3, H3.out⟩
          · have z1 : (kd == 1) = false := by rw [beq_eq_false_iff_ne]; exact hk1
            clear hk0 hk1
            have HC1 := Lib.hid (HM.out.set sl xv)
            have e1 : (w0.alloc (.cells #[.int .i64 kd, .int .i64 sl, .int .i64 xv] 30)).cell? ⟨w0.heap.size, 1, none⟩ = some (.int .i64 sl) := HM.out.bd.cell 1
            have e2 : (w0.alloc (.cells #[.int .i64 kd, .int .i64 sl, .int .i64 xv] 30)).cell? ⟨w0.heap.size, 2, none⟩ = some (.int .i64 xv) := HM.out.bd.cell 2
            go_wp2_with (fail)
            refine HC1.out.mono ?_
            rintro e w2 ⟨rfl, T2, h2⟩
            have a1 : w2.cell? ⟨w0.heap.size, 1, none⟩ = some (.int .i64 sl) := h2.bd.cell 1
            have a2 : w2.cell? ⟨w0.heap.size, 2, none⟩ = some (.int .i64 xv) := h2.bd.cell 2
            have b0 : w2.cell? ⟨rb, 0, none⟩ = some (.slice A d.length c) := h2.br.cell 0
            have b1 : w2.cell? ⟨rb, 1, none⟩ = some (.slice A' f.length c') := h2.br.cell 1
            have hc2 := h2.rset sl xv (by have := HDK.out; omega)
            obtain ⟨d2, hd2⟩ : ∃ d2, setD d sl xv = d2 := ⟨_, rfl⟩
            have hk2 : d2.length ≤ k + 1 := by rw [← hd2]; rw [setD_length]; have := HDK.out; omega
            rw [hd2] at h2 hc2
            have HC2 := Lib.hid hc2
            have H2 := Lib.hid h2
            clear HC1 e1 e2 h2 hc2 hd2
            go_wp2_with (fail)
            refine HC2.out.mono ?_
            intro e w3 hr
            obtain ⟨A2, c2, A3, c3, rfl, hc2, hc3, g0, g1, fz0, fz1, h3⟩ := H2.out.laid hr
            have H3 := Lib.hid h3
            clear HC2 H2 a1 a2 b0 b1 hr h3
            go_wp2_with (fail)
            go_meet
            case rel => exact ⟨_, _, T2, A2, c2, A3, c3, d2, f, rfl, rfl, rfl, rfl, hk2, hc2, hc3, H3.out⟩
      case rest =>
        clear HM HDK HP hdc hfc
        obtain ⟨n, b, T, A, c, A', c', d, f, rfl, rfl, rfl, rfl, hdk, hdc, hfc, hM⟩ := hcut
        have a1 : wc.cell? ⟨w0.heap.size, 1, none⟩ = some (.int .i64 sl) := hM.bd.cell 1
        have b0 : wc.cell? ⟨rb, 0, none⟩ = some (.slice A d.length c) := hM.br.cell 0
        have b1 : wc.cell? ⟨rb, 1, none⟩ = some (.slice A' f.length c') := hM.br.cell 1
        have HG1 := Lib.hid (hM.get sl)
        have HG2 := Lib.hid (hM.rget sl)
        obtain ⟨y, hy⟩ : ∃ y, (gt d sl).getD 0 = y := ⟨_, rfl⟩
        obtain ⟨z, hz⟩ : ∃ z, (gt d sl).isSome = z := ⟨_, rfl⟩
        rw [hy, hz] at HG1 HG2
        clear hy hz hM
        go_wp2_with (fail)
        refine HG1.out.mono ?_
        rintro e w2 ⟨rfl, rfl⟩
        clear HG1
        go_wp2_with (fail)
        refine HG2.out.mono ?_
        rintro e w3 ⟨rfl, h3⟩
        have H3 := Lib.hid h3
        have b3 : w3.cell? ⟨rb, 0, none⟩ = some (.slice A d.length c) := h3.br.cell 0
        have HDK := Lib.hid hdk
        clear HG2 a1 b0 b1 h3
        go_wp2_with (fail)
        go_loopg [15, 16] d.length (fun gk s15 s16 wr => ∃ (j m c4 : Nat) (A4 : Option Addr), gk = d.length - j ∧ j ≤ d.length ∧ m ≤ j ∧ s15 = .slice A4 m c4 ∧ s16 = .int .i64 j ∧ wr.ownsRow w3.heap.size 3 1 (.slice A4 m c4) m (fv (usedTo d j)) ∧ Below w3.heap.size w3 wr)
        case atStart => exact ⟨0, 0, 0, none, rfl, Nat.zero_le _, Nat.zero_le _, rfl, rfl, World.ownsRow_nil _ _ _ _, Below.refl _ _⟩
        case round =>
          clear b3
          obtain ⟨j, m, c4, A4, rfl, hj, hmj, rfl, rfl, hown, hb⟩ := hrel
          have hM := H3.out.on hb
          have b0 : wr.cell? ⟨rb, 0, none⟩ = some (.slice A d.length c) := hM.br.cell 0
          by_cases hjl : j < d.length
          · obtain ⟨sb, so, rfl, hsb, p0, p1⟩ := slot_cells hM.rf.sl.1 j hjl
            have j1 : (j : Int) < (d.length : Int) := by omega
            have hsz := hb.size
            by_cases hs : d[j].isSome = true
            · have HT : Hid (fv (usedTo d (j + 1)) = fv (usedTo d j) ++ [.int .i64 (j : Int)]) := Lib.hid (by rw [usedTo_yes hjl hs, fv_append]; rfl)
              rw [hs] at p0
              clear hM hs p1
              go_wp2_with (at_builtin
                           refine wpList_append_sl _ rfl (.tmp 98) (.tmp 100) _ rfl w3.heap.size 3 _ 8 Try.underlying26 intE (.slice A4 m c4) m (fv (usedTo d j)) rfl (World.ownsRow.alloc (w := wr) hown _) _ _ 1 1 [.int .i64 j] rfl (Sl.one wr _ _) rfl (by simp [Value.oneCell']) (by omega) (by unfold maxLen; omega) (by simp; omega) ?_
                           intro v4 w4 hown4 hg4 hat4
                           obtain ⟨A5, c5, rfl, hc5⟩ := own_slice hown4)
              go_roundg (d.length - (j + 1))
              case measure => omega
              case rel => exact ⟨j + 1, m + 1, c5, A5, rfl, by omega, by omega, rfl, by go_num, by rw [HT.out]; exact hown4, below_append hb hsz _ hown (Nat.le_refl _) hg4⟩
            · have hs2 : d[j].isSome = false := by simpa using hs
              have HT : Hid (usedTo d (j + 1) = usedTo d j) := Lib.hid (usedTo_no hjl hs2)
              rw [hs2] at p0
              clear hM hs hs2 p1
              go_wp2_with (fail)
              go_roundg (d.length - (j + 1))
              case measure => omega
              case rel => exact ⟨j + 1, m, c4, A4, rfl, by omega, by omega, rfl, by go_num, by rw [HT.out]; exact hown, hb⟩
          · obtain rfl : j = d.length := by omega
            have hum : (used d).length = m := by have := hown.1; rw [fv_length] at this; unfold used; omega
            obtain ⟨n2, hn2⟩ : ∃ n2, d.length = n2 := ⟨_, rfl⟩
            have hq : Md w ab rb w0.heap.size T (.slice A n2 c) (.slice A' f.length c') d f d f (kd, sl, xv) wr := by rw [← hn2]; exact hM
            have HQ1 : Hid (Q1 w ab rb w0.heap.size T (.slice A n2 c) (.slice A' f.length c') d f (kd, sl, xv) A4 wr) := Lib.hid ⟨hq, Sl.of_own hown⟩
            have hnk := HDK.out
            rw [hn2] at hnk b0 hj hmj hjl
            have HL : Hid (∀ W, Q1 w ab rb w0.heap.size T (.slice A n2 c) (.slice A' f.length c') d f (kd, sl, xv) A4 W → Calls Try.prog 15 #[.pointer (some ⟨ab, 0, none⟩)] W fun e w' => e = .returned (.int .i64 (m : Int)) ∧ Q1 w ab rb w0.heap.size T (.slice A n2 c) (.slice A' f.length c') d f (kd, sl, xv) A4 w') := Lib.hid fun W hW => by
              have h := hW.1.len (by omega) hW.2
              rw [hum] at h
              exact h
            have HS : Hid (∀ W, Q1 w ab rb w0.heap.size T (.slice A n2 c) (.slice A' f.length c') d f (kd, sl, xv) A4 W → Calls Try.prog 16 #[.pointer (some ⟨ab, 0, none⟩)] W fun e w' => e = .returned (.int .i64 (n2 : Int)) ∧ Q1 w ab rb w0.heap.size T (.slice A n2 c) (.slice A' f.length c') d f (kd, sl, xv) A4 w') := Lib.hid fun W hW => by
              have h := hW.1.slots hW.2
              rw [hn2] at h
              exact h
            have HU : Hid (∀ W, Q1 w ab rb w0.heap.size T (.slice A n2 c) (.slice A' f.length c') d f (kd, sl, xv) A4 W → Calls Try.prog 18 #[.pointer (some ⟨ab, 0, none⟩)] W fun e w' => ∃ A5 c5, e = .returned (.slice A5 m c5) ∧ Q2 w ab rb w0.heap.size T (.slice A n2 c) (.slice A' f.length c') d f (kd, sl, xv) A4 A5 w') := Lib.hid fun W hW => by
              have h := hW.1.used_ (by omega) hW.2
              rw [hum] at h
              exact h.mono fun e w' ⟨A5, c5, he, h1, h2, h3⟩ => ⟨A5, c5, he, ⟨h1, h2⟩, h3⟩
            have HI : Hid (∀ A5 c5 W, Q2 w ab rb w0.heap.size T (.slice A n2 c) (.slice A' f.length c') d f (kd, sl, xv) A4 A5 W → Calls Try.prog 17 #[.slice A5 m c5, .slice A4 m c4] W fun e w' => e = .returned (.bool true) ∧ Md w ab rb w0.heap.size T (.slice A n2 c) (.slice A' f.length c') d f d f (kd, sl, xv) w') := Lib.hid fun A5 c5 W hW => hW.1.1.ints hum (by omega) hW.1.2 hW.2
            have HC : Hid (∀ W, Md w ab rb w0.heap.size T (.slice A n2 c) (.slice A' f.length c') d f d f (kd, sl, xv) W → W.cell? ⟨rb, 0, none⟩ = some (.slice A n2 c)) := Lib.hid fun W hW => hW.br.cell 0
            have HCQ : Hid (∀ W, Q1 w ab rb w0.heap.size T (.slice A n2 c) (.slice A' f.length c') d f (kd, sl, xv) A4 W → W.cell? ⟨rb, 0, none⟩ = some (.slice A n2 c)) := Lib.hid fun W hW => hW.1.br.cell 0
            have HE : Hid (∀ W, Md w ab rb w0.heap.size T (.slice A n2 c) (.slice A' f.length c') d f d f (kd, sl, xv) W → P w ab rb (k + 1) W) := Lib.hid fun W hW => hW.done (by omega)
            have d1 : (n != n) = false := by simp
            have d2 : (b != b) = false := by simp
            have d3 : (y != y) = false := by simp
            have d4 : (z != z) = false := by simp
            have d5 : ((m : Int) != (m : Int)) = false := by simp
            have d6 : ((n2 : Int) != (n2 : Int)) = false := by simp
            have j1 : ¬ (n2 : Int) < (n2 : Int) := by omega
            have HQ0 := HQ1.out
            rw [hn2]
            clear hM hq hum hown hb H3 HDK hnk hn2
            go_wp2_with (fail)
            go_region_held3 (fun W => W.cell? ⟨rb, 0, none⟩ = some (.slice A n2 c))
              ((first
                | (refine HCQ.out _ ?_; (repeat' (first | (with_reducible assumption) | (with_reducible refine Q1.drew ?_) | (with_reducible refine Q1.drewN ?_ _))); done)
                | (refine HC.out _ ?_; (repeat' (first | (with_reducible assumption) | (with_reducible refine Md.drew ?_) | (with_reducible refine Md.drewN ?_ _))); done)))
              (first
                | (go_at_call 15; (with_reducible refine (HL.out _ (by repeat' (first | (with_reducible assumption) | (with_reducible refine Q1.drew ?_) | (with_reducible refine Q1.drewN ?_ _)))).mono ?_); rintro e w5 ⟨rfl, hq5⟩)
                | (go_at_call 16; (with_reducible refine (HS.out _ (by repeat' (first | (with_reducible assumption) | (with_reducible refine Q1.drew ?_) | (with_reducible refine Q1.drewN ?_ _)))).mono ?_); rintro e w6 ⟨rfl, hq6⟩)
                | (go_at_call 18; (with_reducible refine (HU.out _ (by repeat' (first | (with_reducible assumption) | (with_reducible refine Q1.drew ?_) | (with_reducible refine Q1.drewN ?_ _)))).mono ?_); rintro e w7 ⟨A5, c5, rfl, hq7⟩; have hq7' := hq7.1)
                | (go_at_call 17; (with_reducible refine (HI.out _ _ _ (by repeat' (first | (with_reducible assumption) | (with_reducible refine Q2.drew ?_) | (with_reducible refine Q2.drewN ?_ _)))).mono ?_); rintro e w8 ⟨rfl, hq8⟩))
            have HP8 := Lib.hid (HE.out _ hq8)
            clear hq8
            go_wp2_with (fail)
            go_roundg (l.length - (k + 1))
            case measure => omega
            case rel => exact ⟨k + 1, rfl, by omega, by go_num, HP8.out⟩
    · have i1 : ¬ (k : Int) < (l.length : Int) := by omega
      have HB := Lib.hid hp.below
      have HLV := Lib.hid (lives_any w0)
      clear hp
      go_wp2_with (fail)
      refine HLV.out.mono ?_
      rintro e w4 ⟨rfl, hb4⟩
      have HB4 := Lib.hid (HB.out.trans (hb4.mono HB.out.size))
      clear hb4 HLV
      go_wp2_with (fail)
      go_ret
      exact ⟨rfl, HB4.out⟩
theorem lifted (os : Os) (started : os.Started) (H : Type) (enc : TypeId × Value → H) :
    ReturnsInHanded {} Try.checked os 3 .any (Rows.arenaDoesSpec.pre6 enc Try.prog Try.f3 Rows.arenaDoesRow.domain false) (Rows.arenaDoesSpec.post enc Try.prog Try.f3 false true false false) := by
  refine lift (C := Try.checked) (by kernel_rfl) started (by kernel_rfl) Try.func3 rfl (by kernel_rfl) (by kernel_rfl) rfl Try.underlying4
    (fun ds hd => by match ds, hd with | [_], _ => exact ⟨rfl, rfl, rfl⟩)
    (ChangeSpec.witness6 (enc := enc) (C := Try.checked) false ⟨#[], #[.slice none 0 0], []⟩ 8 (by kernel_rfl) (by kernel_rfl) (by kernel_rfl) (by kernel_rfl)) ?_
  intro W base args ds before hval0 hA0 hfz hsz0
  have hval : ∀ (j : Nat) t v, Try.f3.params[j]? = some t → args[j]? = some v → Value.okWide Try.prog W .any base t v := hval0
  have hA : DataW.TrodAll enc Try.prog W 0 (fun _ => true) true Try.f3.params.toList args.toList ds before := hA0
  have hsz : (DataW.weightsEach Try.prog Try.f3.params.toList ds).all (· ≤ reachBytes) = true := hsz0
  rw [Try.params3] at hA hval hsz
  obtain ⟨v0, vs0, d0, ds0, p0, q0, hargs, rfl, rfl, h0, r0⟩ := trodAll_cons hA
  obtain ⟨rfl, rfl, rfl⟩ := trodAll_nil r0
  obtain rfl : args = #[v0] := by cases args; simp_all
  obtain ⟨A, c, l, rfl, hr, hm⟩ := open_deeds (hval 0 22 v0 rfl rfl) h0 hsz (j := 0) rfl rfl
  exact walk A c l hm W hr

theorem proved : Rows.ArenaDoesSaid :=
  OpenClaim.holds_of_wide 3 Try.f3 rfl rfl rfl rfl rfl rfl rfl ⟨rfl, rfl, rfl, rfl, rfl⟩ rfl rfl rfl rfl rfl (by kernel_rfl) Try.func3 (by kernel_rfl)
    (of_decide_eq_true (by kernel_rfl)) (by unfold Func.isWrapper; first | (rw [if_pos (by decide +kernel)]; kernel_rfl) | (rw [if_neg (by decide +kernel)]; exact ⟨rfl, rfl⟩))
    (fun os started H enc _ => lifted os started H enc)
#print axioms proved
end Go.Proofs.Yteiggpdondbhoaa.arenaDoes
