/-
  The contract of lev.Edits for texts of up to 64 bytes.
-/
import Derived.Test.YtfahmllooeceaaaBrows
import Derived.Test.YtfahmllooeceaaaEd2
import Derived.Test.YtfahmllooeceaaaWay
import Derived.Outline
namespace Go.Proofs.Ytfahmllooeceaaa.lev
open Go.RowKit law bytes
set_option linter.unusedVariables false

theorem zero_col : (Try.prog.info? 52).map (fun i => (i.zero, i.size, i.bytes)) = some (some (.agg #[.int .u64 0, .int .u64 0, .int .u64 0]), 3, 24) := by kernel_rfl
theorem make_col (n : Nat) (hn : n ≤ 1048576) : ∃ Z : Array Value, Z.size = n * 3 ∧ ∀ u : World, (Instr.makeSlice 45 (.int .i64 (n : Int)) (.int .i64 (n : Int))).run Try.prog u =
    .ok (.slice (some ⟨u.heap.size, 0, none⟩) n n) (u.alloc (.cells Z 52)) := by
  obtain ⟨i, hi, hz, hsz, hby⟩ := info_parts zero_col
  refine ⟨madeCells (Value.agg #[.int .u64 0, .int .u64 0, .int .u64 0]).cells (n * 3), size_madeCells _ _, fun u => ?_⟩
  have h := run_make (P := Try.prog) u 45 52 i _ Try.underlying45 hi hz .i64 .i64 n n (by omega) (by omega) (by rw [hby]; omega) (by omega)
  rw [h, hsz]
  simp only [Int.toNat_natCast]
theorem bits_at {A B : ByteArray} {i j : Nat} (hi : i < A.size) {s m l : BitVec 64} (hc : Col (bl A) [] (bl B) j m l) (hs : Same (bl A) [] (bl B) j s) :
    s.getLsbD (A.size - 1 - i) = decide (L ((bl A).drop i) ((bl B).drop j) = L ((bl A).drop (i + 1)) ((bl B).drop (j + 1))) ∧
    m.getLsbD (A.size - 1 - i) = decide (L ((bl A).drop i) ((bl B).drop j) = L ((bl A).drop (i + 1)) ((bl B).drop j) + 1) := by
  have h1 := hs (A.size - 1 - i) (by rw [bl_len]; omega)
  have h2 := hc.more (A.size - 1 - i) (by rw [bl_len]; omega)
  unfold V at h1 h2
  rw [bl_len, List.append_nil, List.append_nil, show A.size - (A.size - 1 - i + 1) = i from by omega, show A.size - (A.size - 1 - i) = i + 1 from by omega] at h1 h2
  exact ⟨h1, h2⟩
theorem cat_of (x y : List UInt8) (hx : x.length ≤ 1048576) (hy : y.length ≤ 1048576) (W : World) : (Op.stringOp .add (of x) (of y)).run Try.prog W = .ok (.string (of (x ++ y))) W := by
  rw [run_string_add_sum W _ _ (by rw [of_size, of_size]; omega)]
  congr 2


set_option maxHeartbeats 6400000 in
set_option maxRecDepth 100000 in
theorem edits_any (a b : ByteArray) (ha : a.size ≤ 64) (hb : b.size ≤ 64) (w : World) :
    Calls Try.prog 16 #[.string a, .string b] w (Tells (.string (of (E (bl a) (bl b)))) w) := by
  have hal := alike_any a b (by omega) (by omega) w
  have hp := pre_le (bl a) (bl b)
  rw [bl_len, bl_len] at hp
  have hE := E_pre (bl a) (bl b)
  obtain ⟨EE, hEE⟩ : ∃ EE, EE = E (bl a) (bl b) := ⟨_, rfl⟩
  rw [← hEE] at hE ⊢
  generalize pre (bl a) (bl b) = n at *
  obtain ⟨hp1, hp2⟩ := hp
  obtain ⟨A, hA⟩ : ∃ A, A = a.extract n a.size := ⟨_, rfl⟩
  obtain ⟨B, hB⟩ : ∃ B, B = b.extract n b.size := ⟨_, rfl⟩
  have hA64 : A.size ≤ 64 := by rw [hA]; simp; omega
  have hB64 : B.size ≤ 64 := by rw [hB]; simp; omega
  rw [← bl_from, ← bl_from, ← hA, ← hB] at hE
  have hA' := hA.symm
  have hB' := hB.symm
  have hrep := rep_any 61 n (by omega)
  obtain ⟨Z, hZs, hZ⟩ := make_col B.size (by omega)
  have HE := Lib.hid hE
  have HAL := Lib.hid hal
  have HREP := Lib.hid hrep
  have HZS := Lib.hid hZs
  have HA := Lib.hid hA'
  have HB' := Lib.hid hB'
  clear hEE hE hal hrep hZs hA hB hA' hB'
  go_enter Try.func16, Try.ntmps16
  go_wp2_with (fail)
  refine HAL.out.mono ?_
  rintro e w1 ⟨rfl, n1, rfl⟩
  go_wp2_with (fail)
  go_quiet (fail)
  go_wp2_with (fail)
  rw [HA.out, HB'.out]
  refine (HREP.out _).mono ?_
  rintro e w2 ⟨rfl, hb2⟩
  obtain ⟨v0, w3, hcv, htx3, hb3⟩ := way_conv (Pr := Try.prog) w2 9 44 5 (of (List.replicate n 61)) Try.underlying9 Try.underlying44 Try.underlying5
  have hB2 : Below w.heap.size w w2 := (below_drewN' (Below.refl _ _) _).trans hb2
  have hB3 : Below w.heap.size w w3 := hB2.trans (hb3.mono hB2.size)
  have hb3s := hb3.size
  have HTX3 := Lib.hid htx3
  have HB2 := Lib.hid hB2
  have HB3 := Lib.hid hB3
  clear hb2 hB2 hb3 hB3 htx3 HAL HREP HA HB'
  go_wp2_with (fail)
  obtain ⟨w4, hw4⟩ : ∃ w4, w4 = w3.alloc (.cells Z 52) := ⟨_, rfl⟩
  obtain ⟨gc, hgc⟩ : ∃ gc, gc = w3.heap.size := ⟨_, rfl⟩
  have htx4 : Txt w4 w.heap.size v0 (List.replicate n 61) := by rw [hw4]; exact (Txt.mono HTX3.out HB2.out.size).alloc _
  have hB4 : Below w.heap.size w w4 := by rw [hw4]; exact HB3.out.alloc HB3.out.size _
  have hco4 : Cols w4 gc B.size B.size (bl A) [] (bl B) := by
    rw [hw4, hgc]
    exact ⟨_, Z, Blk.new w3 _ _, HZS.out, fun j h1 h2 => by omega⟩
  have hvc4 : v0.ownBlock ≠ some gc := fun q => by
    obtain ⟨g, h1, h2, h3⟩ := HTX3.out.own
    rw [h1] at q
    injection q with q
    omega
  have HTX4 := Lib.hid htx4
  have HB4 := Lib.hid hB4
  have HCO4 := Lib.hid hco4
  have HVC4 := Lib.hid hvc4
  have hgcw : w.heap.size ≤ gc := by rw [hgc]; exact HB3.out.size
  rw [← hw4, ← hgc]
  clear htx4 hB4 hco4 hvc4 hw4 hgc hcv hZ HTX3 HB2 HB3 HZS hb3s
  by_cases hA0 : A.size = 0
  · obtain rfl : A = ByteArray.empty := by rw [← of_bl A, List.eq_nil_of_length_eq_zero (l := bl A) (by rw [bl_len]; exact hA0)]; rfl
    have hrows := rows_none B (by omega) w4
    have hEE : EE = List.replicate n 61 ++ List.replicate (B.size - 0) 43 := by rw [HE.out, show bl ByteArray.empty = [] from rfl, E_plus, bl_len]; rfl
    have HFE := Lib.hid hEE
    have HR := Lib.hid hrows
    clear hrows hEE HE hA0
    refine HR.out.mono ?_
    rintro e w5 ⟨gr, rfl, hb5⟩
    have HTX5 := Lib.hid (HTX4.out.below hb5 (Nat.le_refl _))
    have HB5 := Lib.hid (HB4.out.trans (hb5.mono HB4.out.size))
    clear hb5 HTX4 HB4 HCO4 HVC4 HR
    go_wp2_with (fail)
    go_loop [6, 8, 33] (fun v j i => v = v0 ∧ j = .int .i64 0 ∧ i = .int .i64 0) (fun _ _ _ => 0)
    case atStart => exact ⟨rfl, rfl, rfl⟩
    case round =>
      obtain ⟨rfl, rfl, rfl⟩ := hrel
      obtain ⟨r, hr⟩ : ∃ r, r = B.size - 0 := ⟨_, rfl⟩
      have hwr : IntKind.i64.wrap ((B.size : Int)) = (r : Int) := by rw [IntKind.wrap_i64]; omega
      have hrb : r ≤ 64 := by omega
      have hrep := rep_any 43 r (by omega) w5.drew
      have hcat := cat_of (List.replicate n 61) (List.replicate r 43) (by simp; omega) (by rw [List.length_replicate]; omega)
      have heq : EE = (List.replicate n 61) ++ List.replicate r 43 := by rw [hr]; exact HFE.out
      rw [← heq] at hcat
      have hcv : (convert 44 9 u6).run Try.prog w5.drew = .ok (.string (of ((List.replicate n 61)))) w5.drew := way_back (Txt.same (w' := w5.drew) HTX5.out rfl) _ _ 5 Try.underlying44 Try.underlying5 Try.underlying9
      have HRP := Lib.hid hrep
      clear hrep heq hr HFE
      go_wp2_with (fail)
      go_region_with ((go_at_call 26; (with_reducible refine HRP.out.mono ?_); rintro e8 w8 ⟨rfl, hb8⟩; have hcv8 : (convert 44 9 u6).run Try.prog w8 = .ok (.string (of ((List.replicate n 61)))) w8 := way_back ((Txt.same (w' := w5.drew) HTX5.out rfl).below hb8 (Nat.le_refl _)) _ _ 5 Try.underlying44 Try.underlying5 Try.underlying9; have HB8 := Lib.hid hb8; clear hb8))
      all_goals
        go_wp2_with (fail)
        go_ret
        exact ⟨rfl, (below_drewN' HB5.out 1).trans (HB8.out.mono HB5.out.size)⟩
  · have hA1 : 0 < A.size := by omega
    have hrows := rows_one A B hA1 hA64 (by omega) w4
    have hpart : ∀ W, Calls Try.prog 24 #[.string A, .int .i64 0] W fun e w' => e = .returned (.string A) ∧ W = w' := fun W => by
      have := part_any A (by omega) 0 (by omega) W
      rwa [pt_zero A hA64] at this
    have hEE : EE = List.replicate n 61 ++ E ((bl A).drop 0) ((bl B).drop 0) := HE.out
    have hBx : B.extract 0 B.size = B := by apply bl_ext; rw [bl_to, List.take_of_length_le (by rw [bl_len]; exact Nat.le_refl _)]
    have hgcl := HCO4.out.lt
    have HEE0 := Lib.hid hEE
    have HR := Lib.hid hrows
    have HPT := Lib.hid hpart
    have HBX := Lib.hid hBx
    clear hrows hEE HE hpart hBx hA0
    refine HR.out.mono ?_
    rintro e w5 ⟨gr, gb, rfl, hgr, hgb, hc5, hrow5, hb5⟩
    have HTX5 := Lib.hid (HTX4.out.below hb5 (Nat.le_refl _))
    have HB5 := Lib.hid (HB4.out.trans (hb5.mono HB4.out.size))
    have HCO5 := Lib.hid (HCO4.out.keep (w' := w5) (hb5.block gc hgcl))
    have HC5 := Lib.hid hc5
    have HROW5 := Lib.hid hrow5
    have hgbc : gb ≠ gc := by omega
    clear hb5 HTX4 HB4 HCO4 HR hc5 hrow5
    go_wp2_with (fail)
    go_loopw [6, 8, 33] (fun vv jj ii wr => ∃ (k j : Nat) (pf : List UInt8), k ≤ 1 ∧ ii = .int .i64 k ∧ jj = .int .i64 j ∧ j ≤ B.size ∧ pf.length ≤ 200 ∧ Txt wr w.heap.size vv pf ∧ Below w.heap.size w wr ∧
      Hid (k = 0 → wr = w5 ∧ vv = v0 ∧ j = 0 ∧ pf = List.replicate n 61) ∧ Hid (k = 1 → EE = pf ++ List.replicate (B.size - j) 43)) (fun _ _ ii _ => 1 - (intOf ii).toNat)
    case atStart => exact ⟨0, 0, List.replicate n 61, by omega, rfl, rfl, Nat.zero_le _, by simp; omega, HTX5.out, HB5.out, Lib.hid (fun _ => ⟨rfl, rfl, rfl, rfl⟩), Lib.hid (fun h => by omega)⟩
    case round =>
      obtain ⟨k, j, pf, hk, rfl, rfl, hj, hpl, htx, hB, HK0, HK1⟩ := hrel
      rcases Nat.eq_zero_or_pos k with hk0 | hk0
      · subst hk0
        obtain ⟨rfl, rfl, rfl, rfl⟩ := HK0.out rfl
        rw [show ((0 : Nat) : Int) = 0 from rfl]
        have hlook : Calls Try.prog 28 #[.string A, .string B, .slice (some ⟨gb, 0, none⟩) B.size B.size, .slice (some ⟨gc, 0, none⟩) B.size B.size] wr.drew (Looked gc B.size (bl A) [] (bl B) wr.drew) :=
          look_any A B [] hA1 hA64 (by omega) gb gc hgbc wr.drew (HROW5.out.keep rfl) (HCO5.out.keep rfl)
        have HL := Lib.hid hlook
        have hc5 := HC5.out
        have hBx := HBX.out
        clear hlook HK0 HK1 htx hB
        go_wp2_with (fail)
        refine (HPT.out _).mono ?_
        rintro e wq ⟨rfl, rfl⟩
        go_wp2_with (fail)
        go_region_with ((go_at_call 28; (with_reducible refine HL.out.mono ?_); rintro e w6 ⟨rfl, hg6, hco6⟩))
        have HTX6 := Lib.hid ((Txt.same (w' := wr.drew) HTX5.out rfl).grown hg6 HVC4.out)
        have HB6 := Lib.hid ((below_drewN' HB5.out 1).grown hg6 HB5.out.size (fun q hq => by injection hq with hq; omega))
        have HCO6 := Lib.hid hco6
        have hvc6 := HVC4.out
        clear hg6 hco6 HL HTX5 HB5 HCO5 HC5 HROW5 hc5 hBx HVC4
        go_wp2_with (fail)
        go_loopw [6, 8, 12] (fun vv jj ii wx => ∃ (i j : Nat) (pfx : List UInt8), i ≤ A.size ∧ j ≤ B.size ∧ jj = .int .i64 j ∧ ii = .int .i64 i ∧ Txt wx w.heap.size vv pfx ∧ vv.ownBlock ≠ some gc ∧ pfx.length ≤ n + i + j ∧
          Hid (EE = pfx ++ E ((bl A).drop i) ((bl B).drop j)) ∧ Below w.heap.size w wx ∧ Cols wx gc B.size 0 (bl A) [] (bl B)) (fun _ jj ii _ => (A.size - (intOf ii).toNat) + (B.size - (intOf jj).toNat))
        case atStart => exact ⟨0, 0, List.replicate n 61, Nat.zero_le _, Nat.zero_le _, rfl, rfl, HTX6.out, hvc6, by simp, HEE0, HB6.out, HCO6.out⟩
        case round =>
          obtain ⟨i, j, pfx, hi, hj, rfl, rfl, htx, hvc, hpl, HE, hB, hco⟩ := hrel
          have HTX := Lib.hid htx
          have HB := Lib.hid hB
          have HCO := Lib.hid hco
          clear htx hB HTX6 HB6 HCO6 hvc6
          by_cases hiA : i < A.size
          · have cA := bl_cons A i hiA
            by_cases hjB : j < B.size
            · have cB := bl_cons B j hjB
              obtain ⟨s, m, l, c0, c1, c2, hcol, hsame⟩ : ∃ s m l : BitVec 64, wr.cell? ⟨gc, j * 3, none⟩ = some (.int .u64 (U s)) ∧ wr.cell? ⟨gc, j * 3 + 1, none⟩ = some (.int .u64 (U m)) ∧ wr.cell? ⟨gc, j * 3 + 2, none⟩ = some (.int .u64 (U l)) ∧ Col (bl A) [] (bl B) j m l ∧ Same (bl A) [] (bl B) j s := by
                obtain ⟨t, cs, hb, _, hd⟩ := hco
                obtain ⟨s, m, l, h1, h2, h3, h4, h5⟩ := hd j (Nat.zero_le _) hjB
                exact ⟨s, m, l, (hb.cell _).trans h1, (hb.cell _).trans h2, (hb.cell _).trans h3, h4, h5⟩
              obtain ⟨hsb, hmb⟩ := bits_at hiA hcol hsame
              clear hcol hsame hco
              by_cases he : A[i]'hiA = B[j]'hjB
              · have hstep : E ((bl A).drop i) ((bl B).drop j) = (61 : UInt8) :: E ((bl A).drop (i + 1)) ((bl B).drop (j + 1)) := by rw [cA, cB, he, E_same]
                have HEE : Hid (EE = (pfx ++ [(61 : UInt8)]) ++ E ((bl A).drop (i + 1)) ((bl B).drop (j + 1))) := Lib.hid (by rw [HE.out, hstep, List.append_assoc]; rfl)
                have HN : Hid (∀ W, Calls Try.prog 30 #[.int .i64 i, .int .i64 j, .int .u8 61] W fun e w' => e = .returned (.tuple #[.int .i64 (i + 1 : Nat), .int .i64 (j + 1 : Nat)]) ∧ W = w') := Lib.hid (fun W => next_both i j (by omega) (by omega) 61 (by decide) (by decide) W)
                have HF : Hid (Calls Try.prog 29 #[.string A, .int .i64 i, .int .u8 (B[j]'hjB).toNat, .agg #[.int .u64 (U s), .int .u64 (U m), .int .u64 (U l)]] wr.drew (Tells (.int .u8 61) wr.drew)) := Lib.hid (by
                  have := first_any A hA64 i hiA (B[j]'hjB) s m l wr.drew
                  rwa [show fl (decide (A[i]'hiA = B[j]'hjB)) (s.getLsbD (A.size - 1 - i)) (m.getLsbD (A.size - 1 - i)) = 61 from by rw [decide_eq_true he]; rfl] at this)
                clear cA cB HE hstep hsb hmb
                go_wp2_with (fail)
                go_region_with ((go_at_call 29; (with_reducible refine HF.out.mono ?_); rintro e5 w5 ⟨rfl, hb5⟩))
                all_goals
                  have HTX5 := Lib.hid ((Txt.same (w' := wr.drew) HTX.out rfl).below hb5 (Nat.le_refl _))
                  have HB5 := Lib.hid ((below_drewN' HB.out 1).trans (hb5.mono HB.out.size))
                  have HCO5 := Lib.hid (HCO.out.keep (w' := w5) (hb5.block gc HCO.out.lt))
                  clear hb5 HTX HB HCO
                  go_wp2_with (at_builtin
                               refine wpList_append_way _ rfl (.tmp 70) (.tmp 72) _ rfl w.heap.size 5 Try.underlying44 byteE u6 pfx rfl (Txt.alloc HTX5.out _) (by have := HB5.out.size; simp; omega) ⟨w5.heap.size, 0, none⟩ 1 (61 : UInt8) rfl ((Blk.new _ _ _).cell 0) (by omega) ?_
                               intro v4 w4 htx4 hg4 hat4)
                  refine (HN.out _).mono ?_
                  rintro e6 w6 ⟨rfl, rfl⟩
                  have hB6 : Below w.heap.size w w4 := (HB5.out.alloc HB5.out.size _).grown hg4 (by have := HB5.out.size; simp; omega) (fun q hq => by obtain ⟨q', hq', hle, _⟩ := HTX5.out.own; rw [hq'] at hq; injection hq with hq; omega)
                  have hco6 := (HCO5.out.keep (Below.heap_alloc _ _ _ HCO5.out.lt)).grown hg4 (fun q => hvc q.symm)
                  have hvc6 : v4.ownBlock ≠ some gc := by
                    rcases hat4 with q | q
                    · rw [q]; exact hvc
                    · rw [q]
                      have := HCO5.out.lt
                      simp
                      omega
                  have HTX6 := Lib.hid htx4
                  have HB6 := Lib.hid hB6
                  have HCO6 := Lib.hid hco6
                  have HVC6 := Lib.hid hvc6
                  clear htx4 hB6 hco6 hvc6 hg4 hat4
                  go_wp2_with (fail)
                  go_roundw
                  case rel => exact ⟨i + 1, j + 1, pfx ++ [(61 : UInt8)], by omega, by omega, by go_num, by go_num, HTX6.out, HVC6.out, by rw [List.length_append]; simp only [List.length_singleton]; omega, HEE, HB6.out, HCO6.out⟩
                  case measure => simp [intOf]; omega
              · by_cases h1 : L ((bl A).drop i) ((bl B).drop j) = L ((bl A).drop (i + 1)) ((bl B).drop (j + 1))
                · by_cases h2 : L ((bl A).drop i) ((bl B).drop j) = L ((bl A).drop (i + 1)) ((bl B).drop j) + 1
                  · have hstep : E ((bl A).drop i) ((bl B).drop j) = (45 : UInt8) :: E ((bl A).drop (i + 1)) ((bl B).drop (j)) := by have e1 := h1; have e2 := h2; rw [cA, cB] at e1 e2 ⊢; exact E_goes he e1 e2
                    have HEE : Hid (EE = (pfx ++ [(45 : UInt8)]) ++ E ((bl A).drop (i + 1)) ((bl B).drop (j))) := Lib.hid (by rw [HE.out, hstep, List.append_assoc]; rfl)
                    have HN : Hid (∀ W, Calls Try.prog 30 #[.int .i64 i, .int .i64 j, .int .u8 45] W fun e w' => e = .returned (.tuple #[.int .i64 (i + 1 : Nat), .int .i64 (j : Nat)]) ∧ W = w') := Lib.hid (fun W => next_minus i j (by omega) (by omega) W)
                    have HF : Hid (Calls Try.prog 29 #[.string A, .int .i64 i, .int .u8 (B[j]'hjB).toNat, .agg #[.int .u64 (U s), .int .u64 (U m), .int .u64 (U l)]] wr.drew (Tells (.int .u8 45) wr.drew)) := Lib.hid (by
                      have := first_any A hA64 i hiA (B[j]'hjB) s m l wr.drew
                      rwa [show fl (decide (A[i]'hiA = B[j]'hjB)) (s.getLsbD (A.size - 1 - i)) (m.getLsbD (A.size - 1 - i)) = 45 from by rw [decide_eq_false he, hsb, hmb, decide_eq_true h1, decide_eq_true h2]; rfl] at this)
                    clear cA cB HE hstep hsb hmb
                    go_wp2_with (fail)
                    go_region_with ((go_at_call 29; (with_reducible refine HF.out.mono ?_); rintro e5 w5 ⟨rfl, hb5⟩))
                    all_goals
                      have HTX5 := Lib.hid ((Txt.same (w' := wr.drew) HTX.out rfl).below hb5 (Nat.le_refl _))
                      have HB5 := Lib.hid ((below_drewN' HB.out 1).trans (hb5.mono HB.out.size))
                      have HCO5 := Lib.hid (HCO.out.keep (w' := w5) (hb5.block gc HCO.out.lt))
                      clear hb5 HTX HB HCO
                      go_wp2_with (at_builtin
                                   refine wpList_append_way _ rfl (.tmp 70) (.tmp 72) _ rfl w.heap.size 5 Try.underlying44 byteE u6 pfx rfl (Txt.alloc HTX5.out _) (by have := HB5.out.size; simp; omega) ⟨w5.heap.size, 0, none⟩ 1 (45 : UInt8) rfl ((Blk.new _ _ _).cell 0) (by omega) ?_
                                   intro v4 w4 htx4 hg4 hat4)
                      refine (HN.out _).mono ?_
                      rintro e6 w6 ⟨rfl, rfl⟩
                      have hB6 : Below w.heap.size w w4 := (HB5.out.alloc HB5.out.size _).grown hg4 (by have := HB5.out.size; simp; omega) (fun q hq => by obtain ⟨q', hq', hle, _⟩ := HTX5.out.own; rw [hq'] at hq; injection hq with hq; omega)
                      have hco6 := (HCO5.out.keep (Below.heap_alloc _ _ _ HCO5.out.lt)).grown hg4 (fun q => hvc q.symm)
                      have hvc6 : v4.ownBlock ≠ some gc := by
                        rcases hat4 with q | q
                        · rw [q]; exact hvc
                        · rw [q]
                          have := HCO5.out.lt
                          simp
                          omega
                      have HTX6 := Lib.hid htx4
                      have HB6 := Lib.hid hB6
                      have HCO6 := Lib.hid hco6
                      have HVC6 := Lib.hid hvc6
                      clear htx4 hB6 hco6 hvc6 hg4 hat4
                      go_wp2_with (fail)
                      go_roundw
                      case rel => exact ⟨i + 1, j, pfx ++ [(45 : UInt8)], by omega, by omega, by go_num, by go_num, HTX6.out, HVC6.out, by rw [List.length_append]; simp only [List.length_singleton]; omega, HEE, HB6.out, HCO6.out⟩
                      case measure => simp [intOf]; omega
                  · have hstep : E ((bl A).drop i) ((bl B).drop j) = (43 : UInt8) :: E ((bl A).drop (i)) ((bl B).drop (j + 1)) := by have e1 := h1; have e2 := h2; rw [cA, cB] at e1 e2 ⊢; exact E_comes he e1 e2
                    have HEE : Hid (EE = (pfx ++ [(43 : UInt8)]) ++ E ((bl A).drop (i)) ((bl B).drop (j + 1))) := Lib.hid (by rw [HE.out, hstep, List.append_assoc]; rfl)
                    have HN : Hid (∀ W, Calls Try.prog 30 #[.int .i64 i, .int .i64 j, .int .u8 43] W fun e w' => e = .returned (.tuple #[.int .i64 (i : Nat), .int .i64 (j + 1 : Nat)]) ∧ W = w') := Lib.hid (fun W => next_plus i j (by omega) (by omega) W)
                    have HF : Hid (Calls Try.prog 29 #[.string A, .int .i64 i, .int .u8 (B[j]'hjB).toNat, .agg #[.int .u64 (U s), .int .u64 (U m), .int .u64 (U l)]] wr.drew (Tells (.int .u8 43) wr.drew)) := Lib.hid (by
                      have := first_any A hA64 i hiA (B[j]'hjB) s m l wr.drew
                      rwa [show fl (decide (A[i]'hiA = B[j]'hjB)) (s.getLsbD (A.size - 1 - i)) (m.getLsbD (A.size - 1 - i)) = 43 from by rw [decide_eq_false he, hsb, hmb, decide_eq_true h1, decide_eq_false h2]; rfl] at this)
                    clear cA cB HE hstep hsb hmb
                    go_wp2_with (fail)
                    go_region_with ((go_at_call 29; (with_reducible refine HF.out.mono ?_); rintro e5 w5 ⟨rfl, hb5⟩))
                    all_goals
                      have HTX5 := Lib.hid ((Txt.same (w' := wr.drew) HTX.out rfl).below hb5 (Nat.le_refl _))
                      have HB5 := Lib.hid ((below_drewN' HB.out 1).trans (hb5.mono HB.out.size))
                      have HCO5 := Lib.hid (HCO.out.keep (w' := w5) (hb5.block gc HCO.out.lt))
                      clear hb5 HTX HB HCO
                      go_wp2_with (at_builtin
                                   refine wpList_append_way _ rfl (.tmp 70) (.tmp 72) _ rfl w.heap.size 5 Try.underlying44 byteE u6 pfx rfl (Txt.alloc HTX5.out _) (by have := HB5.out.size; simp; omega) ⟨w5.heap.size, 0, none⟩ 1 (43 : UInt8) rfl ((Blk.new _ _ _).cell 0) (by omega) ?_
                                   intro v4 w4 htx4 hg4 hat4)
                      refine (HN.out _).mono ?_
                      rintro e6 w6 ⟨rfl, rfl⟩
                      have hB6 : Below w.heap.size w w4 := (HB5.out.alloc HB5.out.size _).grown hg4 (by have := HB5.out.size; simp; omega) (fun q hq => by obtain ⟨q', hq', hle, _⟩ := HTX5.out.own; rw [hq'] at hq; injection hq with hq; omega)
                      have hco6 := (HCO5.out.keep (Below.heap_alloc _ _ _ HCO5.out.lt)).grown hg4 (fun q => hvc q.symm)
                      have hvc6 : v4.ownBlock ≠ some gc := by
                        rcases hat4 with q | q
                        · rw [q]; exact hvc
                        · rw [q]
                          have := HCO5.out.lt
                          simp
                          omega
                      have HTX6 := Lib.hid htx4
                      have HB6 := Lib.hid hB6
                      have HCO6 := Lib.hid hco6
                      have HVC6 := Lib.hid hvc6
                      clear htx4 hB6 hco6 hvc6 hg4 hat4
                      go_wp2_with (fail)
                      go_roundw
                      case rel => exact ⟨i, j + 1, pfx ++ [(43 : UInt8)], by omega, by omega, by go_num, by go_num, HTX6.out, HVC6.out, by rw [List.length_append]; simp only [List.length_singleton]; omega, HEE, HB6.out, HCO6.out⟩
                      case measure => simp [intOf]; omega
                · have hstep : E ((bl A).drop i) ((bl B).drop j) = (33 : UInt8) :: E ((bl A).drop (i + 1)) ((bl B).drop (j + 1)) := by have e1 := h1; rw [cA, cB] at e1 ⊢; exact E_becomes he e1
                  have HEE : Hid (EE = (pfx ++ [(33 : UInt8)]) ++ E ((bl A).drop (i + 1)) ((bl B).drop (j + 1))) := Lib.hid (by rw [HE.out, hstep, List.append_assoc]; rfl)
                  have HN : Hid (∀ W, Calls Try.prog 30 #[.int .i64 i, .int .i64 j, .int .u8 33] W fun e w' => e = .returned (.tuple #[.int .i64 (i + 1 : Nat), .int .i64 (j + 1 : Nat)]) ∧ W = w') := Lib.hid (fun W => next_both i j (by omega) (by omega) 33 (by decide) (by decide) W)
                  have HF : Hid (Calls Try.prog 29 #[.string A, .int .i64 i, .int .u8 (B[j]'hjB).toNat, .agg #[.int .u64 (U s), .int .u64 (U m), .int .u64 (U l)]] wr.drew (Tells (.int .u8 33) wr.drew)) := Lib.hid (by
                    have := first_any A hA64 i hiA (B[j]'hjB) s m l wr.drew
                    rwa [show fl (decide (A[i]'hiA = B[j]'hjB)) (s.getLsbD (A.size - 1 - i)) (m.getLsbD (A.size - 1 - i)) = 33 from by rw [decide_eq_false he, hsb, hmb, decide_eq_false h1]; rfl] at this)
                  clear cA cB HE hstep hsb hmb
                  go_wp2_with (fail)
                  go_region_with ((go_at_call 29; (with_reducible refine HF.out.mono ?_); rintro e5 w5 ⟨rfl, hb5⟩))
                  all_goals
                    have HTX5 := Lib.hid ((Txt.same (w' := wr.drew) HTX.out rfl).below hb5 (Nat.le_refl _))
                    have HB5 := Lib.hid ((below_drewN' HB.out 1).trans (hb5.mono HB.out.size))
                    have HCO5 := Lib.hid (HCO.out.keep (w' := w5) (hb5.block gc HCO.out.lt))
                    clear hb5 HTX HB HCO
                    go_wp2_with (at_builtin
                                 refine wpList_append_way _ rfl (.tmp 70) (.tmp 72) _ rfl w.heap.size 5 Try.underlying44 byteE u6 pfx rfl (Txt.alloc HTX5.out _) (by have := HB5.out.size; simp; omega) ⟨w5.heap.size, 0, none⟩ 1 (33 : UInt8) rfl ((Blk.new _ _ _).cell 0) (by omega) ?_
                                 intro v4 w4 htx4 hg4 hat4)
                    refine (HN.out _).mono ?_
                    rintro e6 w6 ⟨rfl, rfl⟩
                    have hB6 : Below w.heap.size w w4 := (HB5.out.alloc HB5.out.size _).grown hg4 (by have := HB5.out.size; simp; omega) (fun q hq => by obtain ⟨q', hq', hle, _⟩ := HTX5.out.own; rw [hq'] at hq; injection hq with hq; omega)
                    have hco6 := (HCO5.out.keep (Below.heap_alloc _ _ _ HCO5.out.lt)).grown hg4 (fun q => hvc q.symm)
                    have hvc6 : v4.ownBlock ≠ some gc := by
                      rcases hat4 with q | q
                      · rw [q]; exact hvc
                      · rw [q]
                        have := HCO5.out.lt
                        simp
                        omega
                    have HTX6 := Lib.hid htx4
                    have HB6 := Lib.hid hB6
                    have HCO6 := Lib.hid hco6
                    have HVC6 := Lib.hid hvc6
                    clear htx4 hB6 hco6 hvc6 hg4 hat4
                    go_wp2_with (fail)
                    go_roundw
                    case rel => exact ⟨i + 1, j + 1, pfx ++ [(33 : UInt8)], by omega, by omega, by go_num, by go_num, HTX6.out, HVC6.out, by rw [List.length_append]; simp only [List.length_singleton]; omega, HEE, HB6.out, HCO6.out⟩
                    case measure => simp [intOf]; omega
            · obtain rfl : j = B.size := by omega
              have hEs : E ((bl A).drop i) ((bl B).drop B.size) = 45 :: E ((bl A).drop (i + 1)) ((bl B).drop B.size) := by rw [cA, drop_nil (s := B) (Nat.le_refl _), E_minus]
              have HEE : Hid (EE = (pfx ++ [(45 : UInt8)]) ++ E ((bl A).drop (i + 1)) ((bl B).drop B.size)) := Lib.hid (by rw [HE.out, hEs, List.append_assoc]; rfl)
              have HN : Hid (∀ W, Calls Try.prog 30 #[.int .i64 i, .int .i64 B.size, .int .u8 45] W fun e w' => e = .returned (.tuple #[.int .i64 (i + 1 : Nat), .int .i64 B.size]) ∧ W = w') := Lib.hid (fun W => next_minus i B.size (by omega) (by omega) W)
              have HTX5 := HTX
              have HB5 := HB
              have HCO5 := HCO
              clear cA HE hEs HTX HB HCO hco

              go_wp2_with (at_builtin
                           refine wpList_append_way _ rfl (.tmp 70) (.tmp 72) _ rfl w.heap.size 5 Try.underlying44 byteE u6 pfx rfl (Txt.alloc HTX5.out _) (by have := HB5.out.size; simp; omega) ⟨wr.heap.size, 0, none⟩ 1 (45 : UInt8) rfl ((Blk.new _ _ _).cell 0) (by omega) ?_
                           intro v4 w4 htx4 hg4 hat4)
              refine (HN.out _).mono ?_
              rintro e6 w6 ⟨rfl, rfl⟩
              have hB6 : Below w.heap.size w w4 := (HB5.out.alloc HB5.out.size _).grown hg4 (by have := HB5.out.size; simp; omega) (fun q hq => by obtain ⟨q', hq', hle, _⟩ := HTX5.out.own; rw [hq'] at hq; injection hq with hq; omega)
              have hco6 := (HCO5.out.keep (Below.heap_alloc _ _ _ HCO5.out.lt)).grown hg4 (fun q => hvc q.symm)
              have hvc6 : v4.ownBlock ≠ some gc := by
                rcases hat4 with q | q
                · rw [q]; exact hvc
                · rw [q]
                  have := HCO5.out.lt
                  simp
                  omega
              have HTX6 := Lib.hid htx4
              have HB6 := Lib.hid hB6
              have HCO6 := Lib.hid hco6
              have HVC6 := Lib.hid hvc6
              clear htx4 hB6 hco6 hvc6 hg4 hat4
              go_wp2_with (fail)
              go_roundw
              case rel => exact ⟨i + 1, B.size, pfx ++ [(45 : UInt8)], by omega, by omega, by go_num, by go_num, HTX6.out, HVC6.out, by rw [List.length_append]; simp only [List.length_singleton]; omega, HEE, HB6.out, HCO6.out⟩
              case measure => simp [intOf]; omega
          · obtain rfl : i = A.size := by omega
            have hfe : EE = pfx ++ List.replicate (B.size - j) 43 := by rw [HE.out, drop_nil (s := A) (Nat.le_refl _), E_plus, List.length_drop, bl_len]
            have HFE := Lib.hid hfe
            clear hfe HE hco
            go_wp2_with (fail)
            go_roundw
            case rel => exact ⟨1, j, pfx, Nat.le_refl _, rfl, rfl, hj, by omega, HTX.out, HB.out, Lib.hid (fun h => by omega), Lib.hid (fun _ => HFE.out)⟩
            case measure => simp [intOf]
      · obtain rfl : k = 1 := by omega
        rw [show ((1 : Nat) : Int) = 1 from rfl]
        have HFE := Lib.hid (HK1.out rfl)
        have HTXF := Lib.hid htx
        have HBF := Lib.hid hB
        clear htx hB HK0 HK1 HTX5 HB5 HCO5 HC5 HROW5
        obtain ⟨r, hr⟩ : ∃ r, r = B.size - j := ⟨_, rfl⟩
        have hwr : IntKind.i64.wrap ((B.size : Int) - (j : Int)) = (r : Int) := by rw [IntKind.wrap_i64]; omega
        have hrb : r ≤ 64 := by omega
        have hrep := rep_any 43 r (by omega) wr.drew
        have hcat := cat_of pf (List.replicate r 43) (by omega) (by rw [List.length_replicate]; omega)
        have heq : EE = pf ++ List.replicate r 43 := by rw [hr]; exact HFE.out
        rw [← heq] at hcat
        have hcv : (convert 44 9 u6).run Try.prog wr.drew = .ok (.string (of (pf))) wr.drew := way_back (Txt.same (w' := wr.drew) HTXF.out rfl) _ _ 5 Try.underlying44 Try.underlying5 Try.underlying9
        have HRP := Lib.hid hrep
        clear hrep heq hr HFE
        go_wp2_with (fail)
        go_region_with ((go_at_call 26; (with_reducible refine HRP.out.mono ?_); rintro e8 w8 ⟨rfl, hb8⟩; have hcv8 : (convert 44 9 u6).run Try.prog w8 = .ok (.string (of (pf))) w8 := way_back ((Txt.same (w' := wr.drew) HTXF.out rfl).below hb8 (Nat.le_refl _)) _ _ 5 Try.underlying44 Try.underlying5 Try.underlying9; have HB8 := Lib.hid hb8; clear hb8))
        all_goals
          go_wp2_with (fail)
          go_ret
          exact ⟨rfl, (below_drewN' HBF.out 1).trans (HB8.out.mono HBF.out.size)⟩
end Go.Proofs.Ytfahmllooeceaaa.lev
