/-
  For all metrics, items and distances the law ScanPairs returns true, and changes nothing that there was. No condition.
-/
import Derived.Test.YtimkbadjcdnjjaaScT
import Derived.Deep.RegionHeld3
namespace Go.Proofs.Ytimkbadjcdnjjaa.scanPairs
open Go.RowKit law bytes only flat nums ord obj metric scan
open Go.ChangeShapes Go.WideShapes Go.Deep Go.ChangeAt
set_option linter.unusedVariables false
set_option maxRecDepth 100000

/-- where the law stands: its box, what there was, the meter, the pairs that were told -/
structure Sq (w W : World) (d : Dat) (g : Nat) (j : Int) (A2 : Option Addr) (tw : List Tw) : Prop where
  box : Blk W w.heap.size 27 (aC d)
  low : Below w.heap.size w W
  mt : Mt W g d.n j
  row : Sl W W.heap.size A2 (tw.flatMap tc)
section
variable {w W W' : World} {d : Dat} {g : Nat} {j : Int} {A2 : Option Addr} {tw : List Tw}
theorem Sq.on (h : Sq w W d g j A2 tw) (o : Below W.heap.size W W') : Sq w W' d g j A2 tw := ⟨h.box.below o h.box.lt, h.low.trans (o.mono h.low.size), h.mt.below o h.mt.lt, (h.row.below o).more o.size⟩
theorem Sq.drew (h : Sq w W d g j A2 tw) : Sq w W.drew d g j A2 tw := h.on ((Below.refl _ _).drew)
theorem Sq.drewN (h : Sq w W d g j A2 tw) (n : Nat) : Sq w (W.drewN n) d g j A2 tw := h.on (below_drewN' (Below.refl _ _) n)
/-- a pair's cells -/
theorem pair_at (h : Sl W W.heap.size A2 (tw.flatMap tc)) {m : Nat} {x : Tw} (hx : tw[m]? = some x) : ∃ b o, A2 = some ⟨b, o, none⟩ ∧ W.cell? ⟨b, o + m * 3, none⟩ = some (.int .i64 (x.1 : Int)) ∧ W.cell? ⟨b, o + m * 3 + 1, none⟩ = some (.int .i64 (x.2.1 : Int)) ∧ W.cell? ⟨b, o + m * 3 + 2, none⟩ = some (.int .i64 x.2.2) := by
  obtain ⟨hm, rfl⟩ := List.getElem?_eq_some_iff.1 hx
  have hlen : (tw.flatMap tc).length = tw.length * 3 := flat_length tc_len tw
  obtain ⟨b, o, rfl, hb, hc⟩ := Sl.place h (by omega)
  have g : ∀ j, j < 3 → W.cell? ⟨b, o + (m * 3 + j), none⟩ = (tc tw[m])[j]? := fun j hj => by
    have h1 := flat_get tc_len tw m j hm hj
    have hlt : m * 3 + j < (tw.flatMap tc).length := by omega
    rw [List.getElem?_eq_getElem hlt] at h1
    rw [hc _ hlt, h1]
  exact ⟨b, o, rfl, g 0 (by omega), g 1 (by omega), g 2 (by omega)⟩
end
/-- the cells of a round -/
def Eight (W : World) (b bb ri rk : Nat) (n : Int) (A : Option Addr) (len c : Nat) (p q : At) : Prop :=
  W.cell? ⟨b, 0, none⟩ = some (.int .i64 n) ∧ W.cell? ⟨b, 1, none⟩ = some (.slice A len c) ∧
  W.cell? ⟨bb, ri + 1, none⟩ = some (.int .i64 p.x.tag) ∧ W.cell? ⟨bb, ri + 1 + 1, none⟩ = some (.slice p.a p.x.vec.length p.c) ∧ W.cell? ⟨bb, ri + 1 + 2, none⟩ = some (.string p.x.str) ∧
  W.cell? ⟨bb, rk + 1, none⟩ = some (.int .i64 q.x.tag) ∧ W.cell? ⟨bb, rk + 1 + 1, none⟩ = some (.slice q.a q.x.vec.length q.c) ∧ W.cell? ⟨bb, rk + 1 + 2, none⟩ = some (.string q.x.str)
set_option maxHeartbeats 6400000 in
theorem walk (d : Dat) (w : World) (hy : Hyp w d) : Calls Try.prog 4 #[.agg (aC d)] w (Gives (.bool true) w) := by
  have hk1 : Blk (w.alloc (.cells (aC d) 27)) w.heap.size 27 (aC d) := Blk.new w _ _
  have hb1 : Below w.heap.size w (w.alloc (.cells (aC d) 27)) := (Below.refl _ _).alloc (Nat.le_refl _) _
  have hsh := rshorts_any d.A none d.l [] 30 40 d.c 0 _ (w.alloc (.cells (aC d) 27)) ((hy.its.below hb1).more hb1.size) (Nat.le_refl _) Sl.nil (by have := hy.len; unfold maxLen at this; omega) (by simp)
  obtain ⟨s, hs⟩ : ∃ s, shortR 30 40 d.l [] = s := ⟨_, rfl⟩
  rw [hs] at hsh
  have hrd := rd_of hk1
  unfold Rd at hrd
  obtain ⟨r0, r1, r2, r3, r4, r5, r6⟩ := hrd
  have HPRE : Hid (∀ W, Below (w.alloc (.cells (aC d) 27)).heap.size (w.alloc (.cells (aC d) 27)) W → Blk W w.heap.size 27 (aC d) ∧ Below w.heap.size w W) := Lib.hid fun W hW => ⟨hk1.below hW hk1.lt, hb1.trans (hW.mono hb1.size)⟩
  have HSH := Lib.hid hsh
  have HY := Lib.hid hy
  have HS := Lib.hid hs
  clear hk1 hb1 hsh hy hs
  unfold aC at *
  go_enter Try.func4, Try.ntmps4
  go_wp2_with (fail)
  refine HSH.out.mono ?_
  rintro e w1 ⟨rfl, hb⟩
  have HP1 := Lib.hid (HPRE.out w1 hb)
  clear HSH HPRE hb r0 r1 r2 r3 r4 r5 r6
  cases s with
  | false =>
    have HL := Lib.hid (lives_any w1)
    go_wp2_with (fail)
    refine HL.out.mono ?_
    rintro e w2 ⟨rfl, hb2⟩
    have HE := Lib.hid (HP1.out.2.trans (hb2.mono HP1.out.2.size))
    clear HL hb2
    go_wp2_with (fail)
    go_ret
    exact ⟨rfl, HE.out⟩
  | true =>
    have hsm := shortR_of HS.out
    have hl30 : d.l.length ≤ 30 := by omega
    have hss : ∀ p ∈ d.l, Small p.2.x := fun p hp => small_40 (hsm.2.1 p hp) (by decide) (HY.out.ok.1 p hp)
    obtain ⟨tw, htw⟩ : ∃ tw, pot (some ⟨w1.heap.size, 0, none⟩) d.n d.r d.l d.l.length = tw := ⟨_, rfl⟩
    obtain ⟨N, hN⟩ : ∃ N, tw.length = N := ⟨_, rfl⟩
    have hbx := HP1.out.1
    have HN : Hid (Calls Try.prog 8 #[.int .i64 d.n] w1 fun e w2 => e = .returned (.pointer (some ⟨w1.heap.size, 0, none⟩)) ∧ Rd w2 w.heap.size d ∧ Hid (Calls Try.prog 17 #[.pointer (some ⟨w1.heap.size, 0, none⟩), .slice d.A d.l.length d.c, .int .i64 d.r] w2 fun e w3 => ∃ A2 c2, e = .returned (.slice A2 N c2) ∧ N ≤ c2 ∧ Hid (Sq w w3 d w1.heap.size ((pc d.l.length d.l.length : Nat) : Int) A2 tw))) :=
      Lib.hid ((new_any d.n w1).mono fun e w2 ⟨he, hm, hb⟩ => ⟨he, rd_of (hbx.below hb hbx.lt), Lib.hid (by
        have hb2 : Below w.heap.size w w2 := HP1.out.2.trans (hb.mono HP1.out.2.size)
        refine (pairs_any w2 w.heap.size (some ⟨w1.heap.size, 0, none⟩) d.n 0 d.A d.c d.l d.r ⟨HY.out.its.below hb2, fun _ => hss, .inl ⟨_, rfl, hm⟩, hb2.size, fun i hi => by rw [← (tk_some _ i).1 hi]; exact Nat.le_of_lt hbx.lt, by decide, by decide, by omega⟩ HY.out.cap).mono fun e w3 ⟨A2, c2, he, hc2, hsl, ho, hmx⟩ => ?_
        rw [htw] at he hc2 hsl
        rw [hN] at he hc2
        refine ⟨A2, c2, he, hc2, Lib.hid ⟨Blk.only (hbx.below hb hbx.lt) ho fun e => ?_, hb2.trans (ho.below hb2.size fun i hi => by rw [← (tk_some _ i).1 hi]; exact Nat.le_of_lt hbx.lt), ?_, hsl⟩⟩
        · have := (tk_some _ _).1 e
          have := hbx.lt
          omega
        · rcases hmx with ⟨g', e, hm'⟩ | ⟨e, _⟩
          · injection e with e
            injection e with e
            subst e
            simpa [cnt] using hm'
          · cases e)⟩)
    have hrd := rd_of hbx
    unfold Rd at hrd
    obtain ⟨r0, r1, r2, r3, r4, r5, r6⟩ := hrd
    clear hbx hsm
    have HSS := Lib.hid hss
    have HTW := Lib.hid htw
    have HNN := Lib.hid hN
    clear hss htw hN
    go_wp2_with (fail)
    refine HN.out.mono ?_
    rintro e w2 ⟨rfl, ⟨r0, r1, r2, r3, r4, r5, r6⟩, HPA⟩
    clear HN HP1
    go_wp2_with (fail)
    refine HPA.out.mono ?_
    rintro e w3 ⟨A2, c2, rfl, hNc, HSQ⟩
    clear HPA r0 r1 r2 r3 r4 r5 r6
    obtain ⟨g, hg⟩ : ∃ g, w1.heap.size = g := ⟨_, rfl⟩
    rw [hg] at HSQ HTW ⊢
    clear hg
    obtain ⟨n, A, c, l, q, r, kk⟩ := d
    dsimp only at *
    go_wp2_with (fail)
    go_loopg [5, 6] l.length (fun gk s5 s6 wr => ∃ (i m : Nat), gk = l.length - i ∧ i ≤ l.length ∧ s5 = .int .i64 m ∧ s6 = .int .i64 i ∧ m = (pot (some ⟨g, 0, none⟩) n r l i).length ∧ Below w3.heap.size w3 wr)
    case atStart => exact ⟨0, 0, rfl, Nat.zero_le _, rfl, rfl, rfl, Below.refl _ _⟩
    case round =>
      obtain ⟨i, m, rfl, hi, rfl, rfl, hm, hb⟩ := hrel
      have HM := Lib.hid hm
      have HB := Lib.hid hb
      clear hm hb
      obtain ⟨r0, r1, r2, r3, r4, r5, r6⟩ := rd_of (HSQ.out.on HB.out).box
      dsimp only at r0 r1 r2 r3 r4 r5 r6
      by_cases hlt : i < l.length
      · have i1 : (i : Int) < (l.length : Int) := by omega
        have i2 : IntKind.i64.wrap ((i : Int) + 1) = ((i + 1 : Nat) : Int) := by rw [IntKind.wrap_i64]; omega
        obtain ⟨bb, oo, hA, hbb, -⟩ := (HY.out.its.below (HSQ.out.on HB.out).low).place (Nat.lt_of_le_of_lt (Nat.zero_le i) hlt)
        dsimp only at hA
        subst hA
        go_wp2_with (fail)
        obtain ⟨w4, hw4⟩ : ∃ w4, w4 = wr := ⟨_, rfl⟩
        rw [← hw4] at HB ⊢
        clear r0 r1 r2 r3 r4 r5 r6 hw4 wr
        go_loopg [5, 7] (l.length - (i + 1)) (fun gk s5 s7 wv => ∃ (j k m : Nat), gk = l.length - k ∧ k = i + 1 + j ∧ k ≤ l.length ∧ s5 = .int .i64 m ∧ s7 = .int .i64 k ∧ m = (pot (some ⟨g, 0, none⟩) n r l i ++ pin (some ⟨g, 0, none⟩) n r l i j).length ∧ Below w3.heap.size w3 wv)
        case atStart => exact ⟨0, i + 1, m, rfl, rfl, by omega, rfl, rfl, by simp [pin, HM.out], HB.out⟩
        case round =>
          clear HB HM
          obtain ⟨j, k, m, rfl, hkj, hk, rfl, rfl, hm, hb⟩ := hrel
          have HM := Lib.hid hm
          have HKJ := Lib.hid hkj
          have HB := Lib.hid hb
          clear hm hb hkj
          obtain ⟨r0, r1, r2, r3, r4, r5, r6⟩ := rd_of (HSQ.out.on HB.out).box
          dsimp only at r0 r1 r2 r3 r4 r5 r6
          by_cases hlk : k < l.length
          · have k1 : (k : Int) < (l.length : Int) := by omega
            have k2 : IntKind.i64.wrap ((k : Int) + 1) = ((k + 1 : Nat) : Int) := by rw [IntKind.wrap_i64]; omega
            have hin : j ≤ l.length - (i + 1) := by have := HKJ.out; omega
            have hml := pairs_le (some ⟨g, 0, none⟩) n r l (by omega) hlt hin
            have hm2 : m ≤ 1099512676352 := by rw [HM.out]; exact hml
            obtain ⟨dv, hdv⟩ : ∃ dv, dd n l i k = dv := ⟨_, rfl⟩
            have hwi : wi (some ⟨g, 0, none⟩) dv r = decide (dv ≤ r) := rfl
            have hnx : pot (some ⟨g, 0, none⟩) n r l i ++ pin (some ⟨g, 0, none⟩) n r l i (j + 1) = (pot (some ⟨g, 0, none⟩) n r l i ++ pin (some ⟨g, 0, none⟩) n r l i j) ++ if dv ≤ r then [(i, k, dv)] else [] := by
              have hb2 := HKJ.out
              subst hb2
              simp only [pin, hdv, hwi, decide_eq_true_eq, List.append_assoc]
            have hat : dv ≤ r → tw[m]? = some (i, k, dv) := fun h => by
              have hb2 := HKJ.out
              subst hb2
              have := all_at (some ⟨g, 0, none⟩) n r l hlt hlk (by rw [hdv, hwi]; exact decide_eq_true h)
              rw [HTW.out, ← HM.out, hdv] at this
              exact this
            obtain ⟨b2, o2, hA2, hb2, hcells⟩ := (HY.out.its.below (HSQ.out.on HB.out).low).place (Nat.lt_of_le_of_lt (Nat.zero_le i) hlt)
            injection hA2 with hA2
            injection hA2 with e1 e2
            subst e1 e2
            obtain ⟨-, a1, a2, a3⟩ := hcells i hlt
            obtain ⟨-, b1, b2, b3⟩ := hcells k hlk
            have hmi : l[i] ∈ l := List.getElem_mem hlt
            have hmk : l[k] ∈ l := List.getElem_mem hlk
            obtain ⟨⟨id1, pt⟩, hp⟩ : ∃ p, l[i] = p := ⟨_, rfl⟩
            obtain ⟨⟨id2, qt⟩, hq⟩ : ∃ q, l[k] = q := ⟨_, rfl⟩
            rw [hp] at a1 a2 a3 hmi
            rw [hq] at b1 b2 b3 hmk
            dsimp only at a1 a2 a3 b1 b2 b3
            have hMd : M n pt.x qt.x = dv := by rw [← hdv, dd_is n l hlt hlk, hp, hq]
            have hbbw : bb < wr.heap.size := World.block_lt_of_cell? wr _ a1
            have HSX : Hid (∀ W, Below wr.heap.size wr W → Eight W w.heap.size bb (oo + i * 4) (oo + k * 4) n (some ⟨bb, oo, none⟩) l.length c pt qt) := Lib.hid fun W hW => by
              obtain ⟨q0, q1, -⟩ := rd_of ((HSQ.out.on HB.out).on hW).box
              have hc : ∀ (i : Nat), W.cell? ⟨bb, i, none⟩ = wr.cell? ⟨bb, i, none⟩ := fun i => hW.cell (p := ⟨bb, i, none⟩) hbbw
              exact ⟨q0, q1, (hc _).trans a1, (hc _).trans a2, (hc _).trans a3, (hc _).trans b1, (hc _).trans b2, (hc _).trans b3⟩
            have HD : Hid (∀ W, Below wr.heap.size wr W → Calls Try.prog 18 #[.int .i64 n, .agg #[.int .i64 pt.x.tag, .slice pt.a pt.x.vec.length pt.c, .string pt.x.str], .agg #[.int .i64 qt.x.tag, .slice qt.a qt.x.vec.length qt.c, .string qt.x.str]] W fun e w' => e = .returned (.int .i64 dv) ∧ Below wr.heap.size wr w') := Lib.hid fun W hW => by
              have hlow := ((HSQ.out.on HB.out).on hW).low
              have h := rdist_any n pt.a qt.a pt.c qt.c pt.x qt.x (HSS.out _ hmi) (HSS.out _ hmk) W (((HY.out.its.vec _ hmi).below hlow).more hlow.size) (((HY.out.its.vec _ hmk).below hlow).more hlow.size)
              rw [hMd] at h
              exact obj.on hW h
            obtain ⟨s0, s1, s2, s3, s4, s5, s6, s7⟩ := HSX.out wr (Below.refl _ _)
            have HNX := Lib.hid hnx
            have HAT := Lib.hid hat
            clear hnx hat hwi hml hcells hp hq hMd hmi hmk hdv a1 a2 a3 b1 b2 b3
            go_wp2_with (fail)
            go_region_held3 (fun W => W.cell? ⟨w.heap.size, 0, none⟩ = some (.int .i64 n) ∧ W.cell? ⟨w.heap.size, 1, none⟩ = some (.slice (some ⟨bb, oo, none⟩) l.length c) ∧ W.cell? ⟨bb, oo + i * 4 + 1, none⟩ = some (.int .i64 pt.x.tag) ∧ W.cell? ⟨bb, oo + i * 4 + 1 + 1, none⟩ = some (.slice pt.a pt.x.vec.length pt.c) ∧ W.cell? ⟨bb, oo + i * 4 + 1 + 2, none⟩ = some (.string pt.x.str) ∧ W.cell? ⟨bb, oo + k * 4 + 1, none⟩ = some (.int .i64 qt.x.tag) ∧ W.cell? ⟨bb, oo + k * 4 + 1 + 1, none⟩ = some (.slice qt.a qt.x.vec.length qt.c) ∧ W.cell? ⟨bb, oo + k * 4 + 1 + 2, none⟩ = some (.string qt.x.str))
              (((refine HSX.out _ ?_); repeat' (first | (with_reducible exact Below.refl _ _) | (with_reducible assumption) | (with_reducible refine Below.drew ?_) | (with_reducible refine below_drewN' ?_ _))))
              (first
                | (go_at_call 18; (with_reducible refine (HD.out _ (by repeat' (first | (with_reducible exact Below.refl _ _) | (with_reducible assumption) | (with_reducible refine Below.drew ?_) | (with_reducible refine below_drewN' ?_ _)))).mono ?_); rintro e w5 ⟨rfl, hb5⟩))
            have HB5 : Hid (Below w3.heap.size w3 w5) := Lib.hid (HB.out.trans (hb5.mono HB.out.size))
            have hsq5 := HSQ.out.on HB5.out
            obtain ⟨r0, r1, r2, r3, r4, r5, r6⟩ := rd_of hsq5.box
            dsimp only at r0 r1 r2 r3 r4 r5 r6
            by_cases hgt : dv > r
            · have HNT : Hid (pot (some ⟨g, 0, none⟩) n r l i ++ pin (some ⟨g, 0, none⟩) n r l i (j + 1) = pot (some ⟨g, 0, none⟩) n r l i ++ pin (some ⟨g, 0, none⟩) n r l i j) := Lib.hid (by rw [HNX.out, if_neg (by omega), List.append_nil])
              clear hsq5 HNX HAT HD HSX hb5
              go_wp2_with (fail)
              go_roundg (l.length - (k + 1))
              case measure => omega
              case rel => exact ⟨j + 1, k + 1, m, rfl, by have := HKJ.out; omega, by omega, rfl, by go_num, by rw [HNT.out]; exact HM.out, HB5.out⟩
            · have HNT : Hid (m + 1 = (pot (some ⟨g, 0, none⟩) n r l i ++ pin (some ⟨g, 0, none⟩) n r l i (j + 1)).length) := Lib.hid (by rw [HNX.out, if_pos (by omega)]; have h := HM.out; simp only [List.length_append, List.length_cons, List.length_nil] at h ⊢; omega)
              have hat := HAT.out (by omega)
              have hmN : m < N := by rw [← HNN.out]; exact (List.getElem?_eq_some_iff.1 hat).1
              obtain ⟨b3, o3, rfl, t0, t1, t2⟩ := pair_at hsq5.row hat
              dsimp only at t0 t1 t2
              have z1 : decide (m ≥ N) = false := decide_eq_false (by omega)
              have z2 : decide ((m : Int) ≥ (N : Int)) = false := decide_eq_false (by omega)
              have z3 : ¬ (m : Int) ≥ (N : Int) := by omega
              have z4 : (m : Int) < (N : Int) := by omega
              have e1 : ((i : Int) != (i : Int)) = false := by simp
              have e2 : ((k : Int) != (k : Int)) = false := by simp
              have e3 : (dv != dv) = false := by simp
              have m1 : IntKind.i64.wrap ((m : Int) + 1) = ((m + 1 : Nat) : Int) := by rw [IntKind.wrap_i64]; omega
              clear hsq5 HNX HAT HD HSX hb5 hat
              go_wp2_with (fail)
              go_roundg (l.length - (k + 1))
              case measure => omega
              case rel => exact ⟨j + 1, k + 1, m + 1, rfl, by have := HKJ.out; omega, by omega, rfl, by go_num, HNT.out, HB5.out⟩
          · have hkl : k = l.length := by omega
            have hja : j = l.length - (i + 1) := by have := HKJ.out; omega
            have HEQ : Hid (m = (pot (some ⟨g, 0, none⟩) n r l (i + 1)).length) := Lib.hid (by rw [HM.out, hja]; rfl)
            have k1 : ¬ (k : Int) < (l.length : Int) := by omega
            clear hja hkl
            go_wp2_with (fail)
            go_roundg (l.length - (i + 1))
            case measure => omega
            case rel => exact ⟨i + 1, m, rfl, by omega, rfl, by go_num, HEQ.out, HB.out⟩
      · have hil : i = l.length := by omega
        have hmN : m = N := by rw [HM.out, hil, HTW.out, HNN.out]
        have i1 : ¬ (i : Int) < (l.length : Int) := by omega
        have e1 : ((N : Int) == (N : Int)) = true := by simp
        have hpc := pc_all l.length
        obtain ⟨Q, hQ⟩ : ∃ Q, ((pc l.length l.length : Nat) : Int) = Q := ⟨_, rfl⟩
        rw [hQ] at hpc HSQ
        have e2 : (Q == Q) = true := by simp
        obtain ⟨L1, hL1⟩ : ∃ L1, L1 = (l.length : Int) - 1 := ⟨_, rfl⟩
        have n1 : IntKind.i64.wrap ((l.length : Int) - 1) = L1 := by rw [IntKind.wrap_i64]; omega
        rw [← hL1] at hpc
        have hpb : (l.length : Int) * L1 ≤ 30 * 30 ∧ -30 ≤ (l.length : Int) * L1 := by
          rw [hL1]
          have h2 : (l.length : Int) * ((l.length : Int) - 1) ≤ 30 * 30 := by
            rcases Nat.eq_zero_or_pos l.length with h | h
            · rw [h]; decide
            · exact Int.mul_le_mul (by omega) (by omega) (by omega) (by omega)
          have h3 : 0 ≤ (l.length : Int) * ((l.length : Int) - 1) := by
            rcases Nat.eq_zero_or_pos l.length with h | h
            · rw [h]; decide
            · exact Int.mul_nonneg (by omega) (by omega)
          omega
        obtain ⟨P, hP⟩ : ∃ P, (l.length : Int) * L1 = P := ⟨_, rfl⟩
        have n2 : IntKind.i64.wrap ((l.length : Int) * L1) = P := by rw [hP, IntKind.wrap_i64]; omega
        rw [hP] at hpc
        have hqb : 0 ≤ Q ∧ Q ≤ 900 := by
          have h1 := pc_le l.length l.length (Nat.le_refl _)
          have h2 : l.length * l.length ≤ 30 * 30 := Nat.mul_le_mul (by omega) (by omega)
          omega
        have n3 : IntKind.i64.wrap (P.tdiv 2) = Q := by rw [hpc, IntKind.wrap_i64]; omega
        have HCA : Hid (∀ W, Sq w W ⟨n, A, c, l, q, r, kk⟩ g Q A2 tw → Calls Try.prog 12 #[.pointer (some ⟨g, 0, none⟩)] W fun e w' => e = .returned (.int .i64 Q) ∧ Sq w w' ⟨n, A, c, l, q, r, kk⟩ g Q A2 tw) := Lib.hid fun W h =>
          (calls_any W h.mt).mono fun e w' ⟨he, hw⟩ => ⟨he, hw ▸ h⟩
        have HLI : Hid (∀ W, Sq w W ⟨n, A, c, l, q, r, kk⟩ g Q A2 tw → Calls Try.prog 7 #[] W fun e w' => e = .returned (.bool true) ∧ Sq w w' ⟨n, A, c, l, q, r, kk⟩ g Q A2 tw) := Lib.hid fun W h =>
          (lives_any W).mono fun e w' ⟨he, hb⟩ => ⟨he, h.on hb⟩
        have HRD : Hid (∀ W, Sq w W ⟨n, A, c, l, q, r, kk⟩ g Q A2 tw → W.cell? ⟨w.heap.size, 1, none⟩ = some (.slice A l.length c)) := Lib.hid fun W h => (rd_of h.box).2.1
        have hsq := HSQ.out.on HB.out
        have HPP := Lib.hid hP
        have HLL := Lib.hid hL1
        have HQQ := Lib.hid hQ
        clear hP hL1 hQ hil HB HSQ HM HTW HNN hpb hpc hqb
        subst hmN
        go_wp2_with (fail)
        go_region_held3 (fun W => W.cell? ⟨w.heap.size, 1, none⟩ = some (.slice A l.length c))
          ((refine HRD.out _ ?_; (repeat' (first | (with_reducible assumption) | (with_reducible refine Sq.drew ?_) | (with_reducible refine Sq.drewN ?_ _))); done))
          (first
            | (go_at_call 12; (with_reducible refine (HCA.out _ (by (repeat' (first | (with_reducible assumption) | (with_reducible refine Sq.drew ?_) | (with_reducible refine Sq.drewN ?_ _))))).mono ?_); rintro e w5 ⟨rfl, hq5⟩)
            | (go_at_call 7; (with_reducible refine (HLI.out _ (by (repeat' (first | (with_reducible assumption) | (with_reducible refine Sq.drew ?_) | (with_reducible refine Sq.drewN ?_ _))))).mono ?_); rintro e w6 ⟨rfl, hq6⟩))
        have HE := Lib.hid hq6.low
        clear hq5 hq6 hsq
        go_wp2_with (fail)
        go_ret
        exact ⟨rfl, HE.out⟩

theorem lifted (os : Os) (started : os.Started) (H : Type) (enc : TypeId × Value → H) :
    ReturnsInHanded {} Try.checked os 4 .any (Rows.scanPairsSpec.pre6 enc Try.prog Try.f4 Rows.scanPairsRow.domain false) (Rows.scanPairsSpec.post enc Try.prog Try.f4 false true false false) := by
  refine lift (C := Try.checked) (by kernel_rfl) started (by kernel_rfl) Try.func4 rfl (by kernel_rfl) (by kernel_rfl) rfl Try.underlying4
    (fun ds hd => by match ds, hd with | [_], _ => exact ⟨rfl, rfl, rfl⟩)
    (ChangeSpec.witness6 (enc := enc) (C := Try.checked) false ⟨#[], #[.agg #[.int .i64 0, .slice none 0 0, .int .i64 0, .slice none 0 0, .string ⟨#[]⟩, .int .i64 0, .int .i64 0]], []⟩ 8 (by kernel_rfl) (by kernel_rfl) (by kernel_rfl) (by kernel_rfl)) ?_
  intro W base args ds before hval0 hA0 hfz hsz0
  have hval : ∀ (j : Nat) t v, Try.f4.params[j]? = some t → args[j]? = some v → Value.okWide Try.prog W .any base t v := hval0
  have hA : DataW.TrodAll enc Try.prog W 0 (fun _ => true) true Try.f4.params.toList args.toList ds before := hA0
  have hsz : (DataW.weightsEach Try.prog Try.f4.params.toList ds).all (· ≤ reachBytes) = true := hsz0
  rw [Try.params4] at hA hval hsz
  obtain ⟨v0, vs0, d0, ds0, p0, q0, hargs, rfl, rfl, h0, r0⟩ := trodAll_cons hA
  obtain ⟨rfl, rfl, rfl⟩ := trodAll_nil r0
  obtain rfl : args = #[v0] := by cases args; simp_all
  obtain ⟨a, rfl, hy⟩ := open_ask (hval 0 27 v0 rfl rfl) h0
  exact walk a W hy

theorem proved : Rows.ScanPairsSaid :=
  OpenClaim.holds_of_wide 4 Try.f4 rfl rfl rfl rfl rfl rfl rfl ⟨rfl, rfl, rfl, rfl, rfl⟩ rfl rfl rfl rfl rfl (by kernel_rfl) Try.func4 (by kernel_rfl)
    (of_decide_eq_true (by kernel_rfl)) (by unfold Func.isWrapper; first | (rw [if_pos (by decide +kernel)]; kernel_rfl) | (rw [if_neg (by decide +kernel)]; exact ⟨rfl, rfl⟩))
    (fun os started H enc _ => lifted os started H enc)
#print axioms proved
end Go.Proofs.Ytimkbadjcdnjjaa.scanPairs
