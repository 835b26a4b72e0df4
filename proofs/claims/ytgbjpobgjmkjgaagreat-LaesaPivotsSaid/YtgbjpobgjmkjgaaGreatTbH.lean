/-
  The contract of Range, walked.
-/
import Derived.Test.YtgbjpobgjmkjgaaGreatTbG
namespace Go.Proofs.YtgbjpobgjmkjgaaGreat.tab
open Go.RowKit Go.WideShapes law bytes only flat nums ord obj metric pv lae Go.Maps
open fro (Ent ec ec_len entE)
open ens (Ord)
open hit (Hit hv hc sortH)
open best (Be keep)
open told (own_types blk_types)
set_option linter.unusedVariables false

theorem entAt {w : World} {B : Nat} {A : Option Addr} {l : List Ent} {k : Nat} (h : Sl w B A (l.flatMap ec)) (hk : k < l.length) : ∃ b o, A = some ⟨b, o, none⟩ ∧ b < B ∧
    w.cell? ⟨b, o + k * 3, none⟩ = some (.int .i64 l[k].1) ∧ w.cell? ⟨b, o + k * 3 + 1, none⟩ = some (.int .i64 l[k].2.1) ∧ w.cell? ⟨b, o + k * 3 + 2, none⟩ = some (.int .u64 l[k].2.2) := by
  have hl : (l.flatMap ec).length = l.length * 3 := flat_length ec_len l
  obtain ⟨b, o, rfl, hb, hc⟩ := Sl.place h (by omega)
  refine ⟨b, o, rfl, hb, ?_⟩
  have g := fun j (hj : j < 3) => flat_get ec_len l k j hk hj
  have q : ∀ j (hj : j < 3) u, (ec l[k])[j]? = some u → w.cell? ⟨b, o + (k * 3 + j), none⟩ = some u := fun j hj u hu => by
    have l0 : k * 3 + j < (l.flatMap ec).length := by omega
    have := (List.getElem?_eq_getElem l0).symm.trans ((g j hj).trans hu)
    rw [← Option.some.inj this]
    exact hc _ l0
  exact ⟨q 0 (by omega) _ rfl, by rw [Nat.add_assoc]; exact q 1 (by omega) _ rfl, by rw [Nat.add_assoc]; exact q 2 (by omega) _ rfl⟩
section
variable {w w' : World} {base tb g mb : Nat} {n k most : Int} {T S : Nat → Prop} {vP vR : Value} {P : List At} {R : List Ro} {r : Ro}
set_option maxRecDepth 100000 in
set_option maxHeartbeats 3200000 in
theorem range_any (h : Tx w base tb g mb n k most T vP vR P R) (x : At) (hx : Small x.x) (hs : Sl w w.heap.size x.a (iv x.x.vec)) (hk : 0 ≤ k ∧ k ≤ 4611686018427387904) (hP : P.length ≤ 1048576) (hR : R.length ≤ 1048576) (rr : Int) :
    Calls Tryz.prog 37 #[.pointer (some ⟨tb, 0, none⟩), .agg #[.int .i64 x.x.tag, .slice x.a x.x.vec.length x.c, .string x.x.str], .int .i64 rr] w (Ranged w g n k P R x.x rr) := by
  obtain ⟨AR, cR, rfl, hcR⟩ := own_slice h.rows
  obtain ⟨V, hV⟩ : ∃ V, V = w.alloc (.cells #[.int .i64 x.x.tag, .slice x.a x.x.vec.length x.c, .string x.x.str] 35) := ⟨_, rfl⟩
  have hbV : Below w.heap.size w V := by rw [hV]; exact (Below.refl _ _).alloc (Nat.le_refl _) _
  have hkx : Blk V w.heap.size 35 #[.int .i64 x.x.tag, .slice x.a x.x.vec.length x.c, .string x.x.str] := by rw [hV]; exact Blk.new w _ _
  have hzV : V.heap.size = w.heap.size + 1 := by rw [hV]; simp
  obtain ⟨q0, q1, q2, -⟩ := cells3 hkx
  have HMB : Hid (Calls Tryz.prog 70 #[.pointer (some ⟨tb, 0, none⟩), .agg #[.int .i64 x.x.tag, .slice x.a x.x.vec.length x.c, .string x.x.str], .int .i64 rr] V (Maybe V g n k P R x.x rr)) :=
    Lib.hid (maybe_any (h.below hbV) x hx ((hs.below hbV).more (by omega)) ⟨hk.1, by omega⟩ hP hR rr)
  have HH := Lib.hid (And.intro h (And.intro hs (And.intro hx hk)))
  have HX := Lib.hid (And.intro hkx (And.intro hbV hzV))
  have HV := Lib.hid hV
  have HK := Lib.hid (And.intro hP hR)
  have HGL : Hid (g < w.heap.size) := Lib.hid h.mt.lt
  clear h hs hx hk hkx hbV hzV hV hcR hP hR
  rw [HV.out] at q0 q1 q2
  go_enter Tryz.func37, Tryz.ntmps37
  go_wp2_with (fail)
  rw [← HV.out]
  refine HMB.out.mono ?_
  rintro e w3 ⟨A, c, es, rfl, hord, haw, hO3, hM3⟩
  have hel : es.length ≤ 1048576 := by rw [hord.1.length_eq]; have := cnd_len (nr n P x.x) rr R R.length; have := HK.out.2; omega
  have HNB := Lib.hid (best.new_any (es.length : Int) w3)
  have H3 : Hid (Ord (cnd (nr n P x.x) rr R R.length) es ∧ Away w3 (· = g) A (es.flatMap ec) ∧ Only (· = g) w w3 ∧ Mt w3 g n (k + P.length) ∧ Blk w3 w.heap.size 35 #[.int .i64 x.x.tag, .slice x.a x.x.vec.length x.c, .string x.x.str] ∧ g < w3.heap.size ∧ w.heap.size + 1 ≤ w3.heap.size) := Lib.hid
    ⟨hord, haw, (Only.of_below HX.out.2.1 (Nat.le_refl _) _).trans hO3 fun i e => .inl e, hM3, Blk.only HX.out.1 hO3 (by have := HGL.out; omega), hM3.lt, by have := hO3.size; have := HX.out.2.2; omega⟩
  clear hord haw hO3 hM3 HMB q0 q1 q2 HV HX
  have hl63 : (es.length : Int) < 9223372036854775807 := by omega
  go_wp2_with (fail)
  refine HNB.out.mono ?_
  rintro e w4 ⟨bb, Tb, rfl, hb4, hB4⟩
  have H4 : Hid (RaS w w3 g n (k + P.length) x.x R rr es bb 0 w4) := Lib.hid ⟨Tb, hB4, H3.out.2.2.1.on hb4, Only.of_below hb4 (Nat.le_refl _) _, by rw [show k + (P.length : Int) + ((0 : Nat) : Int) = k + P.length by simp]; exact Mt.below H3.out.2.2.2.1 hb4 H3.out.2.2.2.2.2.1⟩
  clear hb4 hB4 HNB
  go_wp2_with (fail)
  go_loopg [24] es.length (fun gk s24 wr => ∃ i : Nat, gk = es.length - i ∧ i ≤ es.length ∧ s24 = .int .i64 i ∧ RaS w w3 g n (k + P.length) x.x R rr es bb i wr)
  case atStart => exact ⟨0, rfl, Nat.zero_le _, rfl, H4.out⟩
  case round =>
    clear H4
    obtain ⟨i, rfl, hi, rfl, hra⟩ := hrel
    by_cases hlt : i < es.length
    · have i1 : (i : Int) < (es.length : Int) := by omega
      have hra0 := hra
      obtain ⟨Tb0, hB, hOw, hO3, hMt⟩ := hra0
      have hT := HH.out.1.asked hOw hMt
      obtain ⟨bE, oE, rfl, hbE, d0, d1, d2⟩ := entAt ((H3.out.2.1.step (T2 := (· = g)) hO3 fun i _ e => e).sl) hlt
      have hmem : es[i] ∈ cnd (nr n P x.x) rr R R.length := H3.out.1.1.subset (List.getElem_mem hlt)
      obtain ⟨j, -, hj, hxe, -⟩ := cnd_mem hmem
      have hadd := fun W => hra.added (W := W) (k0 := k + P.length)
      have hask := fun W => hra.asked (W := W) (k0 := k + P.length)
      have hhof : hof n x.x R es[i] = (R[j].id, M n x.x R[j].t.x) := by
        rw [hxe]
        unfold hof
        simp [hj]
      rw [hxe] at d0 d1 d2
      obtain ⟨gR, cR', hv', hg1, hg2, -⟩ := own_form hT.rows (by omega)
      injection hv' with e1 e2 e3
      subst e1 e3
      obtain ⟨ro, hr⟩ : ∃ ro, R[j] = ro := ⟨_, rfl⟩
      have hrx := hT.rx ro (by rw [← hr]; exact List.getElem_mem hj)
      have hrow := hT.rows
      rw [hr] at hhof d0 d1 d2
      have hblk := hrx.blk
      unfold roC at hblk
      obtain ⟨y, hy⟩ : ∃ y, nr n P x.x ro = y := ⟨_, rfl⟩
      simp only [hy] at d0 d1 d2
      obtain ⟨V2, hV2⟩ : ∃ V2, V2 = wr.alloc (.cells #[.int .i64 y, .int .i64 j, .int .u64 ro.id] 126) := ⟨_, rfl⟩
      have hb2 : Below wr.heap.size wr V2 := by rw [hV2]; exact (Below.refl _ _).alloc (Nat.le_refl _) _
      have hk2 : Blk V2 wr.heap.size 126 #[.int .i64 y, .int .i64 j, .int .u64 ro.id] := by rw [hV2]; exact Blk.new wr _ _
      have hbx : Blk wr w.heap.size 35 #[.int .i64 x.x.tag, .slice x.a x.x.vec.length x.c, .string x.x.str] := Blk.only H3.out.2.2.2.2.1 hO3 (by have := HGL.out; omega)
      have hsz3 : w3.heap.size ≤ wr.heap.size := hO3.size
      have HSS : Hid (∀ W, Only (· = g) V2 W → W.cell? ⟨tb, 0, none⟩ = some (.pointer (some ⟨g, 0, none⟩)) ∧ W.cell? ⟨tb, 3, none⟩ = some (.slice (some ⟨gR, 0, none⟩) R.length cR) ∧ W.cell? ⟨w.heap.size, 0, none⟩ = some (.int .i64 x.x.tag) ∧ W.cell? ⟨w.heap.size, 1, none⟩ = some (.slice x.a x.x.vec.length x.c) ∧ W.cell? ⟨w.heap.size, 2, none⟩ = some (.string x.x.str) ∧
          W.cell? ⟨wr.heap.size, 1, none⟩ = some (.int .i64 j) ∧ W.cell? ⟨gR, j, none⟩ = some (.pointer (some ⟨ro.b, 0, none⟩)) ∧ W.cell? ⟨ro.b, 1, none⟩ = some (.int .i64 ro.t.x.tag) ∧ W.cell? ⟨ro.b, 2, none⟩ = some (.slice ro.t.a ro.t.x.vec.length ro.t.c) ∧ W.cell? ⟨ro.b, 3, none⟩ = some (.string ro.t.x.str) ∧ W.cell? ⟨wr.heap.size, 2, none⟩ = some (.int .u64 ro.id)) := Lib.hid fun W hW => by
        have hgg := HGL.out
        have hgb := hT.gb
        have hlow := hT.low
        have hcl : ∀ i, base ≤ i → ¬ i = g := fun i hi e => by omega
        have b1 := Blk.only (hT.blk.below hb2 hT.blk.lt) hW (hcl _ (hlow _ hT.tt).1)
        have b2 := Blk.only (hbx.below hb2 hbx.lt) hW (by omega)
        have b3 := Blk.only hk2 hW (by omega)
        have b4 := own_only (own_below hrow hb2 (Nat.le_refl _)) hW fun i e => hcl i (own_lt hrow e).1
        have b5 := Blk.only (hblk.below hb2 hblk.lt) hW (hcl _ hrx.low)
        refine ⟨b1.cell 0, b1.cell 3, b2.cell 0, b2.cell 1, b2.cell 2, b3.cell 1, ?_, b5.cell 1, b5.cell 2, b5.cell 3, b3.cell 2⟩
        rw [World.ownsRow.cellAt b4 j (by omega)]
        simp [pts, hj, hr, ptr]
      have HUP : Hid (∀ W, Below V2.heap.size V2 W → Calls Tryz.prog 75 #[.pointer (some ⟨g, 0, none⟩), .agg #[.int .i64 x.x.tag, .slice x.a x.x.vec.length x.c, .string x.x.str], .agg #[.int .i64 ro.t.x.tag, .slice ro.t.a ro.t.x.vec.length ro.t.c, .string ro.t.x.str], .int .i64 rr] W fun e w2 => e = .returned (.tuple #[.int .i64 (ups (M n x.x ro.t.x) rr), .bool (decide (M n x.x ro.t.x ≤ rr))]) ∧ Only (· = g) V2 w2 ∧
          Hid ((¬ M n x.x ro.t.x ≤ rr → RaS w w3 g n (k + P.length) x.x R rr es bb (i + 1) w2) ∧ (M n x.x ro.t.x ≤ rr → Calls Tryz.prog 76 #[.pointer (some ⟨bb, 0, none⟩), .agg #[.int .u64 ro.id, .int .i64 (M n x.x ro.t.x)]] w2 fun e w' => (∃ b, e = .returned (.bool b)) ∧ RaS w w3 g n (k + P.length) x.x R rr es bb (i + 1) w'))) := Lib.hid fun W hW => by
        have hgg := HGL.out
        have hbW : Below wr.heap.size wr W := hb2.trans (hW.mono hb2.size)
        have hgW : w.grownBy wr (some g) := ⟨hOw.os, hOw.tape, hOw.output, hOw.size, fun i hi hne => hOw.block i hi fun e => hne (by rw [e])⟩
        have hxs := ((HH.out.1.mt.past HH.out.2.1 hgW).below hbW).more hbW.size
        have hrs := (hrx.vec.sl.below hbW).more hbW.size
        have hkb := HH.out.2.2.2
        have hPb := HK.out.1
        refine (cupto_any x.a ro.t.a x.c ro.t.c x.x ro.t.x HH.out.2.2.1 hrx.bf.small W hxs hrs (hMt.below hbW hMt.lt) (by omega) rr).mono fun e w2 ⟨he, hgr, hm2⟩ => ?_
        have hg : Only (· = g) W w2 := Only.of_grown hgr fun j e => .inl (by injection e with e; exact e.symm)
        have hgw : Only (· = g) wr w2 := (Only.of_below hbW (Nat.le_refl _) _).trans hg fun i e => .inl e
        refine ⟨he, (Only.of_below hW (Nat.le_refl _) _).trans hg fun i e => .inl e, Lib.hid ⟨fun hn => hask w2 hgw hm2 H3.out.2.2.2.2.2.1 hlt (by rw [hhof]; exact hn), fun hn => ?_⟩⟩
        have := hadd w2 hgw hm2 H3.out.2.2.2.2.2.1 hlt (by rw [hhof]; exact hn) hel (by have := H3.out.2.2.2.2.2.2; omega) w2 (Below.refl _ _)
        rw [hhof] at this
        exact this
      have HV2 := Lib.hid hV2
      have i2 : (j : Int) < (R.length : Int) := by omega
      clear hadd hask hT hB hOw hO3 hMt hra hmem hxe hhof hrx hrow hblk hb2 hk2 hbx hg1 hg2 hr hy hV2 hsz3 hbE
      generalize hd : M n x.x ro.t.x = d at HUP
      clear hd
      by_cases hdr : d ≤ rr
      · have e0 : ups d rr = d := if_pos hdr
        rw [e0, decide_eq_true hdr] at HUP
        have HD := Lib.hid hdr
        clear e0 hdr
        go_wp2_with (fail)
        rw [← HV2.out]
        clear HV2 d0 d1 d2
        obtain ⟨z, hz⟩ : ∃ z, z = wr.heap.size := ⟨_, rfl⟩
        rw [← hz] at HSS ⊢
        clear hz
        obtain ⟨p0, p1, p2, p3, p4, p5, p6, p7, p8, p9, p10⟩ := HSS.out V2 (Only.refl _ _)
        go_region_held3 (fun W => W.cell? ⟨tb, 0, none⟩ = some (.pointer (some ⟨g, 0, none⟩)) ∧ W.cell? ⟨tb, 3, none⟩ = some (.slice (some ⟨gR, 0, none⟩) R.length cR) ∧ W.cell? ⟨w.heap.size, 0, none⟩ = some (.int .i64 x.x.tag) ∧ W.cell? ⟨w.heap.size, 1, none⟩ = some (.slice x.a x.x.vec.length x.c) ∧ W.cell? ⟨w.heap.size, 2, none⟩ = some (.string x.x.str) ∧
          W.cell? ⟨z, 1, none⟩ = some (.int .i64 j) ∧ W.cell? ⟨gR, j, none⟩ = some (.pointer (some ⟨ro.b, 0, none⟩)) ∧ W.cell? ⟨ro.b, 1, none⟩ = some (.int .i64 ro.t.x.tag) ∧ W.cell? ⟨ro.b, 2, none⟩ = some (.slice ro.t.a ro.t.x.vec.length ro.t.c) ∧ W.cell? ⟨ro.b, 3, none⟩ = some (.string ro.t.x.str) ∧ W.cell? ⟨z, 2, none⟩ = some (.int .u64 ro.id))
          ((first | (with_reducible assumption) | (refine HSS.out _ ?_; repeat' (first | (with_reducible assumption) | (with_reducible exact Only.refl _ _) | (with_reducible refine Only.drew ?_) | (with_reducible refine Only.drewN ?_ _)))))
          (first
          | (go_at_call 75; (with_reducible refine (HUP.out _ (by repeat' (first | (with_reducible exact Below.refl _ _) | (with_reducible assumption) | (with_reducible refine Below.drew ?_) | (with_reducible refine below_drewN' ?_ _)))).mono ?_); rintro e w2 ⟨rfl, hO2, hX2⟩))
        all_goals
          have r10 := (HSS.out _ hO2).2.2.2.2.2.2.2.2.2.2
          have HA := Lib.hid (hX2.out.2 HD.out)
          clear hX2 hO2 p0 p1 p2 p3 p4 p5 p6 p7 p8 p9 p10 HSS HUP
          go_wp2_with (fail)
          refine HA.out.mono ?_
          rintro e w5 ⟨⟨b, rfl⟩, hra⟩
          have HRA := Lib.hid hra
          clear HA hra
          go_wp2_with (fail)
          go_roundg (es.length - (i + 1))
          case measure => omega
          case rel => exact ⟨i + 1, rfl, by omega, by go_num, HRA.out⟩
      · rw [decide_eq_false hdr] at HUP
        generalize ups d rr = u at HUP
        have HD := Lib.hid hdr
        clear hdr
        go_wp2_with (fail)
        rw [← HV2.out]
        clear HV2 d0 d1 d2
        obtain ⟨z, hz⟩ : ∃ z, z = wr.heap.size := ⟨_, rfl⟩
        rw [← hz] at HSS ⊢
        clear hz
        obtain ⟨p0, p1, p2, p3, p4, p5, p6, p7, p8, p9, p10⟩ := HSS.out V2 (Only.refl _ _)
        go_region_held3 (fun W => W.cell? ⟨tb, 0, none⟩ = some (.pointer (some ⟨g, 0, none⟩)) ∧ W.cell? ⟨tb, 3, none⟩ = some (.slice (some ⟨gR, 0, none⟩) R.length cR) ∧ W.cell? ⟨w.heap.size, 0, none⟩ = some (.int .i64 x.x.tag) ∧ W.cell? ⟨w.heap.size, 1, none⟩ = some (.slice x.a x.x.vec.length x.c) ∧ W.cell? ⟨w.heap.size, 2, none⟩ = some (.string x.x.str) ∧
          W.cell? ⟨z, 1, none⟩ = some (.int .i64 j) ∧ W.cell? ⟨gR, j, none⟩ = some (.pointer (some ⟨ro.b, 0, none⟩)) ∧ W.cell? ⟨ro.b, 1, none⟩ = some (.int .i64 ro.t.x.tag) ∧ W.cell? ⟨ro.b, 2, none⟩ = some (.slice ro.t.a ro.t.x.vec.length ro.t.c) ∧ W.cell? ⟨ro.b, 3, none⟩ = some (.string ro.t.x.str) ∧ W.cell? ⟨z, 2, none⟩ = some (.int .u64 ro.id))
          ((first | (with_reducible assumption) | (refine HSS.out _ ?_; repeat' (first | (with_reducible assumption) | (with_reducible exact Only.refl _ _) | (with_reducible refine Only.drew ?_) | (with_reducible refine Only.drewN ?_ _)))))
          (first
          | (go_at_call 75; (with_reducible refine (HUP.out _ (by repeat' (first | (with_reducible exact Below.refl _ _) | (with_reducible assumption) | (with_reducible refine Below.drew ?_) | (with_reducible refine below_drewN' ?_ _)))).mono ?_); rintro e w2 ⟨rfl, hO2, hX2⟩))
        all_goals
          have HRA := Lib.hid (hX2.out.1 HD.out)
          clear hX2 hO2 p0 p1 p2 p3 p4 p5 p6 p7 p8 p9 p10 HSS HUP
          go_wp2_with (fail)
          go_roundg (es.length - (i + 1))
          case measure => omega
          case rel => exact ⟨i + 1, rfl, by omega, by go_num, HRA.out⟩
    · obtain rfl : i = es.length := by omega
      have i1 : ¬ (es.length : Int) < (es.length : Int) := by omega
      have HL : Hid (Calls Tryz.prog 77 #[.pointer (some ⟨bb, 0, none⟩)] wr (Ranged w g n k P R x.x rr)) := Lib.hid (by
        obtain ⟨Tb, hB, hOw, hO3, hMt⟩ := hra
        have hwl := win_len n x.x R rr (es.take es.length)
        rw [List.take_length] at hB hwl
        have hwp : (win n x.x R rr es).Perm (nrs n x.x R rr) := by
          have h1 := win_perm (n := n) (q := x.x) (R := R) (r := rr) H3.out.1.1
          rw [win_cnd, List.take_length] at h1
          exact h1
        have hke : keep (es.length : Int) (win n x.x R rr es) = sortH (nrs n x.x R rr) := by
          rw [keep_all hwl, hit.sortH_of_perm hwp]
        refine (best.list_any hB (by omega)).mono fun e w' ⟨A, c, he, hown, hb⟩ => ?_
        rw [hke] at he hown
        refine ⟨A, c, he, pv.own_base hown hOw.size, hOw.on hb, ?_⟩
        have e1 : es.length = (cnd (nr n P x.x) rr R R.length).length := H3.out.1.1.length_eq
        have e2 : k + ((P.length + (cnd (nr n P x.x) rr R R.length).length : Nat) : Int) = k + (P.length : Int) + (es.length : Nat) := by rw [e1]; push_cast; omega
        rw [e2]
        exact hMt.below hb hMt.lt)
      clear hra
      go_wp2_with (fail)
      refine HL.out.mono ?_
      rintro e w5 hr
      have hr2 := hr
      obtain ⟨A5, c5, rfl, -⟩ := hr2
      have HR := Lib.hid hr
      clear hr HL
      go_wp2_with (fail)
      go_ret
      exact HR.out
end
end Go.Proofs.YtgbjpobgjmkjgaaGreat.tab
