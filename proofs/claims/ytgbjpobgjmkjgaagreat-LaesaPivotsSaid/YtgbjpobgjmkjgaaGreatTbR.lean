/-
  The contract of addPivot, walked.
-/
import Derived.Test.YtgbjpobgjmkjgaaGreatTbQ
import Derived.Deep.Cut
import Derived.Deep.CutRange
namespace Go.Proofs.YtgbjpobgjmkjgaaGreat.tab
open Go.RowKit Go.WideShapes law bytes only flat nums ord obj metric pv lae Go.Maps
open told (own_types blk_types)
set_option linter.unusedVariables false

section
variable {w w' : World} {base tb g mb B i : Nat} {n k most : Int} {T S X : Nat → Prop} {vP vR : Value} {P : List At} {x : At} {R D : List Ro} {r : Ro} {A : Option Addr} {xs : List Value}
set_option maxRecDepth 100000 in
set_option maxHeartbeats 12800000 in
theorem addPivot_any {Bx : Nat} (h : Tx w base tb g mb n k most T vP vR P R) (hbf : Bf x.x) (hx : w.ownsRow Bx 21 1 (.slice x.a x.x.vec.length x.c) x.x.vec.length (iv x.x.vec)) (hBx : base ≤ Bx) (hP : P.length ≤ 1048576) (hR : R.length ≤ 1048576) (hk : 0 ≤ k ∧ k ≤ 4611686018427387904) :
    Calls Tryz.prog 91 #[.pointer (some ⟨tb, 0, none⟩), .agg #[.int .i64 x.x.tag, .slice x.a x.x.vec.length x.c, .string x.x.str]] w (PivAdded w base tb g mb n k most T vR P R x) := by
  obtain ⟨AP, cP, rfl, hcP⟩ := own_slice h.piv
  obtain ⟨AR, cR, rfl, hcR⟩ := own_slice h.rows
  obtain ⟨V, hV⟩ : ∃ V, V = w.alloc (.cells #[.int .i64 x.x.tag, .slice x.a x.x.vec.length x.c, .string x.x.str] 35) := ⟨_, rfl⟩
  have hbV : Below w.heap.size w V := by rw [hV]; exact (Below.refl _ _).alloc (Nat.le_refl _) _
  have hkx : Blk V w.heap.size 35 #[.int .i64 x.x.tag, .slice x.a x.x.vec.length x.c, .string x.x.str] := by rw [hV]; exact Blk.new w _ _
  have hzV : V.heap.size = w.heap.size + 1 := by rw [hV]; simp
  have hV1 := h.below hbV
  have hxV := own_below hx hbV (Nat.le_refl _)
  have htl := (h.low _ h.tt).2
  have hgl := h.mt.lt
  obtain ⟨-, -, c2, -⟩ := hV1.cells
  have c2a : (V.alloc (.cells #[.int .i64 x.x.tag, .slice x.a x.x.vec.length x.c, .string x.x.str] 35)).cell? ⟨tb, 2, none⟩ = some (.slice AP P.length cP) := (World.cell?_alloc_lt V _ ⟨tb, 2, none⟩ (show tb < V.heap.size by omega)).trans c2
  obtain ⟨q0, q1, q2, -⟩ := cells3 hkx
  have HF : Hid (∀ w2 v4, ((V.drewN 1).alloc (.cells #[.int .i64 x.x.tag, .slice x.a x.x.vec.length x.c, .string x.x.str] 35)).grownBy w2 (Value.slice AP P.length cP).ownBlock → (v4.ownBlock = (Value.slice AP P.length cP).ownBlock ∨ v4.ownBlock = some (V.heap.size + 1)) →
      w2.ownsRow base 35 3 v4 (P.length + 1) (ocs P ++ oc x) → w2.cell? ⟨tb, 2, none⟩ = some (.slice AP P.length cP) ∧ w2.frozen? ⟨tb, 2, none⟩ = false ∧
        Hid (Mid (w2.setCell ⟨tb, 2, none⟩ v4) base tb g mb n (k + (0 : Nat)) most T w.heap.size (Xv x) v4 (.slice AR R.length cR) P x R [] 0 ∧ Only (fun i => i = g ∨ T i) w (w2.setCell ⟨tb, 2, none⟩ v4) ∧ Blk (w2.setCell ⟨tb, 2, none⟩ v4) w.heap.size 35 #[.int .i64 x.x.tag, .slice x.a x.x.vec.length x.c, .string x.x.str])) := Lib.hid fun w2 v4 hg hv4 hrow => by
    have ho : Only (fun i => (Value.slice AP P.length cP).ownBlock = some i) V w2 := ((Only.refl _ V).drew.alloc _).trans (Only.of_grown hg fun j e => .inl e) fun j e => .inl e
    have b1 := Blk.only hV1.blk ho (blk_types hV1.piv hV1.blk (by decide))
    obtain ⟨hm, hO⟩ := hV1.mid (x := x) hbf hxV hBx ho hrow (hv4.imp (fun e => e) fun e => ⟨_, e, by omega⟩)
    have hm2 : Mid (w2.setCell ⟨tb, 2, none⟩ v4) base tb g mb n (k + (0 : Nat)) most T w.heap.size (Xv x) v4 (.slice AR R.length cR) P x R [] 0 := by
      have e : k + ((0 : Nat) : Int) = k := by simp
      rw [e]
      have hT' : ∀ i, Mr V.heap.size T (Xv x) (w2.setCell ⟨tb, 2, none⟩ v4) i → Mr w.heap.size T (Xv x) (w2.setCell ⟨tb, 2, none⟩ v4) i := fun i e => e.imp (fun e => e) fun e => e.imp (fun e => e) fun e => ⟨by omega, e.2⟩
      exact { hm with done := fun r hr => (hm.done r hr).mono hT', vecP := fun p hp => (hm.vecP p hp).mono hT', baseB := h.base_le, tP := fun i e => hT' i (hm.tP i e) }
    have hb2 : Only (· = tb) w2 (w2.setCell ⟨tb, 2, none⟩ v4) := Only.setCell (S := (· = tb)) (p := ⟨tb, 2, none⟩) (Only.refl _ _) (.inl rfl) _
    have hnb : w.heap.size ≠ tb := by omega
    refine ⟨b1.cell 2, b1.frozen 2, Lib.hid ⟨hm2, (Only.of_below hbV (Nat.le_refl _) _).trans hO fun i e => .inl (.inr e), Blk.only (Blk.only hkx ho fun e => ?_) hb2 hnb⟩⟩
    have := (own_lt h.piv e).2
    omega
  have hsl := Sl.lit (V.drewN 1) (oc x) 35
  rw [show (V.drewN 1).heap.size = V.heap.size from rfl] at hsl
  have HSL := Lib.hid hsl
  have HPV := Lib.hid hV1.piv
  have HB := Lib.hid (And.intro hP (And.intro hR (And.intro hk hbf)))
  have hbl : base ≤ V.heap.size := hV1.base_le
  have HV := Lib.hid hV
  have HGB := Lib.hid (And.intro h.gb (And.intro htl hgl))
  have HZ := Lib.hid hzV
  clear hzV h hx hkx hV1 hxV hcP hcR hbV hsl hBx hP hR hk hbf hV
  go_enter Tryz.func91, Tryz.ntmps91
  go_upto_region 1 with (fail)
  rw [← HV.out]
  go_cut [] from 6 (fun wx => ∃ (A4 : Option Addr) (c4 : Nat), Mid wx base tb g mb n (k + (0 : Nat)) most T w.heap.size (Xv x) (.slice A4 (P.length + 1) c4) (.slice AR R.length cR) P x R [] 0 ∧ Only (fun i => i = g ∨ T i) w wx ∧ Blk wx w.heap.size 35 #[.int .i64 x.x.tag, .slice x.a x.x.vec.length x.c, .string x.x.str])
  case first =>
    go_region_law (refine step_append_slk _ (by rfl) _ _ _ (by rfl) base 35 3 48 Tryz.underlying42 objK (by omega) (.slice AP P.length cP) P.length (ocs P) (by rfl) (World.ownsRow.alloc (w := V.drewN 1) HPV.out _) _ _ 1 1 (oc x) (by rfl) HSL.out (by rfl) (oc_one x) (by have := HB.out.1; omega) (by have := HB.out.1; unfold maxLen; omega) (by simp; omega) ?_; intro v4 w4 hown4 hg4 hat4; obtain ⟨A4, c4, rfl, hc4⟩ := own_slice hown4; obtain ⟨hd2, hf1, hx4⟩ := HF.out w4 _ hg4 (hat4.imp (fun e => e) fun e => e.trans (by simp)) hown4)
    all_goals
      clear hg4 hown4 hat4
      go_wp2_with (fail)
      go_meet
      case rel => exact ⟨A4, c4, hx4.out⟩
  case rest =>
    obtain ⟨A4, c4, hmid, hO, hbx⟩ := hcut
    clear q0 q1 q2 c2 c2a HF HSL HPV HV
    have HMO := Lib.hid (And.intro hmid (And.intro hO hbx))
    have t3 := hmid.blk.cell 3
    clear hmid hO hbx
    obtain ⟨hP0, hR0, hk0, hbf0⟩ := HB.out
    have hl63 : (R.length : Int) < 9223372036854775807 := by omega
    go_wp2_with (fail)
    go_loopg [21] R.length (fun gk s21 wr => ∃ (i : Nat) (D : List Ro), gk = R.length - i ∧ i ≤ R.length ∧ s21 = .int .i64 i ∧ Mid wr base tb g mb n (k + (i : Nat)) most T w.heap.size (Xv x) (.slice A4 (P.length + 1) c4) (.slice AR R.length cR) P x R D i ∧ Only (fun i => i = g ∨ T i) w wr ∧ Blk wr w.heap.size 35 #[.int .i64 x.x.tag, .slice x.a x.x.vec.length x.c, .string x.x.str])
    case atStart => exact ⟨0, [], rfl, Nat.zero_le _, rfl, HMO.out.1, HMO.out.2.1, HMO.out.2.2⟩
    case round =>
      clear HMO t3
      obtain ⟨i, D, rfl, hi, rfl, hmid, hO, hbx⟩ := hrel
      by_cases hlt : i < R.length
      · have i1 : (i : Int) < (R.length : Int) := by omega
        obtain ⟨r, hr⟩ : ∃ r, R[i] = r := ⟨_, rfl⟩
        obtain ⟨gR, cR', hv', hg1, hg2, -⟩ := own_form hmid.rows (by omega)
        injection hv' with e1 e2 e3
        subst e1 e3
        have c0 : wr.cell? ⟨gR, i, none⟩ = some (.pointer (some ⟨r.b, 0, none⟩)) := by
          rw [World.ownsRow.cellAt hmid.rows i (by omega)]
          simp [pts, hlt, hr, ptr]
        have hrx : Rx wr base n T P r := hmid.todo r (by rw [List.drop_eq_getElem_cons hlt, hr]; simp)
        obtain ⟨Av, cv, hv, hcv⟩ := own_slice hrx.ints
        have hints := hrx.ints
        have hblk := hrx.blk
        unfold roC at hblk
        rw [hv] at hints hblk
        have l1 := hblk.cell 1
        have l2 := hblk.cell 2
        have l3 := hblk.cell 3
        have l4 := hblk.cell 4
        simp only [List.getElem?_toArray, List.getElem?_cons_succ, List.getElem?_cons_zero] at l1 l2 l3 l4
        have t0 := hmid.blk.cell 0
        simp only [List.getElem?_toArray, List.getElem?_cons_zero] at t0
        obtain ⟨x0, x1, x2, -⟩ := cells3 hbx
        have hbl := hblk.lt
        have hO1 := hO.size
        have hbxl := hbx.lt
        have HD : Hid (∀ W, Below wr.heap.size wr W → Calls Tryz.prog 69 #[.pointer (some ⟨g, 0, none⟩), .agg #[.int .i64 x.x.tag, .slice x.a x.x.vec.length x.c, .string x.x.str], .agg #[.int .i64 r.t.x.tag, .slice r.t.a r.t.x.vec.length r.t.c, .string r.t.x.str]] W fun e w2 => e = .returned (.int .i64 (M n x.x r.t.x)) ∧
            w2.cell? ⟨r.b, 4, none⟩ = some (.slice Av P.length cv) ∧ (w2.alloc (.cells #[.int .i64 (M n x.x r.t.x)] 3)).cell? ⟨r.b, 4, none⟩ = some (.slice Av P.length cv) ∧ w2.ownsRow base 3 1 (.slice Av P.length cv) P.length (nv (fs n P r.t.x)) ∧ base ≤ w2.heap.size ∧ Sl (w2.alloc (.cells #[.int .i64 (M n x.x r.t.x)] 3)) (w2.alloc (.cells #[.int .i64 (M n x.x r.t.x)] 3)).heap.size (some ⟨w2.heap.size, 0, none⟩) [.int .i64 (M n x.x r.t.x)] ∧
            Hid (∀ w4 A5 c5, (w2.alloc (.cells #[.int .i64 (M n x.x r.t.x)] 3)).grownBy w4 (Value.slice Av P.length cv).ownBlock → ((Value.slice A5 (P.length + 1) c5).ownBlock = (Value.slice Av P.length cv).ownBlock ∨ (Value.slice A5 (P.length + 1) c5).ownBlock = some (w2.heap.size + 1)) → w4.ownsRow base 3 1 (.slice A5 (P.length + 1) c5) (P.length + 1) (nv (fs n P r.t.x) ++ [.int .i64 (M n x.x r.t.x)]) →
              w4.cell? ⟨r.b, 4, none⟩ = some (.slice Av P.length cv) ∧ w4.frozen? ⟨r.b, 4, none⟩ = false ∧
              Hid (∃ D', Mid (w4.setCell ⟨r.b, 4, none⟩ (.slice A5 (P.length + 1) c5)) base tb g mb n (k + ((i + 1 : Nat) : Int)) most T w.heap.size (Xv x) (.slice A4 (P.length + 1) c4) (.slice (some ⟨gR, 0, none⟩) R.length cR) P x R D' (i + 1) ∧ Only (fun i => i = g ∨ T i) w (w4.setCell ⟨r.b, 4, none⟩ (.slice A5 (P.length + 1) c5)) ∧ Blk (w4.setCell ⟨r.b, 4, none⟩ (.slice A5 (P.length + 1) c5)) w.heap.size 35 #[.int .i64 x.x.tag, .slice x.a x.x.vec.length x.c, .string x.x.str]))) := Lib.hid fun W hW => by
          have hlow := hmid.low
          have hgb := hmid.gb
          have hmt := hmid.mt
          have hbb := hrx.low
          have hbxW := hbx.below hW hbxl
          have hxs := ((hmid.vecP x (by simp)).sl.below hW).more hW.size
          have hrs := (hrx.vec.sl.below hW).more hW.size
          refine (cdist_any x.a r.t.a x.c r.t.c x.x r.t.x hbf0.small hrx.bf.small W hxs hrs (hmt.below hW hmt.lt) (by omega)).mono fun e w2 ⟨he, hgr, hm2⟩ => ?_
          have hg : Only (· = g) W w2 := Only.of_grown hgr fun j e => .inl (by injection e with e; exact e.symm)
          have hgw : Only (· = g) wr w2 := (Only.of_below hW (Nat.le_refl _) _).trans hg fun i e => .inl e
          have q1 := Blk.only hblk hgw (by omega)
          have hi2 := own_only hints hgw fun j e e2 => by have := (own_lt hints e).1; omega
          have s2 := hgw.size
          refine ⟨he, q1.cell 4, (World.cell?_alloc_lt w2 _ ⟨r.b, 4, none⟩ (show r.b < w2.heap.size by omega)).trans (q1.cell 4), hi2, by omega, Sl.lit w2 _ _, Lib.hid fun w4 A5 c5 hg4 hat4 hown4 => ?_⟩
          have ho4 : Only (fun j => (Value.slice Av P.length cv).ownBlock = some j) w2 w4 := ((Only.refl _ w2).alloc _).trans (Only.of_grown hg4 fun j e => .inl e) fun j e => .inl e
          have q2 := Blk.only q1 ho4 (blk_types hi2 q1 (by decide))
          have hset : Only (· = r.b) w4 (w4.setCell ⟨r.b, 4, none⟩ (.slice A5 (P.length + 1) c5)) := Only.setCell (S := (· = r.b)) (p := ⟨r.b, 4, none⟩) (Only.refl _ _) (.inl rfl) _
          have hR5 : Only (Rs g r) wr (w4.setCell ⟨r.b, 4, none⟩ (.slice A5 (P.length + 1) c5)) := ((hgw.mono (T := Rs g r) fun j e => .inl (.inl e)).trans ho4 fun j e => .inl (.inr (.inl (by rw [hv]; exact e)))).trans hset fun j e => .inl (.inr (.inr e))
          have hgne : ¬ g = r.b := by omega
          have hmt4 : Mt w4 g n (k + (i : Int) + 1) := Blk.only hm2 ho4 fun e => by have := (own_lt hi2 e).1; omega
          have hmt5 : Mt (w4.setCell ⟨r.b, 4, none⟩ (.slice A5 (P.length + 1) c5)) g n (k + ((i + 1 : Nat) : Int)) := by
            have e : k + ((i + 1 : Nat) : Int) = k + (i : Int) + 1 := by push_cast; omega
            rw [e]
            exact Blk.only hmt4 hset hgne
          have hb5 : Blk (w4.setCell ⟨r.b, 4, none⟩ (.slice A5 (P.length + 1) c5)) r.b 108 (roC { r with v := .slice A5 (P.length + 1) c5 }) := q2.set_ 4 _
          rw [M_symm n x.x r.t.x] at hown4
          have hi5 := own_only hown4 hset fun j e e2 => blk_types hown4 q2 (by decide) (e2 ▸ e)
          have hsz : w.heap.size ≤ wr.heap.size := hO1
          have hmid5 := hmid.round hlt hr hR5 hb5 hi5 hmt5 (hat4.imp (fun e => by rw [hv]; exact e) fun e => ⟨_, e, by omega⟩) hsz
          have hbx2 := Blk.only hbx hR5 fun e => by
            rcases e with e | e | e
            · have := HGB.out; omega
            · rw [hv] at e
              exact blk_types hints hbx (by decide) e
            · have := (hlow _ hrx.tb).2
              exact absurd ((Ty.blk hbx).one (e ▸ Ty.blk hblk)) (by decide)
          refine ⟨q2.cell 4, q2.frozen 4, Lib.hid ⟨_, hmid5, hO.trans hR5 fun j e => .inl ?_, hbx2⟩⟩
          rcases e with e | e | e
          · exact .inl e
          · exact .inr (hrx.tv j e)
          · exact .inr (e ▸ hrx.tb)
        have HPB := Lib.hid hP0
        clear hmid hO hbx hrx hints hblk hv hbl hcv hO1 hbxl hg1 hg2 hP0 hR0 hk0 hbf0 e2
        generalize M n x.x r.t.x = d at HD
        clear hr
        go_wp2_with (fail)
        go_region_law (first
          | (go_simp; go_at_call 69; (with_reducible refine (HD.out _ (by repeat' (first | (with_reducible exact Below.refl _ _) | (with_reducible assumption) | (with_reducible refine Below.drew ?_) | (with_reducible refine below_drewN' ?_ _)))).mono ?_); rintro e w2 ⟨rfl, y0, y1, hown2, hbl2, hsl2, xE⟩)
          | (refine step_append_slk _ (by rfl) _ _ _ (by rfl) base 3 1 8 Tryz.underlying39 intK (by omega) (.slice Av P.length cv) P.length (nv (fs n P r.t.x)) (by rfl) (World.ownsRow.alloc (w := w2) hown2 _) _ _ 1 1 [.int .i64 d] (by rfl) hsl2 rfl (by simp [Value.oneCell']) (by have := HPB.out; omega) (by have := HPB.out; unfold maxLen; omega) (by simp; omega) ?_; intro v4 w4 hown4 hg4 hat4; obtain ⟨A5, c5, rfl, hc5⟩ := own_slice hown4; obtain ⟨z0, zf, zE⟩ := xE.out w4 _ _ hg4 (hat4.imp (fun e => e) fun e => e.trans (by simp)) hown4))
        all_goals
          have HX := Lib.hid zE.out
          clear hown2 hbl2 hsl2 xE hown4 hg4 hat4 zE y0 y1 z0 zf x0 x1 x2 t0 l1 l2 l3 l4 c0 HD
          go_wp2_with (fail)
          go_roundg (R.length - (i + 1))
          case measure => omega
          case rel =>
            obtain ⟨D', hD⟩ := HX.out
            exact ⟨i + 1, D', rfl, by omega, by go_num, hD.1, hD.2.1, hD.2.2⟩
      · obtain rfl : i = R.length := by omega
        have i1 : ¬ (R.length : Int) < (R.length : Int) := by omega
        have HE : Hid (PivAdded w base tb g mb n k most T (.slice AR R.length cR) P R x (.returned (.tuple #[])) wr) := Lib.hid (by
          obtain ⟨h1, h2⟩ := hmid.end_
          exact ⟨rfl, _, D, h1, h2, hO⟩)
        clear hmid hO hbx
        go_wp2_with (fail)
        refine bodyPost_ret (v := .tuple #[]) (by simp [results, Tryz.results91, go_sem]) rfl ?_
        exact HE.out
end
end Go.Proofs.YtgbjpobgjmkjgaaGreat.tab
