/-
  For every row of items and every number the law StoreEach returns true, and changes nothing that there was. No condition.
-/
import Derived.Test.YtaickhhbdbbmjaaStO
import Derived.Test.YtaickhhbdbbmjaaStJ
import Derived.Test.YtaickhhbdbbmjaaStT
import Derived.Test.YtaickhhbdbbmjaaStU
import Derived.Test.YtaickhhbdbbmjaaInRd
import Derived.Deep.RegionHeld3
namespace Go.Proofs.Ytaickhhbdbbmjaa.storeEach
open Go.RowKit law bytes only flat ord obj store came told
open aro (Kept zK)
set_option linter.unusedVariables false

/-- the store and the document's row, which the box g holds, side by side -/
structure Me (w0 : World) (sb g : Nat) (T : Nat → Prop) (k : Nat) (A : Option Addr) (c : Nat) (q : List (Int × Kept)) (W : World) : Prop where
  low : Below w0.heap.size w0 W
  st : St W w0.heap.size sb T (rM q) k
  row : Away W (fun i => T i ∨ i = g) A (q.flatMap iE)
  box : Blk W g 25 #[.slice A q.length c]
  off : ¬ T g
  gw : w0.heap.size ≤ g
  rise : RiseQ q
  lie : Lie w0 w0.heap.size q
  len : q.length ≤ k
section
variable {w0 W W2 : World} {sb g k c : Nat} {T : Nat → Prop} {A : Option Addr} {q : List (Int × Kept)}
theorem Me.below (h : Me w0 sb g T k A c q W) (hb : Below W.heap.size W W2) : Me w0 sb g T k A c q W2 :=
  ⟨h.low.trans (hb.mono h.low.size), h.st.below hb, h.row.below hb, h.box.below hb h.box.lt, h.off, h.gw, h.rise, h.lie, h.len⟩
/-- what the box is given -/
def Next (w0 : World) (sb g k : Nat) (e : Ending) (w' : World) : Prop := ∃ A2 n2 c2 f2, e = .returned (.tuple #[.slice A2 n2 c2, .int .i64 f2]) ∧ (∃ u0, w'.cell? ⟨g, 0, none⟩ = some u0) ∧ w'.frozen? ⟨g, 0, none⟩ = false ∧
  ∃ q2 T2, n2 = q2.length ∧ Me w0 sb g T2 (k + 1) A2 c2 q2 (w'.setCell ⟨g, 0, none⟩ (.slice A2 n2 c2))
theorem Me.put (h : Me w0 sb g T k A c q W) (hk : k ≤ 2513169434913) (id : Int) (x : Kept) (hs : Sl w0 w0.heap.size x.A (iv x.x.vec)) (hf : Fit x.x) :
    Calls Try.prog 10 #[.pointer (some ⟨sb, 0, none⟩), .agg #[.int .u64 id, .int .i64 x.x.tag, .slice x.A x.x.vec.length x.c, .string x.x.str]] W fun e w' => (∃ f, e = .returned (.int .i64 f)) ∧ w'.cell? ⟨g, 0, none⟩ = some (.slice A q.length c) ∧ Below w0.heap.size w0 w' ∧
      Calls Try.prog 11 #[.slice A q.length c, .agg #[.int .u64 id, .int .i64 x.x.tag, .slice x.A x.x.vec.length x.c, .string x.x.str]] w'.drew (Next w0 sb g k) := by
  have hl := h.len
  have hc := put_st h.st id x.x x.A x.c ((hs.below h.low).more h.low.size) hf h.low.size (by omega)
  refine hc.mono fun e w' ⟨he, hlf⟩ => ?_
  have hb1 := hlf.below h.st h.low.size
  have hlow := h.low.trans hb1
  have hg := h.box.lt
  have hbox := Blk.only h.box hlf.1 h.off
  obtain ⟨ho, T1, hst, hT1⟩ := hlf
  have hoff : ¬ T1 g := fun e => by
    rcases hT1 g e with e | e
    · exact h.off e
    · omega
  have hrow : Away w' (fun i => T1 i ∨ i = g) A (q.flatMap iE) := h.row.step (ho.mono fun i e => .inl (.inl e)) fun i hi hn e => by
    rcases e with e | e
    · rcases hT1 i e with e | e
      · exact hn (.inl e)
      · omega
    · exact hn (.inr e)
  have hdr : Below w'.heap.size w' w'.drew := (Below.refl _ _).drew
  have hTlt : ∀ i, T1 i ∨ i = g → i < w'.drew.heap.size := fun i e => by
    rcases e with e | rfl
    · exact (hst.low e).2
    · exact hbox.lt
  refine ⟨⟨_, he⟩, hbox.cell 0, hlow, (rput_any A c q id x w'.drew _ hTlt (hrow.below hdr) h.rise (by omega)).mono fun e2 w'' ⟨A2, c2, he2, hrow2, hb2⟩ => ?_⟩
  have hb3 : Below w'.heap.size w' w'' := hdr.trans (hb2.mono hdr.size)
  have hbox3 := hbox.below hb3 hbox.lt
  refine ⟨A2, _, c2, _, he2, ⟨_, hbox3.cell 0⟩, hbox3.frozen 0, putQ q id x, T1, rfl, (hlow.trans (hb3.mono hlow.size)).setCell (p := ⟨g, 0, none⟩) h.gw _, ?_, ?_, hbox3.set_ 0 _, hoff, h.gw, h.rise.put id x, fun p hp => ?_, by have := putQ_len q id x; omega⟩
  · rw [rM_putQ]
    exact (hst.below hb3).only (S := (· = g)) (Only.setCell (S := (· = g)) (p := ⟨g, 0, none⟩) (Only.refl _ _) (.inl rfl) _) fun i e e2 => hoff (by rw [← show i = g from e2]; exact e)
  · exact hrow2.step (Only.setCell (p := ⟨g, 0, none⟩) (Only.refl _ _) (.inl (.inr rfl)) _) fun i _ e => e
  · rcases mem_putQ hp with rfl | hp
    · exact ⟨hs, hf⟩
    · exact h.lie p hp
end
/-- how far the loop is: the world before its counter V0, the counter's box -/
structure Ie (V0 : World) (most : Int) (B : Nat) (pre : List (Int × Kept)) (V : World) : Prop where
  low : Below V0.heap.size V0 V
  box : Blk V V0.heap.size 3 #[.int .i64 pre.length]
  less : pre.length = 0 ∨ (pre.length : Int) < most
  size : B ≤ V.heap.size
theorem Ie.kept {V0 V V2 : World} {most : Int} {B : Nat} {pre : List (Int × Kept)} {row : Option Nat} (h : Ie V0 most B pre V) (hg : V.grownBy V2 row) (hr : ∀ r, row = some r → V0.heap.size ≤ r ∧ ∃ o : Obj, V.heap[r]? = some o ∧ o.isCells = false) : Ie V0 most B pre V2 :=
  ⟨h.low.grown hg h.low.size (fun k e => (hr k e).1), blk_kept h.box hg (fun r e => (hr r e).2), h.less, Nat.le_trans h.size hg.size⟩
/-- where the loop was left -/
structure Iz (V0 : World) (most : Int) (B : Nat) (pre : List (Int × Kept)) (V : World) : Prop where
  low : Below V0.heap.size V0 V
  box : Blk V V0.heap.size 3 #[.int .i64 pre.length]
  full : (pre.length : Int) = max most 1
theorem Iz.kept {V0 V V2 : World} {most : Int} {B : Nat} {pre : List (Int × Kept)} {row : Option Nat} (h : Iz V0 most B pre V) (hg : V.grownBy V2 row) (hr : ∀ r, row = some r → V0.heap.size ≤ r ∧ ∃ o : Obj, V.heap[r]? = some o ∧ o.isCells = false) : Iz V0 most B pre V2 :=
  ⟨h.low.grown hg h.low.size (fun k e => (hr k e).1), blk_kept h.box hg (fun r e => (hr r e).2), h.full⟩
end Go.Proofs.Ytaickhhbdbbmjaa.storeEach
namespace Go.Proofs.Ytaickhhbdbbmjaa.storeEach
open Go.RowKit Go.Shelf law bytes only flat ord obj store came told inround
open aro (Kept zK)
open Go.ChangeShapes Go.WideShapes Go.ChangeAt
set_option linter.unusedVariables false
attribute [local go_sem] Oper.semAt_some

set_option maxRecDepth 100000 in
set_option maxHeartbeats 6400000 in
theorem walk (A0 : Option Addr) (c0 : Nat) (l : List (Int × Kept)) (most : Int) (w : World) (hr : Came 4 iE w A0 l) (hin : Lie w w.heap.size l) (hl : l.length * 56 ≤ 140737488351232) : Calls Try.prog 4 #[.slice A0 l.length c0, .int .i64 most] w fun e w' => e = .returned (.bool true) ∧ Below w.heap.size w w' := by
  refine (callsIn_wide (n := 6)).1 ?_
  refine callsIn_of_wp_marks Try.func4 rfl trivial ?_ rfl
  simp only [Try.ntmps4, List.size_toArray, List.length_cons, List.length_nil, Nat.reduceAdd, Nat.reduceSub, Array.replicate_succ, Array.replicate_zero, List.push_toArray, List.append_toArray, List.nil_append, List.cons_append]
  have hmo : Try.prog.follows .mixedOrders = true := by kernel_rfl
  obtain ⟨V1, hV1⟩ : ∃ W, W = (w.alloc (.cells #[.int .i64 most] 3)).alloc (.cells #[.bool false] 4) := ⟨_, rfl⟩
  have hb1 : Below w.heap.size w V1 := by rw [hV1]; exact ((Below.refl _ w).alloc (Nat.le_refl _) _).alloc (by simp) _
  have s1 : V1.heap.size = w.heap.size + 2 := by rw [hV1]; simp
  have hbm : Blk V1 w.heap.size 3 #[.int .i64 most] := by rw [hV1]; exact (Blk.new _ _ _).alloc _
  have hbk : Blk V1 (w.heap.size + 1) 4 #[.bool false] := by
    have z : (w.alloc (.cells #[.int .i64 most] 3)).heap.size = w.heap.size + 1 := by simp
    rw [hV1, ← z]
    exact Blk.new _ _ _
  have HN := Lib.hid (callsIn_wide (n := 6 - 1).2 (new_st V1))
  have HCM := Lib.hid hr
  have HIN := Lib.hid hin
  have HB1 := Lib.hid hb1
  have HBM := Lib.hid hbm
  have HBK := Lib.hid hbk
  have HLV := Lib.hid (fun W => callsIn_wide (n := 6 - 1).2 (lives_any W))
  clear hr hin hb1 hbm hbk
  gi_wp2
  refine ⟨trivial, ?_⟩
  rw [← hV1]
  clear hV1
  refine HN.out.mono ?_
  rintro e w2 ⟨sb, T0, rfl, hb2, hst0⟩
  obtain ⟨V2, hV2⟩ : ∃ W, W = w2.alloc (.cells #[.slice none 0 0] 25) := ⟨_, rfl⟩
  obtain ⟨g, hg⟩ : ∃ g, g = w2.heap.size := ⟨_, rfl⟩
  have HM0 : Hid (Me V1 sb g T0 0 none 0 [] V2) := Lib.hid (by
    have hb3 : Below w2.heap.size w2 V2 := by rw [hV2]; exact (Below.refl _ _).alloc (Nat.le_refl _) _
    have hbx : Blk V2 w2.heap.size 25 #[.slice none 0 0] := by rw [hV2]; exact Blk.new _ _ _
    rw [hg]
    exact ⟨hb2.trans (hb3.mono hb2.size), hst0.below hb3, Away.nil, hbx, fun e => Nat.lt_irrefl _ (hst0.low e).2, hb2.size, List.Pairwise.nil, fun p hp => by simp at hp, Nat.le_refl _⟩)
  clear HN hb2 hst0
  gi_wp2
  rw [← hg, ← hV2]
  clear hg hV2
  gi_loopw [7] (fun i wr => ∃ (k : Nat) (A : Option Addr) (c : Nat) (q : List (Int × Kept)) (T : Nat → Prop), k ≤ l.length ∧ i = .int .i64 k ∧ Me V1 sb g T k A c q wr) (fun i _ => l.length - (intOf i).toNat)
  case atStart => exact ⟨0, none, 0, [], T0, Nat.zero_le _, rfl, HM0.out⟩
  case round =>
    clear HM0
    obtain ⟨k, A, c, q, T, hk, rfl, hm⟩ := hrel
    by_cases hlt : k < l.length
    · have i1 : (k : Int) < (l.length : Int) := by omega
      obtain ⟨b, o, hA, hbl⟩ := HCM.out.row (by decide) iE_len (by omega)
      subst hA
      obtain ⟨⟨id, x⟩, hd⟩ : ∃ d, l[k] = d := ⟨_, rfl⟩
      have hcell : ∀ W, Below w.heap.size w W → W.cell? ⟨b, o + k * 4, none⟩ = some (.int .u64 id) ∧ W.cell? ⟨b, o + k * 4 + 1, none⟩ = some (.int .i64 x.x.tag) ∧ W.cell? ⟨b, o + k * 4 + 2, none⟩ = some (.slice x.A x.x.vec.length x.c) ∧ W.cell? ⟨b, o + k * 4 + 3, none⟩ = some (.string x.x.str) := fun W hW => by
        have key : ∀ j, (hj : j < 4) → W.cell? ⟨b, o + k * 4 + j, none⟩ = (iE (id, x))[j]? := fun j hj => by
          rw [hW.cell (p := ⟨b, _, none⟩) hbl, HCM.out.at_ k hlt j hj, hd]
        exact ⟨key 0 (by decide), key 1 (by decide), key 2 (by decide), key 3 (by decide)⟩
      have HW1 : Hid (∀ W, Below V1.heap.size V1 W → Below w.heap.size w W) := Lib.hid fun W hW => HB1.out.trans (hW.mono HB1.out.size)
      have hx := HIN.out l[k] (List.getElem_mem hlt)
      rw [hd] at hx
      have HPU := Lib.hid (callsIn_wide (n := 6 - 1).2 (hm.put (by omega) id x ((hx.1.below HB1.out).more HB1.out.size) hx.2))
      obtain ⟨d0, d1, d2, d3⟩ := hcell wr (HW1.out wr hm.low)
      have HCL := Lib.hid hcell
      clear hm hcell hx hd
      gi_wp2
      refine ⟨trivial, ?_⟩
      refine HPU.out.mono ?_
      rintro e w3 ⟨⟨f, rfl⟩, gc, hlow3, hcall⟩
      obtain ⟨e0, e1, e2, e3⟩ := HCL.out w3 (HW1.out w3 hlow3)
      have HRC := Lib.hid hcall
      clear HPU hcall hlow3 d0 d1 d2 d3 HCL
      gi_wp2
      refine wpIn_wide.2 (wp_region_noPanic ?_)
      go_region_with (go_at_call 11; (with_reducible refine HRC.out.mono ?_); rintro e w4 ⟨A2, n2, c2, f2, rfl, ⟨u0, hu0⟩, hf0, hnx⟩; have HNX := Lib.hid hnx; clear hnx)
      all_goals
        refine NoPanic.normal ?_
        clear HRC e0 e1 e2 e3 gc
        gi_wp2
        go_roundw
        case rel =>
          obtain ⟨q2, T2, hn2, hm2⟩ := HNX.out
          exact ⟨k + 1, A2, c2, q2, T2, by omega, by go_num, hm2⟩
        case measure => simp only [intOf]; omega
    · obtain rfl : k = l.length := by omega
      have i1 : ¬ (l.length : Int) < (l.length : Int) := by omega
      have HM := Lib.hid hm
      have HMS := Lib.hid hm.low.size
      clear hm HCM HIN i1
      gi_wp2
      refine ⟨trivial, ?_⟩
      obtain ⟨V0, hV0⟩ : ∃ W, W = wr.alloc (.cells #[.pointer (some ⟨sb, 0, none⟩)] 23) := ⟨_, rfl⟩
      obtain ⟨p, hp⟩ : ∃ p, p = wr.heap.size := ⟨_, rfl⟩
      refine (callsIn_wide (n := 5).2 (each_any (some ⟨sb, 0, none⟩) wr)).mono ?_
      rintro e w4 ⟨rfl, rfl⟩
      rw [← hV0, ← hp]
      have z1 : V0.heap.size = p + 1 := by rw [hV0, hp]; simp
      have hb4 : Below wr.heap.size wr V0 := by rw [hV0]; exact (Below.refl _ _).alloc (Nat.le_refl _) _
      have HP := Lib.hid (show V0.cell? ⟨p, 0, none⟩ = some (.pointer (some ⟨sb, 0, none⟩)) by rw [hV0, hp]; exact (Blk.new _ _ _).cell 0)
      have HM4 := Lib.hid (HM.out.below hb4)
      have hgp : g < p := by rw [hp]; exact HM.out.box.lt
      have hTp : ∀ i, T i → i < p := fun i e => by rw [hp]; exact (HM.out.st.low e).2
      have hVp : V1.heap.size ≤ p := by rw [hp]; exact HMS.out
      have HTP := Lib.hid hTp
      clear hV0 hb4 hp HM HMS hTp
      have hEV : eachV p = .func (.func 32) #[] #[.pointer (some ⟨p, 0, none⟩)] := rfl
      have hee := eql_each p
      rw [hEV]
      clear hEV
      gi_wp2
      obtain ⟨WR, hWR⟩ : ∃ W, W = V0.alloc (.cells #[.int .i64 0] 3) := ⟨_, rfl⟩
      rw [← hWR]
      have z4 : WR.heap.size = p + 2 := by rw [hWR]; simp [z1]
      have hb5 : Below V0.heap.size V0 WR := by rw [hWR]; exact (Below.refl _ _).alloc (Nat.le_refl _) _
      have hgn : Blk WR (p + 1) 3 #[.int .i64 0] := by
        rw [hWR, ← z1]
        exact Blk.new _ _ _
      clear hWR
      have hMR := HM4.out.below hb5
      have HI0 : Hid (∀ W1, Below WR.heap.size WR W1 → Ie V0 most W1.heap.size [] W1) := Lib.hid fun W1 hW1 => ⟨hb5.trans (hW1.mono hb5.size), by rw [z1]; exact hgn.below hW1 (by omega), .inl rfl, Nat.le_refl _⟩
      have HT := each_tells (m := l.length) hMR.st (by omega) (by omega) ((hb5.cell (p := ⟨p, 0, none⟩) (by show p < _; omega)).trans HP.out) (6 - 1) (by omega)
      refine range_told (P := Try.prog) (n := 6) (gf := 32) (lb := #[.pointer (some ⟨p, 0, none⟩)]) rfl (enters_of Try.func32 (by kernel_rfl) rfl) HT (Below.refl _ _) (fun i e => ?_) (fun _ => rfl)
        (fun i => i = p + 1) (fun i e e2 => ?_) (fun i e => ?_) (fun B pre V => Ie V0 most B pre V) (fun B c pre V => c = .exit 2 ∧ Iz V0 most B pre V)
        (fun B s X Y row hs hg hr => ?_) (fun B c s X Y row hs hg hr => ?_) HI0.out ?round ?done ?stop
      · rcases e with e | e
        · have := HTP.out i e; omega
        · omega
      · rcases e2 with e2 | e2
        · have := HTP.out i e2; omega
        · omega
      · omega
      · exact hs.kept hg fun r e => ⟨by have := (hr r e).1; omega, (hr r e).2⟩
      · exact ⟨hs.1, hs.2.kept hg fun r e => ⟨by have := (hr r e).1; omega, (hr r e).2⟩⟩
      case round =>
        rintro B lp pre ⟨id, x, A1, c1⟩ V hlp hie hpr
        clear HT hMR hgn HI0
        simp only [iV]
        gi_wp2
        have hal : V.grownBy (V.alloc (.cells #[.int .u64 id, .int .i64 x.tag, .slice A1 x.vec.length c1, .string x.str] 31)) none := World.grownBy_alloc V _ none
        refine ⟨⟨(KeepsOthers.alloc _ _).from _, (Only.refl _ _).alloc _⟩, fun W2 ht => ?_⟩
        have hbx := blk_kept (Blk.new V 31 #[.int .u64 id, .int .i64 x.tag, .slice A1 x.vec.length c1, .string x.str]) ht.grown ht.rows
        have hie2 := (hie.kept hal (fun r e => by cases e)).kept ht.grown (fun r e => ⟨by injection e with e; omega, ht.rows r e⟩)
        obtain ⟨hp1, hp2, hp3, hp4⟩ := hpr
        have hsx := Sl.of_own (own_kept (own_kept hp4 hal (fun r e => by cases e)) ht.grown ht.rows)
        have hplt : pre.length < q.length := by
          have := (List.getElem?_eq_some_iff.1 hp1).1
          rwa [rM_length] at this
        obtain ⟨⟨id2, x2, A3, c3⟩, hq⟩ : ∃ d, q[pre.length] = d := ⟨_, rfl⟩
        have hee2 : id2 = id ∧ x2 = x := by
          unfold rM at hp1
          rw [List.getElem?_map, List.getElem?_eq_getElem hplt, hq] at hp1
          injection hp1 with hp1
          injection hp1 with e1 e2
          exact ⟨e1, e2⟩
        obtain ⟨rfl, rfl⟩ := hee2
        have hMW := HM4.out.below hie2.low
        obtain ⟨b, o, rfl, -, t0, t1, t2, t3⟩ := itemAt hMW.row.sl hplt
        rw [hq] at t0 t1 t2 t3
        have hsy : Sl W2 W2.heap.size A3 (iv x2.vec) := by
          have h1 := (hMW.lie q[pre.length] (List.getElem_mem hplt)).1
          rw [hq] at h1
          exact (h1.below hMW.low).more hMW.low.size
        obtain ⟨gx, hgx⟩ : ∃ g, g = V.heap.size := ⟨_, rfl⟩
        rw [← hgx] at hbx
        rw [← hgx]
        have HSS : Hid (∀ W, Below W2.heap.size W2 W → W.cell? ⟨p + 1, 0, none⟩ = some (.int .i64 pre.length) ∧ W.cell? ⟨g, 0, none⟩ = some (.slice (some ⟨b, o, none⟩) q.length c) ∧
            W.cell? ⟨gx, 0, none⟩ = some (.int .u64 id2) ∧ W.cell? ⟨gx, 1, none⟩ = some (.int .i64 x2.tag) ∧ W.cell? ⟨gx, 2, none⟩ = some (.slice A1 x2.vec.length c1) ∧ W.cell? ⟨gx, 3, none⟩ = some (.string x2.str) ∧
            W.cell? ⟨b, o + pre.length * 4, none⟩ = some (.int .u64 id2) ∧ W.cell? ⟨b, o + pre.length * 4 + 1, none⟩ = some (.int .i64 x2.tag) ∧ W.cell? ⟨b, o + pre.length * 4 + 1 + 1, none⟩ = some (.slice A3 x2.vec.length c3) ∧ W.cell? ⟨b, o + pre.length * 4 + 1 + 2, none⟩ = some (.string x2.str)) := Lib.hid fun W hW => by
          have h1 := hie2.box.below hW hie2.box.lt
          rw [z1] at h1
          obtain ⟨x0, x1, x2, x3, -⟩ := cells4' (hbx.below hW hbx.lt)
          have hk : ∀ {a : Addr} {v : Value}, W2.cell? a = some v → W.cell? a = some v := fun h => (hW.cell (World.block_lt_of_cell? _ _ h)).trans h
          exact ⟨h1.cell 0, (hMW.box.below hW hMW.box.lt).cell 0, x0, x1, x2, x3, hk t0, hk t1, hk t2, hk t3⟩
        have HSM : Hid (Calls Try.prog 15 #[.agg #[.int .i64 x2.tag, .slice A1 x2.vec.length c1, .string x2.str], .agg #[.int .i64 x2.tag, .slice A3 x2.vec.length c3, .string x2.str]] W2.drew (Gives (.bool true) W2.drew)) := Lib.hid (by
          have hdr : Below W2.heap.size W2 W2.drew := (Below.refl _ _).drew
          have h := rsame_any A1 A3 c1 c3 W2.heap.size W2.heap.size x2 x2 W2.drew (by have h : x2.vec.length * 4 ≤ 140737488355328 := hp3.1; omega) (by have h : x2.vec.length * 4 ≤ 140737488355328 := hp3.1; omega) (Nat.le_refl _) (Nat.le_refl _) (hsx.below hdr) (hsy.below hdr)
          rw [sameO_rfl] at h
          exact h)
        have HIE := Lib.hid hie2
        have hqb : q.length ≤ 2513169434843 := by have := hMW.len; omega
        have i1 : (pre.length : Int) < (q.length : Int) := by omega
        have i2 : ¬ ((q.length : Int) ≤ (pre.length : Int)) := by omega
        have i3 : ¬ (q.length ≤ pre.length) := by omega
        have i4 : (id2 != id2) = false := by simp
        have hHeld := HSS.out W2.drew ((Below.refl _ _).drew)
        clear hal hbx hie2 hp1 hp2 hp3 hp4 hsx hq hMW t0 t1 t2 t3 hsy hgx hie ht
        gi_wp2
        refine region_in (S := fun W => W.cell? ⟨p + 1, 0, none⟩ = some (.int .i64 pre.length) ∧ W.cell? ⟨g, 0, none⟩ = some (.slice (some ⟨b, o, none⟩) q.length c) ∧
            W.cell? ⟨gx, 0, none⟩ = some (.int .u64 id2) ∧ W.cell? ⟨gx, 1, none⟩ = some (.int .i64 x2.tag) ∧ W.cell? ⟨gx, 2, none⟩ = some (.slice A1 x2.vec.length c1) ∧ W.cell? ⟨gx, 3, none⟩ = some (.string x2.str) ∧
            W.cell? ⟨b, o + pre.length * 4, none⟩ = some (.int .u64 id2) ∧ W.cell? ⟨b, o + pre.length * 4 + 1, none⟩ = some (.int .i64 x2.tag) ∧ W.cell? ⟨b, o + pre.length * 4 + 1 + 1, none⟩ = some (.slice A3 x2.vec.length c3) ∧ W.cell? ⟨b, o + pre.length * 4 + 1 + 2, none⟩ = some (.string x2.str)) hmo (by kernel_rfl) ?_
        show wpAnyH _ _ _ _ _ 25 _ _ _
        refine wpAnyH_take (i := 0) (v := (.int .i64 pre.length)) rfl (by kernel_rfl) (by kernel_rfl) (by kernel_rfl) (fun _ _ _ h => h) (Or.inl ⟨by rfl, ?_⟩) hHeld ?_
        · intro w hSw
          obtain ⟨a0, a1, a2, a3, a4, a5, a6, a7, a8, a9⟩ := hSw
          go_simp
        simp only [Act.put, List.getElem_toArray, List.getElem_cons_zero, List.setIfInBounds_toArray, List.set_cons_zero, List.set_cons_succ]
        refine wpAnyH_take (i := 1) (v := (.slice (some ⟨b, o, none⟩) q.length c)) rfl (by kernel_rfl) (by kernel_rfl) (by kernel_rfl) (fun _ _ _ h => h) (Or.inl ⟨by rfl, ?_⟩) hHeld ?_
        · intro w hSw
          obtain ⟨a0, a1, a2, a3, a4, a5, a6, a7, a8, a9⟩ := hSw
          go_simp
        simp only [Act.put, List.getElem_toArray, List.getElem_cons_zero, List.getElem_cons_succ, List.setIfInBounds_toArray, List.set_cons_zero, List.set_cons_succ]
        refine wpAnyH_take (i := 2) (v := (.int .i64 q.length)) rfl (by kernel_rfl) (by kernel_rfl) (by kernel_rfl) (fun _ _ _ h => h) (Or.inl ⟨by rfl, ?_⟩) hHeld ?_
        · intro w hSw
          obtain ⟨a0, a1, a2, a3, a4, a5, a6, a7, a8, a9⟩ := hSw
          go_simp
        simp only [Act.put, List.getElem_toArray, List.getElem_cons_zero, List.getElem_cons_succ, List.setIfInBounds_toArray, List.set_cons_zero, List.set_cons_succ]
        refine wpAnyH_take (i := 3) (v := (.bool false)) rfl (by kernel_rfl) (by kernel_rfl) (by kernel_rfl) (fun _ _ _ h => h) (Or.inl ⟨by rfl, ?_⟩) hHeld ?_
        · intro w hSw
          obtain ⟨a0, a1, a2, a3, a4, a5, a6, a7, a8, a9⟩ := hSw
          go_simp
        simp only [Act.put, List.getElem_toArray, List.getElem_cons_zero, List.getElem_cons_succ, List.setIfInBounds_toArray, List.set_cons_zero, List.set_cons_succ]
        refine wpAnyH_take (i := 4) (v := (.bool false)) rfl (by kernel_rfl) (by kernel_rfl) (by kernel_rfl) (fun _ _ _ h => h) (Or.inl ⟨by rfl, ?_⟩) hHeld ?_
        · intro w hSw
          obtain ⟨a0, a1, a2, a3, a4, a5, a6, a7, a8, a9⟩ := hSw
          go_simp
        simp only [Act.put, List.getElem_toArray, List.getElem_cons_zero, List.getElem_cons_succ, List.setIfInBounds_toArray, List.set_cons_zero, List.set_cons_succ]
        refine wpAnyH_take (i := 5) (v := (.pointer (some ⟨gx, 0, none⟩))) rfl (by kernel_rfl) (by kernel_rfl) (by kernel_rfl) (fun _ _ _ h => h) (Or.inl ⟨by rfl, ?_⟩) hHeld ?_
        · intro w hSw
          obtain ⟨a0, a1, a2, a3, a4, a5, a6, a7, a8, a9⟩ := hSw
          go_simp
        simp only [Act.put, List.getElem_toArray, List.getElem_cons_zero, List.getElem_cons_succ, List.setIfInBounds_toArray, List.set_cons_zero, List.set_cons_succ]
        refine wpAnyH_take (i := 6) (v := (.int .u64 id2)) rfl (by kernel_rfl) (by kernel_rfl) (by kernel_rfl) (fun _ _ _ h => h) (Or.inl ⟨by rfl, ?_⟩) hHeld ?_
        · intro w hSw
          obtain ⟨a0, a1, a2, a3, a4, a5, a6, a7, a8, a9⟩ := hSw
          go_simp
        simp only [Act.put, List.getElem_toArray, List.getElem_cons_zero, List.getElem_cons_succ, List.setIfInBounds_toArray, List.set_cons_zero, List.set_cons_succ]
        refine wpAnyH_take (i := 7) (v := (.slice (some ⟨b, o, none⟩) q.length c)) rfl (by kernel_rfl) (by kernel_rfl) (by kernel_rfl) (fun _ _ _ h => h) (Or.inl ⟨by rfl, ?_⟩) hHeld ?_
        · intro w hSw
          obtain ⟨a0, a1, a2, a3, a4, a5, a6, a7, a8, a9⟩ := hSw
          go_simp
        simp only [Act.put, List.getElem_toArray, List.getElem_cons_zero, List.getElem_cons_succ, List.setIfInBounds_toArray, List.set_cons_zero, List.set_cons_succ]
        refine wpAnyH_take (i := 8) (v := (.int .i64 pre.length)) rfl (by kernel_rfl) (by kernel_rfl) (by kernel_rfl) (fun _ _ _ h => h) (Or.inl ⟨by rfl, ?_⟩) hHeld ?_
        · intro w hSw
          obtain ⟨a0, a1, a2, a3, a4, a5, a6, a7, a8, a9⟩ := hSw
          go_simp
        simp only [Act.put, List.getElem_toArray, List.getElem_cons_zero, List.getElem_cons_succ, List.setIfInBounds_toArray, List.set_cons_zero, List.set_cons_succ]
        refine wpAnyH_take (i := 9) (v := (.pointer (some ⟨b, o + pre.length * 4, none⟩))) rfl (by kernel_rfl) (by kernel_rfl) (by kernel_rfl) (fun _ _ _ h => h) (Or.inl ⟨by rfl, ?_⟩) hHeld ?_
        · intro w hSw
          obtain ⟨a0, a1, a2, a3, a4, a5, a6, a7, a8, a9⟩ := hSw
          go_simp
        simp only [Act.put, List.getElem_toArray, List.getElem_cons_zero, List.getElem_cons_succ, List.setIfInBounds_toArray, List.set_cons_zero, List.set_cons_succ]
        refine wpAnyH_take (i := 10) (v := (.pointer (some ⟨b, o + pre.length * 4, none⟩))) rfl (by kernel_rfl) (by kernel_rfl) (by kernel_rfl) (fun _ _ _ h => h) (Or.inl ⟨by rfl, ?_⟩) hHeld ?_
        · intro w hSw
          obtain ⟨a0, a1, a2, a3, a4, a5, a6, a7, a8, a9⟩ := hSw
          go_simp
        simp only [Act.put, List.getElem_toArray, List.getElem_cons_zero, List.getElem_cons_succ, List.setIfInBounds_toArray, List.set_cons_zero, List.set_cons_succ]
        refine wpAnyH_take (i := 11) (v := (.int .u64 id2)) rfl (by kernel_rfl) (by kernel_rfl) (by kernel_rfl) (fun _ _ _ h => h) (Or.inl ⟨by rfl, ?_⟩) hHeld ?_
        · intro w hSw
          obtain ⟨a0, a1, a2, a3, a4, a5, a6, a7, a8, a9⟩ := hSw
          go_simp
        simp only [Act.put, List.getElem_toArray, List.getElem_cons_zero, List.getElem_cons_succ, List.setIfInBounds_toArray, List.set_cons_zero, List.set_cons_succ]
        refine wpAnyH_take (i := 12) (v := (.bool false)) rfl (by kernel_rfl) (by kernel_rfl) (by kernel_rfl) (fun _ _ _ h => h) (Or.inl ⟨by rfl, ?_⟩) hHeld ?_
        · intro w hSw
          obtain ⟨a0, a1, a2, a3, a4, a5, a6, a7, a8, a9⟩ := hSw
          go_simp
        simp only [Act.put, List.getElem_toArray, List.getElem_cons_zero, List.getElem_cons_succ, List.setIfInBounds_toArray, List.set_cons_zero, List.set_cons_succ]
        refine wpAnyH_take (i := 13) (v := (.bool false)) rfl (by kernel_rfl) (by kernel_rfl) (by kernel_rfl) (fun _ _ _ h => h) (Or.inl ⟨by rfl, ?_⟩) hHeld ?_
        · intro w hSw
          obtain ⟨a0, a1, a2, a3, a4, a5, a6, a7, a8, a9⟩ := hSw
          go_simp
        simp only [Act.put, List.getElem_toArray, List.getElem_cons_zero, List.getElem_cons_succ, List.setIfInBounds_toArray, List.set_cons_zero, List.set_cons_succ]
        refine wpAnyH_take (i := 14) (v := (.bool false)) rfl (by kernel_rfl) (by kernel_rfl) (by kernel_rfl) (fun _ _ _ h => h) (Or.inl ⟨by rfl, ?_⟩) hHeld ?_
        · intro w hSw
          obtain ⟨a0, a1, a2, a3, a4, a5, a6, a7, a8, a9⟩ := hSw
          go_simp
        simp only [Act.put, List.getElem_toArray, List.getElem_cons_zero, List.getElem_cons_succ, List.setIfInBounds_toArray, List.set_cons_zero, List.set_cons_succ]
        refine wpAnyH_take (i := 15) (v := (.pointer (some ⟨gx, 1, none⟩))) rfl (by kernel_rfl) (by kernel_rfl) (by kernel_rfl) (fun _ _ _ h => h) (Or.inl ⟨by rfl, ?_⟩) hHeld ?_
        · intro w hSw
          obtain ⟨a0, a1, a2, a3, a4, a5, a6, a7, a8, a9⟩ := hSw
          go_simp
        simp only [Act.put, List.getElem_toArray, List.getElem_cons_zero, List.getElem_cons_succ, List.setIfInBounds_toArray, List.set_cons_zero, List.set_cons_succ]
        refine wpAnyH_take (i := 16) (v := (.agg #[.int .i64 x2.tag, .slice A1 x2.vec.length c1, .string x2.str])) rfl (by kernel_rfl) (by kernel_rfl) (by kernel_rfl) (fun _ _ _ h => h) (Or.inl ⟨by rfl, ?_⟩) hHeld ?_
        · intro w hSw
          obtain ⟨a0, a1, a2, a3, a4, a5, a6, a7, a8, a9⟩ := hSw
          go_simp
        simp only [Act.put, List.getElem_toArray, List.getElem_cons_zero, List.getElem_cons_succ, List.setIfInBounds_toArray, List.set_cons_zero, List.set_cons_succ]
        refine wpAnyH_take (i := 17) (v := (.slice (some ⟨b, o, none⟩) q.length c)) rfl (by kernel_rfl) (by kernel_rfl) (by kernel_rfl) (fun _ _ _ h => h) (Or.inl ⟨by rfl, ?_⟩) hHeld ?_
        · intro w hSw
          obtain ⟨a0, a1, a2, a3, a4, a5, a6, a7, a8, a9⟩ := hSw
          go_simp
        simp only [Act.put, List.getElem_toArray, List.getElem_cons_zero, List.getElem_cons_succ, List.setIfInBounds_toArray, List.set_cons_zero, List.set_cons_succ]
        refine wpAnyH_take (i := 18) (v := (.int .i64 pre.length)) rfl (by kernel_rfl) (by kernel_rfl) (by kernel_rfl) (fun _ _ _ h => h) (Or.inl ⟨by rfl, ?_⟩) hHeld ?_
        · intro w hSw
          obtain ⟨a0, a1, a2, a3, a4, a5, a6, a7, a8, a9⟩ := hSw
          go_simp
        simp only [Act.put, List.getElem_toArray, List.getElem_cons_zero, List.getElem_cons_succ, List.setIfInBounds_toArray, List.set_cons_zero, List.set_cons_succ]
        refine wpAnyH_take (i := 19) (v := (.pointer (some ⟨b, o + pre.length * 4, none⟩))) rfl (by kernel_rfl) (by kernel_rfl) (by kernel_rfl) (fun _ _ _ h => h) (Or.inl ⟨by rfl, ?_⟩) hHeld ?_
        · intro w hSw
          obtain ⟨a0, a1, a2, a3, a4, a5, a6, a7, a8, a9⟩ := hSw
          go_simp
        simp only [Act.put, List.getElem_toArray, List.getElem_cons_zero, List.getElem_cons_succ, List.setIfInBounds_toArray, List.set_cons_zero, List.set_cons_succ]
        refine wpAnyH_take (i := 20) (v := (.pointer (some ⟨b, o + pre.length * 4 + 1, none⟩))) rfl (by kernel_rfl) (by kernel_rfl) (by kernel_rfl) (fun _ _ _ h => h) (Or.inl ⟨by rfl, ?_⟩) hHeld ?_
        · intro w hSw
          obtain ⟨a0, a1, a2, a3, a4, a5, a6, a7, a8, a9⟩ := hSw
          go_simp
        simp only [Act.put, List.getElem_toArray, List.getElem_cons_zero, List.getElem_cons_succ, List.setIfInBounds_toArray, List.set_cons_zero, List.set_cons_succ]
        refine wpAnyH_take (i := 21) (v := (.agg #[.int .i64 x2.tag, .slice A3 x2.vec.length c3, .string x2.str])) rfl (by kernel_rfl) (by kernel_rfl) (by kernel_rfl) (fun _ _ _ h => h) (Or.inl ⟨by rfl, ?_⟩) hHeld ?_
        · intro w hSw
          obtain ⟨a0, a1, a2, a3, a4, a5, a6, a7, a8, a9⟩ := hSw
          go_simp
        simp only [Act.put, List.getElem_toArray, List.getElem_cons_zero, List.getElem_cons_succ, List.setIfInBounds_toArray, List.set_cons_zero, List.set_cons_succ]
        refine wpAnyH_ready (rs := [22]) (by kernel_rfl) (by simp) ?_
        refine AllReadyH.cons rfl (fun K hK => ?_) AllReadyH.nil
        simp only [List.getElem_toArray, List.getElem_cons_zero, List.getElem_cons_succ]
        go_simp
        refine HSM.out.mono ?_
        rintro e w5 ⟨rfl, hb5⟩
        have hb6 : Below W2.heap.size W2 w5 := ((Below.refl _ _).drew).trans hb5
        refine hK.out _ _ (HSS.out w5 hb6) (fun hHeld => ?_)
        clear hK K
        refine wpAnyH_take (i := 23) (v := (.bool false)) rfl (by kernel_rfl) (by kernel_rfl) (by kernel_rfl) (fun _ _ _ h => h) (Or.inl ⟨by rfl, ?_⟩) hHeld ?_
        · intro w hSw
          obtain ⟨a0, a1, a2, a3, a4, a5, a6, a7, a8, a9⟩ := hSw
          go_simp
        simp only [Act.put, List.getElem_toArray, List.getElem_cons_zero, List.getElem_cons_succ, List.setIfInBounds_toArray, List.set_cons_zero, List.set_cons_succ]
        refine wpAnyH_take (i := 24) (v := (.bool false)) rfl (by kernel_rfl) (by kernel_rfl) (by kernel_rfl) (fun _ _ _ h => h) (Or.inl ⟨by rfl, ?_⟩) hHeld ?_
        · intro w hSw
          obtain ⟨a0, a1, a2, a3, a4, a5, a6, a7, a8, a9⟩ := hSw
          go_simp
        simp only [Act.put, List.getElem_toArray, List.getElem_cons_zero, List.getElem_cons_succ, List.setIfInBounds_toArray, List.set_cons_zero, List.set_cons_succ]
        refine wpAnyH_done (by kernel_rfl) ?_ _
        simp only [inround.Calm]
        have hbx5 := HIE.out.box.below hb6 HIE.out.box.lt
        have hlw5 := HIE.out.low.trans (hb6.mono HIE.out.low.size)
        have hls := HIE.out.less
        have hBs := HIE.out.size
        have hm5 := (HBM.out.below HM4.out.low (by omega)).below hlw5 (by omega)
        have n0 : w5.cell? ⟨p + 1, 0, none⟩ = some (.int .i64 pre.length) := by rw [z1] at hbx5; exact hbx5.cell 0
        have nf : w5.frozen? ⟨p + 1, 0, none⟩ = false := by rw [z1] at hbx5; exact hbx5.frozen 0
        have m0 : w5.cell? ⟨w.heap.size, 0, none⟩ = some (.int .i64 most) := hm5.cell 0
        have ne1 : ¬ p + 1 = w.heap.size := by omega
        have ne2 : ¬ w.heap.size = p + 1 := by omega
        have HKF : Hid (∀ v, KeepsFrom WR.heap.size W2 (w5.setCell ⟨p + 1, 0, none⟩ v)) := Lib.hid fun v => ((show KeepsOthers W2 w5 from ⟨hb6.size, fun k o hk _ => (hb6.block k (Array.getElem?_eq_some_iff.1 hk).1).trans hk⟩).trans (KeepsOthers.setCell _ _ _)).from _
        have HON : Hid (∀ v, Only (Mine (fun i => i = p + 1) B) W2 (w5.setCell ⟨p + 1, 0, none⟩ v)) := Lib.hid fun v => (Only.of_below hb6 (Nat.le_refl _) _).setCell (p := ⟨p + 1, 0, none⟩) (.inl (.inl rfl)) v
        have HBX : Hid (∀ v, Blk (w5.setCell ⟨p + 1, 0, none⟩ v) V0.heap.size 3 #[v]) := Lib.hid fun v => by
          rw [← z1]
          exact hbx5.set_ 0 v
        have HLW : Hid (∀ v, Below V0.heap.size V0 (w5.setCell ⟨p + 1, 0, none⟩ v) ∧ B ≤ (w5.setCell ⟨p + 1, 0, none⟩ v).heap.size) := Lib.hid fun v => ⟨hlw5.setCell (p := ⟨p + 1, 0, none⟩) (by rw [z1]; exact Nat.le_refl _) v, by rw [World.size_setCell]; exact Nat.le_trans hBs hb6.size⟩
        have hcs : (((pre ++ [(id2, (⟨x2, A1, c1⟩ : Kept))]).length : Nat) : Int) = (pre.length : Int) + 1 := by simp
        have hq1 : pre.length < 2513169434843 := by omega
        clear hHeld HSS HSM HIE hbx5 hlw5 hm5 hb5 hb6 hBs i2 i3 i4
        by_cases hms : most ≤ (pre.length : Int) + 1
        · have HZ : Hid (((pre.length : Int) + 1) = max most 1) := Lib.hid (by rcases hls with h | h <;> omega)
          clear hls
          gi_wp2
          exact ⟨HKF.out _, rfl, (HLW.out _).1, by rw [hcs]; exact HBX.out _, by rw [hcs]; exact HZ.out⟩
        · clear hls
          have hms2 : (pre.length : Int) + 1 < most := by omega
          gi_wp2
          exact ⟨by have h := HKF.out (.int .i64 ((pre.length : Int) + 1)); rw [z4] at h; exact h, HON.out _, (HLW.out _).1, by rw [hcs]; exact HBX.out _, by rw [hcs]; exact .inr hms2, (HLW.out _).2⟩
      case done =>
        rintro B D ys V hD hM hie hK
        have hyl : ys.length = q.length := by rw [← rM_length ys, hM, rM_length]
        have n0 : V.cell? ⟨p + 1, 0, none⟩ = some (.int .i64 q.length) := by
          have h := hie.box
          rw [z1, hyl] at h
          exact h.cell 0
        have hlw := hie.low
        have hMV := HM4.out.below hlw
        have hlow : Below w.heap.size w V := HB1.out.trans (hMV.low.mono (by omega))
        have r0 : V.cell? ⟨g, 0, none⟩ = some (.slice A q.length c) := hMV.box.cell 0
        have hmV := (HBM.out.below HM4.out.low (by omega)).below hlw (by omega)
        have hkV := (HBK.out.below HM4.out.low (by omega)).below hlw (by omega)
        have m0 : V.cell? ⟨w.heap.size, 0, none⟩ = some (.int .i64 most) := hmV.cell 0
        have hDl := (Array.getElem?_eq_some_iff.1 hK).1
        have HKV := Lib.hid hkV
        have HKD := Lib.hid hK
        have HLO := Lib.hid hlow
        clear hie hM hK hyl hlw hMV hlow hmV hkV HT hMR hgn HI0
        gi_wp2
        refine ⟨trivial, ?_⟩
        refine (HLV.out V).mono ?_
        rintro e w9 ⟨rfl, hb9⟩
        have hk9 := HKV.out.below hb9 HKV.out.lt
        have k0 : w9.cell? ⟨w.heap.size + 1, 0, none⟩ = some (.bool false) := hk9.cell 0
        have kf : w9.frozen? ⟨w.heap.size + 1, 0, none⟩ = false := hk9.frozen 0
        have hKX : (w9.setCell ⟨w.heap.size + 1, 0, none⟩ (.bool true)).heap[D]? = some (.deferred (some [])) := (Below.heap_setCell w9 ⟨w.heap.size + 1, 0, none⟩ (.bool true) D (by show D ≠ w.heap.size + 1; omega)).trans ((hb9.block D hDl).trans HKD.out)
        have hlX : Below w.heap.size w (w9.setCell ⟨w.heap.size + 1, 0, none⟩ (.bool true)) := (HLO.out.trans (hb9.mono HLO.out.size)).setCell (p := ⟨w.heap.size + 1, 0, none⟩) (by show w.heap.size ≤ w.heap.size + 1; omega) _
        have HE : Hid (Below w.heap.size w ((w9.setCell ⟨w.heap.size + 1, 0, none⟩ (.bool true)).putObj D (.deferred none))) := Lib.hid (hlX.trans (belowK_b (w := w) (Nat.le_refl _) _ D _ _ (by omega) hKX rfl rfl))
        have HKX := Lib.hid hKX
        have HBX := Lib.hid (hk9.set_ 0 (.bool true))
        clear hk9 hKX hlX hb9
        have k1 : ((w9.setCell ⟨w.heap.size + 1, 0, none⟩ (.bool true)).putObj D (.deferred none)).cell? ⟨w.heap.size + 1, 0, none⟩ = some (.bool true) := cell_kept (HBX.out.cell 0) (grownBy_putObj' _ D (.deferred none)) (fun r e => by injection e with e; subst e; exact ⟨_, HKX.out, rfl⟩)
        gi_wp2
        refine ⟨by simp, .inl ⟨_, _, rfl, run_takeDeferred HKX.out, ?_⟩⟩
        refine ⟨.bool true, ?_, rfl, HE.out⟩
        simp [results, Try.f4, go_sem, k1]
      case stop =>
        rintro B D cx pre V hD ⟨rfl, hie⟩ hK
        have n0 : V.cell? ⟨p + 1, 0, none⟩ = some (.int .i64 pre.length) := by
          have h := hie.box
          rw [z1] at h
          exact h.cell 0
        have hfull := hie.full
        have hlw := hie.low
        have hMV := HM4.out.below hlw
        have hlow : Below w.heap.size w V := HB1.out.trans (hMV.low.mono (by omega))
        have r0 : V.cell? ⟨g, 0, none⟩ = some (.slice A q.length c) := hMV.box.cell 0
        have hmV := (HBM.out.below HM4.out.low (by omega)).below hlw (by omega)
        have hkV := (HBK.out.below HM4.out.low (by omega)).below hlw (by omega)
        have m0 : V.cell? ⟨w.heap.size, 0, none⟩ = some (.int .i64 most) := hmV.cell 0
        have hDl := (Array.getElem?_eq_some_iff.1 hK).1
        have HKV := Lib.hid hkV
        have HKD := Lib.hid hK
        have HLO := Lib.hid hlow
        clear hie hK hlw hMV hlow hmV hkV HT hMR hgn HI0
        by_cases hn : pre.length = q.length
        · rw [hn] at n0
          clear hfull
          gi_wp2
          refine ⟨trivial, ?_⟩
          refine (HLV.out V).mono ?_
          rintro e w9 ⟨rfl, hb9⟩
          have hk9 := HKV.out.below hb9 HKV.out.lt
          have k0 : w9.cell? ⟨w.heap.size + 1, 0, none⟩ = some (.bool false) := hk9.cell 0
          have kf : w9.frozen? ⟨w.heap.size + 1, 0, none⟩ = false := hk9.frozen 0
          have hKX : (w9.setCell ⟨w.heap.size + 1, 0, none⟩ (.bool true)).heap[D]? = some (.deferred (some [])) := (Below.heap_setCell w9 ⟨w.heap.size + 1, 0, none⟩ (.bool true) D (by show D ≠ w.heap.size + 1; omega)).trans ((hb9.block D hDl).trans HKD.out)
          have hlX : Below w.heap.size w (w9.setCell ⟨w.heap.size + 1, 0, none⟩ (.bool true)) := (HLO.out.trans (hb9.mono HLO.out.size)).setCell (p := ⟨w.heap.size + 1, 0, none⟩) (by show w.heap.size ≤ w.heap.size + 1; omega) _
          have HE : Hid (Below w.heap.size w ((w9.setCell ⟨w.heap.size + 1, 0, none⟩ (.bool true)).putObj D (.deferred none))) := Lib.hid (hlX.trans (belowK_b (w := w) (Nat.le_refl _) _ D _ _ (by omega) hKX rfl rfl))
          have HKX := Lib.hid hKX
          have HBX := Lib.hid (hk9.set_ 0 (.bool true))
          clear hk9 hKX hlX hb9
          have k1 : ((w9.setCell ⟨w.heap.size + 1, 0, none⟩ (.bool true)).putObj D (.deferred none)).cell? ⟨w.heap.size + 1, 0, none⟩ = some (.bool true) := cell_kept (HBX.out.cell 0) (grownBy_putObj' _ D (.deferred none)) (fun r e => by injection e with e; subst e; exact ⟨_, HKX.out, rfl⟩)
          gi_wp2
          refine ⟨by simp, .inl ⟨_, _, rfl, run_takeDeferred HKX.out, ?_⟩⟩
          refine ⟨.bool true, ?_, rfl, HE.out⟩
          simp [results, Try.f4, go_sem, k1]
        · have i5 : ((pre.length : Int) == (q.length : Int)) = false := by simp; omega
          have i6 : ((pre.length : Int) == max most 1) = true := by rw [hfull]; simp
          gi_wp2
          refine ⟨trivial, ?_⟩
          refine (HLV.out V).mono ?_
          rintro e w9 ⟨rfl, hb9⟩
          have hk9 := HKV.out.below hb9 HKV.out.lt
          have k0 : w9.cell? ⟨w.heap.size + 1, 0, none⟩ = some (.bool false) := hk9.cell 0
          have kf : w9.frozen? ⟨w.heap.size + 1, 0, none⟩ = false := hk9.frozen 0
          have hKX : (w9.setCell ⟨w.heap.size + 1, 0, none⟩ (.bool true)).heap[D]? = some (.deferred (some [])) := (Below.heap_setCell w9 ⟨w.heap.size + 1, 0, none⟩ (.bool true) D (by show D ≠ w.heap.size + 1; omega)).trans ((hb9.block D hDl).trans HKD.out)
          have hlX : Below w.heap.size w (w9.setCell ⟨w.heap.size + 1, 0, none⟩ (.bool true)) := (HLO.out.trans (hb9.mono HLO.out.size)).setCell (p := ⟨w.heap.size + 1, 0, none⟩) (by show w.heap.size ≤ w.heap.size + 1; omega) _
          have HE : Hid (Below w.heap.size w ((w9.setCell ⟨w.heap.size + 1, 0, none⟩ (.bool true)).putObj D (.deferred none))) := Lib.hid (hlX.trans (belowK_b (w := w) (Nat.le_refl _) _ D _ _ (by omega) hKX rfl rfl))
          have HKX := Lib.hid hKX
          have HBX := Lib.hid (hk9.set_ 0 (.bool true))
          clear hk9 hKX hlX hb9
          have k1 : ((w9.setCell ⟨w.heap.size + 1, 0, none⟩ (.bool true)).putObj D (.deferred none)).cell? ⟨w.heap.size + 1, 0, none⟩ = some (.bool true) := cell_kept (HBX.out.cell 0) (grownBy_putObj' _ D (.deferred none)) (fun r e => by injection e with e; subst e; exact ⟨_, HKX.out, rfl⟩)
          gi_wp2
          refine ⟨by simp, .inl ⟨_, _, rfl, run_takeDeferred HKX.out, ?_⟩⟩
          refine ⟨.bool true, ?_, rfl, HE.out⟩
          simp [results, Try.f4, go_sem, k1]
theorem lifted (os : Os) (started : os.Started) (H : Type) (enc : TypeId × Value → H) :
    ReturnsInHanded {} Try.checked os 4 .any (Rows.storeEachSpec.pre6 enc Try.prog Try.f4 Rows.storeEachRow.domain false) (Rows.storeEachSpec.post enc Try.prog Try.f4 false true false false) := by
  refine lift (C := Try.checked) (by kernel_rfl) started (by kernel_rfl) Try.func4 rfl (by kernel_rfl) (by kernel_rfl) rfl Try.underlying4
    (fun ds hd => by match ds, hd with | [_, _], _ => exact ⟨rfl, rfl, rfl⟩)
    (ChangeSpec.witness6 (enc := enc) (C := Try.checked) false ⟨#[], #[.slice none 0 0, .int .i64 0], []⟩ 8 (by kernel_rfl) (by kernel_rfl) (by kernel_rfl) (by kernel_rfl)) ?_
  intro W base args ds before hval0 hA0 hfz hsz0
  have hval : ∀ (j : Nat) t v, Try.f4.params[j]? = some t → args[j]? = some v → Value.okWide Try.prog W .any base t v := hval0
  have hA : DataW.TrodAll enc Try.prog W 0 (fun _ => true) true Try.f4.params.toList args.toList ds before := hA0
  have hsz : (DataW.weightsEach Try.prog Try.f4.params.toList ds).all (· ≤ reachBytes) = true := hsz0
  rw [Try.params4] at hA hval hsz
  obtain ⟨v0, vs0, d0, ds0, p0, q0, hargs, rfl, rfl, h0, r0⟩ := trodAll_cons hA
  obtain ⟨v1, vs1, d1, ds1, p1, q1, rfl, rfl, rfl, h1, r1⟩ := trodAll_cons r0
  obtain ⟨rfl, rfl, rfl⟩ := trodAll_nil r1
  obtain rfl : args = #[v0, v1] := by cases args; simp_all
  obtain ⟨A, c, l, rfl, hr, hin, hm⟩ := open_items (hval 0 25 v0 rfl rfl) h0 hsz (j := 0) rfl rfl
  obtain ⟨a1, rfl, rfl, rfl, w1⟩ := open_int Try.underlying3 (hval 1 3 v1 rfl rfl) h1
  exact walk A c l a1 W hr hin hm

theorem proved : Rows.StoreEachSaid :=
  OpenClaim.holds_of_wide 4 Try.f4 rfl rfl rfl rfl rfl rfl rfl ⟨rfl, rfl, rfl, rfl, rfl⟩ rfl rfl rfl rfl rfl (by kernel_rfl) Try.func4 (by kernel_rfl)
    (of_decide_eq_true (by kernel_rfl)) (by unfold Func.isWrapper; first | (rw [if_pos (by decide +kernel)]; kernel_rfl) | (rw [if_neg (by decide +kernel)]; exact ⟨rfl, rfl⟩))
    (fun os started H enc _ => lifted os started H enc)
#print axioms proved
end Go.Proofs.Ytaickhhbdbbmjaa.storeEach
