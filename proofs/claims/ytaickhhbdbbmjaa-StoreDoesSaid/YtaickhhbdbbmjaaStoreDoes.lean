/-
  For every row of deeds the law StoreDoes returns true, and changes nothing that there was. No condition.
-/
import Derived.Test.YtaickhhbdbbmjaaStO
import Derived.Test.YtaickhhbdbbmjaaStJ
import Derived.Deep.LoopGhost
namespace Go.Proofs.Ytaickhhbdbbmjaa.storeDoes
open Go.RowKit law bytes only flat ord obj store came
open aro (Kept zK)
open Go.ChangeShapes Go.WideShapes Go.ChangeAt
set_option linter.unusedVariables false

/-- the store and the document's row side by side -/
structure Md (w0 : World) (sb : Nat) (T : Nat → Prop) (k : Nat) (A : Option Addr) (q : List (Int × Kept)) (W : World) : Prop where
  low : Below w0.heap.size w0 W
  st : St W w0.heap.size sb T (rM q) k
  row : Away W T A (q.flatMap iE)
  rise : RiseQ q
  lie : Lie w0 w0.heap.size q
  len : q.length ≤ k
section
variable {w0 W W1 W2 : World} {sb k : Nat} {T : Nat → Prop} {A : Option Addr} {q : List (Int × Kept)} {id : Int} {x : Kept}
theorem Md.below (h : Md w0 sb T k A q W) (hb : Below W.heap.size W W2) : Md w0 sb T k A q W2 := ⟨h.low.trans (hb.mono h.low.size), h.st.below hb, h.row.below hb, h.rise, h.lie, h.len⟩
/-- behind a method of the store: the row still reads -/
theorem Md.turned {M : List (Int × Thing)} {m : Nat} (h : Md w0 sb T k A q W) (hl : store.Left W w0.heap.size sb T M m W1) : ∃ T1, Below w0.heap.size w0 W1 ∧ St W1 w0.heap.size sb T1 M m ∧ Away W1 T1 A (q.flatMap iE) ∧ ∀ i, T1 i → i < W1.heap.size := by
  have hb := hl.below h.st h.low.size
  obtain ⟨ho, T1, hst, hT1⟩ := hl
  exact ⟨T1, h.low.trans hb, hst, h.row.step ho fun i hi hn e => by
    rcases hT1 i e with e | e
    · exact hn e
    · omega, fun i e => (hst.low e).2⟩
end
/-- what is asked behind a deed -/
def Asks (sb : Nat) (A : Option Addr) (c n : Nat) (id : Int) (K : Kept) (bb : Bool) (W : World) : Prop :=
  (Calls Try.prog 12 #[.pointer (some ⟨sb, 0, none⟩), .int .u64 id] W fun e w' => ∃ A3 c3, e = .returned (.tuple #[.agg #[.int .i64 K.x.tag, .slice A3 K.x.vec.length c3, .string K.x.str], .bool bb]) ∧ Sl w' w'.heap.size A3 (iv K.x.vec) ∧ Below W.heap.size W w') ∧
  (Calls Try.prog 13 #[.slice A n c, .int .u64 id] W fun e w' => e = .returned (.tuple #[.agg #[.int .i64 K.x.tag, .slice K.A K.x.vec.length K.c, .string K.x.str], .bool bb]) ∧ Below W.heap.size W w') ∧
  (Calls Try.prog 14 #[.pointer (some ⟨sb, 0, none⟩), .int .u64 id] W fun e w' => e = .returned (.bool bb) ∧ Below W.heap.size W w') ∧
  (Calls Try.prog 16 #[.pointer (some ⟨sb, 0, none⟩)] W fun e w' => e = .returned (.int .i64 n) ∧ Below W.heap.size W w') ∧
  (Calls Try.prog 18 #[.pointer (some ⟨sb, 0, none⟩)] W fun e w' => ∃ A3 n3 c3, e = .returned (.slice A3 n3 c3) ∧ Below W.heap.size W w' ∧ Calls Try.prog 17 #[.slice A3 n3 c3, .slice A n c] w' fun e w'' => e = .returned (.bool true) ∧ Below w'.heap.size w' w'') ∧
  Sl W W.heap.size K.A (iv K.x.vec) ∧ K.x.vec.length ≤ 281474976710656
theorem gq_mem {q : List (Int × Kept)} {id : Int} {k : Kept} (h : gq q id = some k) : ∃ p ∈ q, p.2 = k := by
  unfold gq at h
  cases hf : q.find? (fun p => p.1 == id) with
  | none => rw [hf] at h; cases h
  | some p =>
    rw [hf] at h
    injection h with h
    exact ⟨p, List.mem_of_find?_eq_some hf, h⟩
theorem asks {w0 W : World} {sb k : Nat} {T : Nat → Prop} {A : Option Addr} {q : List (Int × Kept)} (h : Md w0 sb T k A q W) (hk : k ≤ 2513169434913) (c : Nat) (id : Int) : Asks sb A c q.length id ((gq q id).getD zK) (gq q id).isSome W := by
  have hl := h.len
  have e1 : (mf (rM q) id).getD zeroO = ((gq q id).getD zK).x := by rw [gq_rM]; cases gq q id <;> rfl
  have e2 : (mf (rM q) id).isSome = (gq q id).isSome := gq_isSome q id
  have hlow := h.low.size
  have hlie : Lie W W.heap.size q := fun p hp => ⟨((h.lie p hp).1.below h.low).more hlow, (h.lie p hp).2⟩
  have hK : Sl W W.heap.size ((gq q id).getD zK).A (iv ((gq q id).getD zK).x.vec) ∧ Fit ((gq q id).getD zK).x := by
    cases hg : gq q id with
    | none => exact ⟨Sl.nil, zero_fit⟩
    | some kk =>
      obtain ⟨p, hp, rfl⟩ := gq_mem hg
      exact hlie p hp
  refine ⟨?_, ?_, ?_, ?_, ?_, hK.1, by have := hK.2.1; omega⟩
  · refine (get_st h.st id).mono fun e w' ⟨A3, c3, he, ho, hb⟩ => ?_
    rw [e1, e2] at he
    rw [e1] at ho
    exact ⟨A3, c3, he, Sl.of_own ho, hb⟩
  · exact rget_any A c q id W h.row.sl (by omega)
  · have := has_st h.st id
    rw [e2] at this
    exact this
  · have := len_st h.st
    rw [rM_length] at this
    exact this
  · refine (items_st h.st hlow (by omega)).mono fun e w' ⟨A3, c3, r, he, ho, hM, hown, hb⟩ => ⟨A3, r.length, c3, he, hb, ?_⟩
    have hrl : r.length = q.length := by rw [← rM_length r, hM, rM_length]
    refine rsameI_any A3 A c3 c r q w' hM (Sl.of_ownK ho) ((h.row.below hb).sl) (Lie.of_owns hown fun p hp => ?_) (fun p hp => ⟨((hlie p hp).1.below hb).more hb.size, (hlie p hp).2⟩) (by omega)
    have hp2 : (p.1, p.2.x) ∈ rM q := by rw [← hM]; exact List.mem_map.2 ⟨p, hp, rfl⟩
    obtain ⟨p', hp', e⟩ := List.mem_map.1 hp2
    injection e with _ e
    rw [← e]
    exact (h.lie p' hp').2

/-- what a deed comes to, and what is asked behind it -/
def Done (w0 : World) (sb k : Nat) (A : Option Addr) (q : List (Int × Kept)) (W : World) : Prop := ∃ T, Md w0 sb T k A q W
theorem Done.below {w0 W W2 : World} {sb k : Nat} {A : Option Addr} {q : List (Int × Kept)} (h : Done w0 sb k A q W) (hb : Below W.heap.size W W2) : Done w0 sb k A q W2 := by
  obtain ⟨T, h⟩ := h
  exact ⟨T, h.below hb⟩
theorem Done.low {w0 W : World} {sb k : Nat} {A : Option Addr} {q : List (Int × Kept)} (h : Done w0 sb k A q W) : Below w0.heap.size w0 W := by
  obtain ⟨T, h⟩ := h
  exact h.low
theorem cuts {w0 W : World} {sb k : Nat} {T : Nat → Prop} {A : Option Addr} {q : List (Int × Kept)} (h : Md w0 sb T k A q W) (hk : k ≤ 2513169434913) (c : Nat) (id : Int) :
    ∃ f : Int, Calls Try.prog 8 #[.pointer (some ⟨sb, 0, none⟩), .int .u64 id] W fun e w' => e = .returned (.int .i64 f) ∧ Below w0.heap.size w0 w' ∧
      Calls Try.prog 9 #[.slice A q.length c, .int .u64 id] w' fun e w'' => ∃ A2 n2 c2 q2, e = .returned (.tuple #[.slice A2 n2 c2, .int .i64 f]) ∧ n2 = q2.length ∧ Done w0 sb (k + 1) A2 q2 w'' := by
  have hl := h.len
  refine ⟨if (gq q id).isSome = true then 0 else 5, ?_⟩
  have hc := cut_st h.st id h.low.size (by omega)
  rw [gq_isSome] at hc
  refine hc.mono fun e w' ⟨he, hlf⟩ => ?_
  obtain ⟨T1, hlow, hst, hrow, hT1⟩ := h.turned hlf
  refine ⟨he, hlow, (rcut_any A c q id w' T1 hT1 hrow (by omega)).mono fun e w'' ⟨A2, c2, he2, hrow2, hb2⟩ => ⟨A2, _, c2, delQ q id, he2, rfl, T1, hlow.trans (hb2.mono hlow.size), ?_, hrow2, h.rise.del id, fun p hp => h.lie p (mem_delQ hp), by have := delQ_le q id; omega⟩⟩
  rw [rM_delQ]
  exact (hst.more (Nat.le_succ k)).below hb2
theorem puts {w0 W : World} {sb k : Nat} {T : Nat → Prop} {A : Option Addr} {q : List (Int × Kept)} (h : Md w0 sb T k A q W) (hk : k ≤ 2513169434913) (c : Nat) (id : Int) (x : Kept) (hs : Sl w0 w0.heap.size x.A (iv x.x.vec)) (hf : Fit x.x) :
    ∃ f : Int, Calls Try.prog 10 #[.pointer (some ⟨sb, 0, none⟩), .agg #[.int .u64 id, .int .i64 x.x.tag, .slice x.A x.x.vec.length x.c, .string x.x.str]] W fun e w' => e = .returned (.int .i64 f) ∧ Below w0.heap.size w0 w' ∧
      Calls Try.prog 11 #[.slice A q.length c, .agg #[.int .u64 id, .int .i64 x.x.tag, .slice x.A x.x.vec.length x.c, .string x.x.str]] w' fun e w'' => ∃ A2 n2 c2 q2, e = .returned (.tuple #[.slice A2 n2 c2, .int .i64 f]) ∧ n2 = q2.length ∧ Done w0 sb (k + 1) A2 q2 w'' := by
  have hl := h.len
  refine ⟨if (gq q id).isSome = true then 4 else 0, ?_⟩
  have hc := put_st h.st id x.x x.A x.c ((hs.below h.low).more h.low.size) hf h.low.size (by omega)
  rw [gq_isSome] at hc
  refine hc.mono fun e w' ⟨he, hlf⟩ => ?_
  obtain ⟨T1, hlow, hst, hrow, hT1⟩ := h.turned hlf
  refine ⟨he, hlow, (rput_any A c q id x w' T1 hT1 hrow h.rise (by omega)).mono fun e w'' ⟨A2, c2, he2, hrow2, hb2⟩ => ⟨A2, _, c2, putQ q id x, he2, rfl, T1, hlow.trans (hb2.mono hlow.size), ?_, hrow2, h.rise.put id x, fun p hp => ?_, by have := putQ_len q id x; omega⟩⟩
  · rw [rM_putQ]
    exact hst.below hb2
  · rcases mem_putQ hp with rfl | hp
    · exact ⟨hs, hf⟩
    · exact h.lie p hp

set_option maxRecDepth 100000 in
set_option maxHeartbeats 6400000 in
theorem walk (A : Option Addr) (c : Nat) (l : List (Bool × Int × Kept)) (w : World) (hr : Came 5 dE w A l) (hin : ∀ q ∈ l, Sl w w.heap.size q.2.2.A (iv q.2.2.x.vec) ∧ Fit q.2.2.x) (hl : l.length * 64 ≤ 140737488351232) : Calls Try.prog 3 #[.slice A l.length c] w fun e w' => e = .returned (.bool true) ∧ Below w.heap.size w w' := by
  have HN := Lib.hid (new_st w)
  have HLV := Lib.hid (fun W => lives_any W)
  have HIN := Lib.hid hin
  have HCM := Lib.hid hr
  clear hr hin
  go_enter Try.func3, Try.ntmps3
  go_wp2_with (fail)
  refine HN.out.mono ?_
  rintro e w1 ⟨sb, T, rfl, hb1, h1⟩
  have HM0 : Hid (Md w sb T 0 none [] w1) := Lib.hid ⟨hb1, h1, Away.nil, List.Pairwise.nil, fun p hp => by simp at hp, Nat.le_refl _⟩
  clear HN hb1 h1
  go_wp2_with (fail)
  go_loopg [4, 5] l.length (fun gk s4 s5 wr => ∃ (k : Nat) (A' : Option Addr) (c' : Nat) (q : List (Int × Kept)) (T : Nat → Prop), gk = l.length - k ∧ k ≤ l.length ∧ s4 = .slice A' q.length c' ∧ s5 = .int .i64 k ∧ Md w sb T k A' q wr)
  case atStart => exact ⟨0, none, 0, [], T, rfl, Nat.zero_le _, rfl, rfl, HM0.out⟩
  case round =>
    clear HM0
    obtain ⟨k, A', c', q, T1, rfl, hk, rfl, rfl, hm⟩ := hrel
    by_cases hlt : k < l.length
    · have i1 : (k : Int) < (l.length : Int) := by omega
      obtain ⟨b, o, hA, hbl⟩ := HCM.out.row (by decide) dE_len (by omega)
      subst hA
      obtain ⟨⟨cut, id, x⟩, hd⟩ : ∃ d, l[k] = d := ⟨_, rfl⟩
      have hcell : ∀ W, Below w.heap.size w W → W.cell? ⟨b, o + k * 5, none⟩ = some (.bool cut) ∧ W.cell? ⟨b, o + k * 5 + 1, none⟩ = some (.int .u64 id) ∧ W.cell? ⟨b, o + k * 5 + 1 + 1, none⟩ = some (.int .i64 x.x.tag) ∧ W.cell? ⟨b, o + k * 5 + 1 + 2, none⟩ = some (.slice x.A x.x.vec.length x.c) ∧ W.cell? ⟨b, o + k * 5 + 1 + 3, none⟩ = some (.string x.x.str) := fun W hW => by
        have key : ∀ j, (hj : j < 5) → W.cell? ⟨b, o + k * 5 + j, none⟩ = (dE (cut, id, x))[j]? := fun j hj => by
          rw [hW.cell (p := ⟨b, _, none⟩) hbl, HCM.out.at_ k hlt j hj, hd]
        exact ⟨key 0 (by decide), key 1 (by decide), key 2 (by decide), key 3 (by decide), key 4 (by decide)⟩
      obtain ⟨hsx, hfx⟩ := HIN.out l[k] (List.getElem_mem hlt)
      rw [hd] at hsx hfx
      obtain ⟨d0, d1, d2, d3, d4⟩ := hcell wr hm.low
      have HCL := Lib.hid hcell
      have hT1 : ∀ i, T1 i → i < wr.heap.size := fun i e => (hm.st.low e).2
      cases cut with
      | true =>
        obtain ⟨f, hcut⟩ := cuts hm (by omega) c' id
        have HCU := Lib.hid hcut
        clear hcut hm hcell hT1 hsx hfx hd
        go_wp2_with (fail)
        refine HCU.out.mono ?_
        rintro e w2 ⟨rfl, hlow2, hcall⟩
        have HRC := Lib.hid hcall
        clear HCU hcall hlow2 d0 d1 d2 d3 d4
        go_wp2_with (fail)
        refine HRC.out.mono ?_
        rintro e w2' ⟨A2, n2, c2, q2, rfl, hn2, hdn⟩
        clear HRC
        obtain ⟨K, hK⟩ : ∃ K, K = (gq q2 id).getD zK := ⟨_, rfl⟩
        obtain ⟨bb, hbb⟩ : ∃ bb, bb = (gq q2 id).isSome := ⟨_, rfl⟩
        have HASK : Hid (∀ W, Done w sb (k + 1) A2 q2 W → Asks sb A2 c2 n2 id K bb W) := Lib.hid fun W hW => by
          obtain ⟨T2, h⟩ := hW
          rw [hK, hbb, hn2]
          exact asks h (by omega) c2 id
        have HN2 := Lib.hid hn2
        have i2 : (f != f) = false := by simp
        have i3 : (bb != bb) = false := by simp
        have i4 : ((n2 : Int) != (n2 : Int)) = false := by simp
        clear hK hbb hn2
        have HG1 := Lib.hid (HASK.out _ hdn).1
        go_wp2_with (fail)
        refine HG1.out.mono ?_
        rintro e w3 ⟨A3, c3, rfl, hs3, hb3⟩
        have hal3 : Below w3.heap.size w3 (w3.alloc (.cells #[.int .i64 K.x.tag, .slice A3 K.x.vec.length c3, .string K.x.str] 29)) := (Below.refl _ _).alloc (Nat.le_refl _) _
        have hgx := Blk.new w3 29 #[.int .i64 K.x.tag, .slice A3 K.x.vec.length c3, .string K.x.str]
        have hd3 := (hdn.below hb3).below hal3
        have hs3' := hs3.on hal3
        obtain ⟨gx, hgxe⟩ : ∃ g, g = w3.heap.size := ⟨_, rfl⟩
        rw [← hgxe] at hgx
        have HG2 := Lib.hid (HASK.out _ hd3).2.1
        have HGX := Lib.hid hgxe
        clear HG1 hdn hb3 hal3 hs3 hgxe
        generalize hV3 : w3.alloc (.cells #[.int .i64 K.x.tag, .slice A3 K.x.vec.length c3, .string K.x.str] 29) = V3 at hgx hd3 hs3' HG2
        go_wp2_with (fail)
        rw [← HGX.out]
        clear hV3 HGX
        refine HG2.out.mono ?_
        rintro e w4 ⟨rfl, hb4⟩
        have hal4 : Below w4.heap.size w4 (w4.alloc (.cells #[.int .i64 K.x.tag, .slice K.A K.x.vec.length K.c, .string K.x.str] 29)) := (Below.refl _ _).alloc (Nat.le_refl _) _
        have hgy := Blk.new w4 29 #[.int .i64 K.x.tag, .slice K.A K.x.vec.length K.c, .string K.x.str]
        have hd4 := (hd3.below hb4).below hal4
        have hs4 := (hs3'.on hb4).on hal4
        have hgx4 := (hgx.below hb4 hgx.lt).below hal4 (Nat.lt_of_lt_of_le hgx.lt hb4.size)
        obtain ⟨gy, hgye⟩ : ∃ g, g = w4.heap.size := ⟨_, rfl⟩
        rw [← hgye] at hgy
        have HG3 := Lib.hid (HASK.out _ hd4).2.2.1
        have HGY := Lib.hid hgye
        clear HG2 hd3 hb4 hal4 hs3' hgye hgx
        generalize hV4 : w4.alloc (.cells #[.int .i64 K.x.tag, .slice K.A K.x.vec.length K.c, .string K.x.str] 29) = V4 at hgx4 hgy hd4 hs4 HG3
        go_wp2_with (fail)
        rw [← HGY.out]
        clear hV4 HGY
        refine HG3.out.mono ?_
        rintro e w5 ⟨rfl, hb5⟩
        have hd5 := hd4.below hb5
        have hs5 := hs4.on hb5
        obtain ⟨x0, x1, x2, -⟩ := cells3 (hgx4.below hb5 hgx4.lt)
        obtain ⟨y0, y1, y2, -⟩ := cells3 (hgy.below hb5 hgy.lt)
        have hky := (HASK.out _ hd5).2.2.2.2.2
        have HSM : Hid (Calls Try.prog 15 #[.agg #[.int .i64 K.x.tag, .slice A3 K.x.vec.length c3, .string K.x.str], .agg #[.int .i64 K.x.tag, .slice K.A K.x.vec.length K.c, .string K.x.str]] w5 (Gives (.bool true) w5)) := Lib.hid (by
          have h := rsame_any A3 K.A c3 K.c w5.heap.size w5.heap.size K.x K.x w5 hky.2 hky.2 (Nat.le_refl _) (Nat.le_refl _) hs5 hky.1
          rw [sameO_rfl] at h
          exact h)
        clear HG3 hd4 hb5 hs4 hs5 hgx4 hgy hky
        go_wp2_with (fail)
        refine HSM.out.mono ?_
        rintro e w6 ⟨rfl, hb6⟩
        have hd6 := hd5.below hb6
        have HLN := Lib.hid (HASK.out _ hd6).2.2.2.1
        clear HSM hd5 hb6 x0 x1 x2 y0 y1 y2
        go_wp2_with (fail)
        refine HLN.out.mono ?_
        rintro e w7 ⟨rfl, hb7⟩
        have hd7 := hd6.below hb7
        have HIT := Lib.hid (HASK.out _ hd7).2.2.2.2.1
        clear HLN hd6 hb7
        go_wp2_with (fail)
        refine HIT.out.mono ?_
        rintro e w8 ⟨A8, n8, c8, rfl, hb8, hcall⟩
        have hd8 := hd7.below hb8
        have HSI := Lib.hid hcall
        clear HIT hd7 hb8 hcall
        go_wp2_with (fail)
        refine HSI.out.mono ?_
        rintro e w9 ⟨rfl, hb9⟩
        have HD9 := Lib.hid (hd8.below hb9)
        clear HSI hd8 hb9 HASK
        go_wp2_with (fail)
        go_roundg (l.length - (k + 1))
        case measure => omega
        case rel =>
          obtain ⟨T9, hm9⟩ := HD9.out
          exact ⟨k + 1, A2, c2, q2, T9, rfl, by omega, by rw [HN2.out], by go_num, hm9⟩
      | false =>
        obtain ⟨f, hput⟩ := puts hm (by omega) c' id x hsx hfx
        have HPU := Lib.hid hput
        clear hput hm hcell hT1 hsx hfx hd
        go_wp2_with (fail)
        refine HPU.out.mono ?_
        rintro e w2 ⟨rfl, hlow2, hcall⟩
        obtain ⟨e0, e1, e2, e3, e4⟩ := HCL.out w2 hlow2
        have HRC := Lib.hid hcall
        clear HPU hcall hlow2 d0 d1 d2 d3 d4
        go_wp2_with (fail)
        refine HRC.out.mono ?_
        rintro e w2' ⟨A2, n2, c2, q2, rfl, hn2, hdn⟩
        clear HRC e0 e1 e2 e3 e4
        obtain ⟨K, hK⟩ : ∃ K, K = (gq q2 id).getD zK := ⟨_, rfl⟩
        obtain ⟨bb, hbb⟩ : ∃ bb, bb = (gq q2 id).isSome := ⟨_, rfl⟩
        have HASK : Hid (∀ W, Done w sb (k + 1) A2 q2 W → Asks sb A2 c2 n2 id K bb W) := Lib.hid fun W hW => by
          obtain ⟨T2, h⟩ := hW
          rw [hK, hbb, hn2]
          exact asks h (by omega) c2 id
        have HN2 := Lib.hid hn2
        have i2 : (f != f) = false := by simp
        have i3 : (bb != bb) = false := by simp
        have i4 : ((n2 : Int) != (n2 : Int)) = false := by simp
        clear hK hbb hn2
        have HG1 := Lib.hid (HASK.out _ hdn).1
        go_wp2_with (fail)
        refine HG1.out.mono ?_
        rintro e w3 ⟨A3, c3, rfl, hs3, hb3⟩
        have hal3 : Below w3.heap.size w3 (w3.alloc (.cells #[.int .i64 K.x.tag, .slice A3 K.x.vec.length c3, .string K.x.str] 29)) := (Below.refl _ _).alloc (Nat.le_refl _) _
        have hgx := Blk.new w3 29 #[.int .i64 K.x.tag, .slice A3 K.x.vec.length c3, .string K.x.str]
        have hd3 := (hdn.below hb3).below hal3
        have hs3' := hs3.on hal3
        obtain ⟨gx, hgxe⟩ : ∃ g, g = w3.heap.size := ⟨_, rfl⟩
        rw [← hgxe] at hgx
        have HG2 := Lib.hid (HASK.out _ hd3).2.1
        have HGX := Lib.hid hgxe
        clear HG1 hdn hb3 hal3 hs3 hgxe
        generalize hV3 : w3.alloc (.cells #[.int .i64 K.x.tag, .slice A3 K.x.vec.length c3, .string K.x.str] 29) = V3 at hgx hd3 hs3' HG2
        go_wp2_with (fail)
        rw [← HGX.out]
        clear hV3 HGX
        refine HG2.out.mono ?_
        rintro e w4 ⟨rfl, hb4⟩
        have hal4 : Below w4.heap.size w4 (w4.alloc (.cells #[.int .i64 K.x.tag, .slice K.A K.x.vec.length K.c, .string K.x.str] 29)) := (Below.refl _ _).alloc (Nat.le_refl _) _
        have hgy := Blk.new w4 29 #[.int .i64 K.x.tag, .slice K.A K.x.vec.length K.c, .string K.x.str]
        have hd4 := (hd3.below hb4).below hal4
        have hs4 := (hs3'.on hb4).on hal4
        have hgx4 := (hgx.below hb4 hgx.lt).below hal4 (Nat.lt_of_lt_of_le hgx.lt hb4.size)
        obtain ⟨gy, hgye⟩ : ∃ g, g = w4.heap.size := ⟨_, rfl⟩
        rw [← hgye] at hgy
        have HG3 := Lib.hid (HASK.out _ hd4).2.2.1
        have HGY := Lib.hid hgye
        clear HG2 hd3 hb4 hal4 hs3' hgye hgx
        generalize hV4 : w4.alloc (.cells #[.int .i64 K.x.tag, .slice K.A K.x.vec.length K.c, .string K.x.str] 29) = V4 at hgx4 hgy hd4 hs4 HG3
        go_wp2_with (fail)
        rw [← HGY.out]
        clear hV4 HGY
        refine HG3.out.mono ?_
        rintro e w5 ⟨rfl, hb5⟩
        have hd5 := hd4.below hb5
        have hs5 := hs4.on hb5
        obtain ⟨x0, x1, x2, -⟩ := cells3 (hgx4.below hb5 hgx4.lt)
        obtain ⟨y0, y1, y2, -⟩ := cells3 (hgy.below hb5 hgy.lt)
        have hky := (HASK.out _ hd5).2.2.2.2.2
        have HSM : Hid (Calls Try.prog 15 #[.agg #[.int .i64 K.x.tag, .slice A3 K.x.vec.length c3, .string K.x.str], .agg #[.int .i64 K.x.tag, .slice K.A K.x.vec.length K.c, .string K.x.str]] w5 (Gives (.bool true) w5)) := Lib.hid (by
          have h := rsame_any A3 K.A c3 K.c w5.heap.size w5.heap.size K.x K.x w5 hky.2 hky.2 (Nat.le_refl _) (Nat.le_refl _) hs5 hky.1
          rw [sameO_rfl] at h
          exact h)
        clear HG3 hd4 hb5 hs4 hs5 hgx4 hgy hky
        go_wp2_with (fail)
        refine HSM.out.mono ?_
        rintro e w6 ⟨rfl, hb6⟩
        have hd6 := hd5.below hb6
        have HLN := Lib.hid (HASK.out _ hd6).2.2.2.1
        clear HSM hd5 hb6 x0 x1 x2 y0 y1 y2
        go_wp2_with (fail)
        refine HLN.out.mono ?_
        rintro e w7 ⟨rfl, hb7⟩
        have hd7 := hd6.below hb7
        have HIT := Lib.hid (HASK.out _ hd7).2.2.2.2.1
        clear HLN hd6 hb7
        go_wp2_with (fail)
        refine HIT.out.mono ?_
        rintro e w8 ⟨A8, n8, c8, rfl, hb8, hcall⟩
        have hd8 := hd7.below hb8
        have HSI := Lib.hid hcall
        clear HIT hd7 hb8 hcall
        go_wp2_with (fail)
        refine HSI.out.mono ?_
        rintro e w9 ⟨rfl, hb9⟩
        have HD9 := Lib.hid (hd8.below hb9)
        clear HSI hd8 hb9 HASK
        go_wp2_with (fail)
        go_roundg (l.length - (k + 1))
        case measure => omega
        case rel =>
          obtain ⟨T9, hm9⟩ := HD9.out
          exact ⟨k + 1, A2, c2, q2, T9, rfl, by omega, by rw [HN2.out], by go_num, hm9⟩
    · obtain rfl : k = l.length := by omega
      have i1 : ¬ (l.length : Int) < (l.length : Int) := by omega
      have HB := Lib.hid hm.low
      clear hm
      go_wp2_with (fail)
      refine (HLV.out _).mono ?_
      rintro e w2 ⟨rfl, hb2⟩
      have HB2 := Lib.hid (HB.out.trans (hb2.mono HB.out.size))
      clear hb2
      go_wp2_with (fail)
      go_ret
      exact ⟨rfl, HB2.out⟩
theorem lifted (os : Os) (started : os.Started) (H : Type) (enc : TypeId × Value → H) :
    ReturnsInHanded {} Try.checked os 3 .any (Rows.storeDoesSpec.pre6 enc Try.prog Try.f3 Rows.storeDoesRow.domain false) (Rows.storeDoesSpec.post enc Try.prog Try.f3 false true false false) := by
  refine lift (C := Try.checked) (by kernel_rfl) started (by kernel_rfl) Try.func3 rfl (by kernel_rfl) (by kernel_rfl) rfl Try.underlying4
    (fun ds hd => by match ds, hd with | [_], _ => exact ⟨rfl, rfl, rfl⟩)
    (ChangeSpec.witness6 (enc := enc) (C := Try.checked) false ⟨#[], #[.slice none 0 0], []⟩ 8 (by kernel_rfl) (by kernel_rfl) (by kernel_rfl) (by kernel_rfl)) ?_
  intro W base args ds before hval0 hA0 hfz hsz0
  have hval : ∀ (j : Nat) t v, Try.f3.params[j]? = some t → args[j]? = some v → Value.okWide Try.prog W .any base t v := hval0
  have hA : DataW.TrodAll enc Try.prog W 0 (fun _ => true) true Try.f3.params.toList args.toList ds before := hA0
  have hsz : (DataW.weightsEach Try.prog Try.f3.params.toList ds).all (· ≤ reachBytes) = true := hsz0
  rw [Try.params3] at hA hval hsz
  obtain ⟨v0, vs0, d0, ds0, p0, q0, hargs, rfl, rfl, h0, r0⟩ := trodAll_cons hA
  obtain ⟨rfl, rfl, rfl⟩ := trodAll_nil r0
  obtain rfl : args = #[v0] := by cases args; simp_all
  obtain ⟨A, c, l, rfl, hr, hin, hm⟩ := open_deeds (hval 0 22 v0 rfl rfl) h0 hsz (j := 0) rfl rfl
  exact walk A c l W hr hin hm

theorem proved : Rows.StoreDoesSaid :=
  OpenClaim.holds_of_wide 3 Try.f3 rfl rfl rfl rfl rfl rfl rfl ⟨rfl, rfl, rfl, rfl, rfl⟩ rfl rfl rfl rfl rfl (by kernel_rfl) Try.func3 (by kernel_rfl)
    (of_decide_eq_true (by kernel_rfl)) (by unfold Func.isWrapper; first | (rw [if_pos (by decide +kernel)]; kernel_rfl) | (rw [if_neg (by decide +kernel)]; exact ⟨rfl, rfl⟩))
    (fun os started H enc _ => lifted os started H enc)
#print axioms proved
end Go.Proofs.Ytaickhhbdbbmjaa.storeDoes
