/-
  BktreeNodes: what the look behind each act asks, as contracts.
-/
import Derived.Test.YtaamlidflfdjkaaBkW
import Derived.Test.YtaamlidflfdjkaaActs
import Derived.Test.YtaamlidflfdjkaaBkE
import Derived.Test.YtaamlidflfdjkaaBkF
import Derived.Test.YtaamlidflfdjkaaBkG
import Derived.Test.YtaamlidflfdjkaaBkI
import Derived.Test.YtaamlidflfdjkaaBkJ
namespace Go.Proofs.Ytaamlidflfdjkaa.bk
open Go.RowKit Go.WideShapes law bytes only flat nums ord obj metric tab store play
open aro (Kept)
open Go.Maps Go.ChangeAt
set_option linter.unusedVariables false
set_option maxRecDepth 100000
section
variable {w0 w w' W W' : World} {g tb base m b i lq ll : Nat} {n : Int} {A A2 : Option Addr} {a : Deed} {cs : List Value} {T0 : Nat → Prop}
/-! ### the look -/
/-- an image's rows, while the look goes on -/
def Im (V W : World) (L : List Bn) (A : Option Addr) (m : Nat) : Prop := Below V.heap.size V W ∧ ∃ M : List Nd, M.length = m ∧ M.map bn = L ∧ Sl W W.heap.size A (M.flatMap bkE) ∧ ∀ d ∈ M, Sl W W.heap.size d.t.a (iv d.t.x.vec)
theorem Im.step {V : World} {L : List Bn} {A : Option Addr} {m : Nat} (h : Im V W L A m) (o : Below W.heap.size W W') : Im V W' L A m := by
  obtain ⟨h1, M, h2, h3, h4, h5⟩ := h
  exact ⟨h1.trans (o.mono h1.size), M, h2, h3, (h4.below o).more o.size, fun d hd => ((h5 d hd).below o).more o.size⟩
theorem Im.drew {V : World} {L : List Bn} {A : Option Addr} {m : Nat} (h : Im V W L A m) : Im V W.drew L A m := h.step (Below.drew (Below.refl _ _))
theorem Im.drewN {V : World} {L : List Bn} {A : Option Addr} {m : Nat} (h : Im V W L A m) (j : Nat) : Im V (W.drewN j) L A m := h.step (below_drewN' (Below.refl _ _) _)
theorem gn_map {l l' : List Nd} (h : l.map bn = l'.map bn) : gn l = gn l' := by
  have h1 := gn_cnt l
  have h2 := gn_cnt l'
  have h3 := congrArg List.length h
  rw [List.length_map, List.length_map] at h3
  rw [h] at h1
  omega
/-- all that the look asks of -/
structure Look (V : World) (tb : Nat) (n : Int) (A2 : Option Addr) (ll : Nat) (c2 : Nat) (L : List Bn) (dn gN : Int) : Prop where
  image : ∀ W, Below V.heap.size V W → Calls Try.prog 17 #[.pointer (some ⟨tb, 0, none⟩)] W fun e w' => ∃ A c m, e = .returned (.agg #[.slice A m c, .slice none 0 0, .slice none 0 0, .int .i64 0, .slice none 0 0, .slice none 0 0]) ∧ Im V w' L A m
  same : ∀ W A m c, Im V W L A m → Calls Try.prog 16 #[.slice A m c, .slice A2 ll c2] W fun e w' => e = .returned (.bool true) ∧ Below V.heap.size V w'
  depth : ∀ W, Below V.heap.size V W → Calls Try.prog 18 #[.pointer (some ⟨tb, 0, none⟩)] W fun e w' => e = .returned (.int .i64 dn) ∧ Below V.heap.size V w'
  rdepth : ∀ W, Below V.heap.size V W → Calls Try.prog 19 #[.slice A2 ll c2] W fun e w' => e = .returned (.int .i64 dn) ∧ Below V.heap.size V w'
  gone : ∀ W, Below V.heap.size V W → Calls Try.prog 20 #[.pointer (some ⟨tb, 0, none⟩)] W fun e w' => e = .returned (.int .i64 gN) ∧ Below V.heap.size V w'
  right : ∀ W A m c, Im V W L A m → Calls Try.prog 21 #[.int .i64 n, .agg #[.slice A m c, .slice none 0 0, .slice none 0 0, .int .i64 0, .slice none 0 0, .slice none 0 0]] W fun e w' => e = .returned (.bool true) ∧ Below V.heap.size V w'
set_option maxHeartbeats 1600000 in
theorem Lw.look (h : Lw w0 W g tb base n m b cs A lq A2 ll) (hm : m ≤ 120) (c2 : Nat) : ∃ (L : List Bn) (dn gN : Int), Look W tb n A2 ll c2 L dn gN ∧ IntKind.i64.wrap ((ll : Int) - (lq : Int)) = gN := by
  obtain ⟨k, T, N, q, l, hs, rfl, rfl, hg, hb0, hbx, hN, hk0, hk⟩ := h
  have hm60 : N.length ≤ 7200 := by omega
  have hll := hs.len
  have hql := hs.it.len
  have hcl := cnt_len (N.map bn)
  rw [List.length_map] at hcl
  have hIm : ∀ (M : List Nd) (m3 : Nat), M.map bn = N.map bn → M.length = m3 → m3 = N.length := fun M m3 h1 h2 => by
    have := congrArg List.length h1
    rw [List.length_map, List.length_map] at this
    omega
  refine ⟨N.map bn, (depth (N.map bn) : Nat), (N.length : Int) - (cnt (N.map bn) : Int), ⟨fun W' hW => ?_, fun W' A3 m3 c3 hI => ?_, fun W' hW => ?_, fun W' hW => ?_, fun W' hW => ?_, fun W' A3 m3 c3 hI => ?_⟩, ?_⟩
  · refine (image_any (hs.bx.below hW) (by omega)).mono ?_
    rintro e w' ⟨A3, c3, M, rfl, hb, hr, hM, hv⟩
    exact ⟨A3, c3, M.length, rfl, hW.trans (hb.mono hW.size), M, rfl, hM, Sl.of_ownK hr, fun d hd => (hv d hd).sl⟩
  · obtain ⟨hb, M, rfl, hM, hr, hv⟩ := hI
    have hMl := hIm M _ hM rfl
    refine (rbsame_any (l := M) (l' := l) (hM.trans hs.same.symm) hr (hs.row.below hb).sl hv (fun d hd => ((hs.vec d hd).below hb).sl) ?_ (by omega)).mono fun e w' ⟨he, hb'⟩ => ⟨he, hb.trans (hb'.mono hb.size)⟩
    intro d hd
    have : bn d ∈ l.map bn := by rw [hs.same, ← hM]; exact List.mem_map_of_mem hd
    obtain ⟨d', hd', e⟩ := List.mem_map.1 this
    have h1 : d'.t.x = d.t.x := congrArg Bn.x e
    rw [← h1]
    exact hs.small d' hd'
  · exact (depth_any (hs.bx.below hW) (by omega)).mono fun e w' ⟨he, hb'⟩ => ⟨he, hW.trans (hb'.mono hW.size)⟩
  · refine (rbdepth_any (l := l) (n := n) (by rw [hs.same]; exact hs.bx.tree) (hs.row.below hW).sl (by omega)).mono fun e w' ⟨he, hb'⟩ => ⟨by rw [he, hs.same], by rw [← hb']; exact hW⟩
  · exact (gone_any (hs.bx.below hW) (by omega)).mono fun e w' ⟨he, hb'⟩ => ⟨he, hW.trans (hb'.mono hW.size)⟩
  · obtain ⟨hb, M, rfl, hM, hr, hv⟩ := hI
    have hMl := hIm M _ hM rfl
    have hgM := gn_cnt M
    rw [hM] at hgM
    have hh := hs.it.half
    rw [List.length_map] at hh
    refine (rbright_any (l := M) (c := c3) (by rw [hM]; exact hs.bx.tree) (by rw [hM]; exact hs.bx.ul) (by omega) hr hv ?_ (by omega)).mono fun e w' ⟨he, hb'⟩ => ⟨he, hb.trans (hb'.mono hb.size)⟩
    intro d hd
    have : bn d ∈ l.map bn := by rw [hs.same, ← hM]; exact List.mem_map_of_mem hd
    obtain ⟨d', hd', e⟩ := List.mem_map.1 this
    have h1 : d'.t.x = d.t.x := congrArg Bn.x e
    rw [← h1]
    exact hs.small d' hd'
  · rw [IntWalk.i64_in _ (by omega)]
    omega
theorem Im.low {V : World} {L : List Bn} {A : Option Addr} {m : Nat} (h : Im V W L A m) : Below V.heap.size V W := h.1
theorem Lw.more (h : Lw w0 W g tb base n m b cs A lq A2 ll) : Lw w0 W g tb base n (m + 1) b cs A lq A2 ll := by
  obtain ⟨k, T, N, q, l, hs, h1, h2, h3, h4, h5, h6, h7, h8⟩ := h
  have h9 := Int.le_trans h8 (Int.ofNat_le.2 (Nat.mul_le_mul_right 68719476736 (Nat.le_succ m)))
  have h10 : N.length ≤ (m + 1) * 60 := by clear h8 h9; omega
  exact ⟨k, T, N, q, l, hs, h1, h2, h3, h4, h5, h10, h7, h9⟩
theorem Lw.start (hm : Bx W base tb g n 0 (fun i => T0 i) []) (hg : w0.heap.size ≤ g) (hb : Below w0.heap.size w0 W) : Lw w0 W g tb base n 0 0 [] none 0 none 0 :=
  ⟨0, T0, [], [], [], ⟨hm, rfl, It.nil, Away.nil, Away.nil, fun d hd => by simp at hd, fun d hd => by simp at hd⟩, rfl, rfl, hg, hb, Away.nil, Nat.zero_le _, Int.le_refl _, by omega⟩
theorem bf_right {x : Thing} {m s : Int} (hb : dist.Bd x.vec) (h : rightO x m s = true) (hs : s ≤ 65536) : Bf x := by
  unfold rightO at h
  refine ⟨hb, ?_, ?_⟩
  all_goals
    split at h
    · cases h
    · split at h
      · simp only [Bool.and_eq_true, decide_eq_true_eq] at h
        omega
      · split at h
        · simp only [Bool.and_eq_true, decide_eq_true_eq] at h
          omega
        · simp only [Bool.and_eq_true, decide_eq_true_eq] at h
          omega
theorem dd_of {l : List Deed} {s : Int} (h : ∀ a ∈ l, DIn w a) (hr : rgt n s l = true) (hb : Below w.heap.size w W) : l.length ≤ 120 ∧ ∀ a ∈ l, Dd W a := by
  simp only [rgt, Bool.and_eq_true, decide_eq_true_eq, List.all_eq_true] at hr
  obtain ⟨⟨h1, h2⟩, h3⟩ := hr
  refine ⟨h1, fun a ha => ?_⟩
  have h4 := h3 a ha
  simp only [rgt1, Bool.and_eq_true, decide_eq_true_eq, List.all_eq_true] at h4
  obtain ⟨⟨h5, h6⟩, h7⟩ := h4
  have hd := h a ha
  exact ⟨(hd.it.1.below hb).more hb.size, bf_right hd.it.2.1 (h7 _ (by simp)) (by omega), hd.it.2.2, (hd.row.below hb).more hb.size, fun p hp => ((hd.each p hp).1.below hb).more hb.size, fun p hp => bf_right (hd.each p hp).2.1 (h7 p (by simp [hp])) (by omega), fun p hp => (hd.each p hp).2.2, h5⟩
theorem deedAt8 {B k : Nat} {q : List Deed} (h : Sl W B A (q.flatMap acE)) (hk : k < q.length) : ∃ b o, A = some ⟨b, o, none⟩ ∧ b < B ∧ W.cell? ⟨b, o + k * 8, none⟩ = some (.int .i64 q[k].kind) ∧ W.cell? ⟨b, o + k * 8 + 1, none⟩ = some (.int .u64 q[k].it.1) ∧ W.cell? ⟨b, o + k * 8 + 2, none⟩ = some (.int .i64 q[k].it.2.x.tag) ∧
    W.cell? ⟨b, o + k * 8 + 3, none⟩ = some (.slice q[k].it.2.A q[k].it.2.x.vec.length q[k].it.2.c) ∧ W.cell? ⟨b, o + k * 8 + 4, none⟩ = some (.string q[k].it.2.x.str) ∧ W.cell? ⟨b, o + k * 8 + 5, none⟩ = some (.slice q[k].A q[k].l.length q[k].c) ∧ W.cell? ⟨b, o + k * 8 + 6, none⟩ = some (.int .i64 q[k].m) ∧ W.cell? ⟨b, o + k * 8 + 7, none⟩ = some (.slice q[k].D q[k].raw.length q[k].dc) := by
  have hl := flat_length acE_len q
  obtain ⟨b, o, e, hb, hc⟩ := Sl.place h (by rw [hl]; omega)
  have key : ∀ j, (hj : j < 8) → W.cell? ⟨b, o + (k * 8 + j), none⟩ = (acE q[k])[j]? := fun j hj => by
    have h1 := hc (k * 8 + j) (by rw [hl]; omega)
    have h2 := flat_get acE_len q k j hk hj
    rw [List.getElem?_eq_getElem (by rw [hl]; omega)] at h2
    rw [h1, h2]
  exact ⟨b, o, e, hb, key 0 (by decide), key 1 (by decide), key 2 (by decide), key 3 (by decide), key 4 (by decide), key 5 (by decide), key 6 (by decide), key 7 (by decide)⟩
theorem Bc.at_ {b : Nat} (h : Bc W b (acE a)) : W.cell? ⟨b, 0, none⟩ = some (.int .i64 a.kind) ∧ W.cell? ⟨b, 1, none⟩ = some (.int .u64 a.it.1) ∧ W.cell? ⟨b, 2, none⟩ = some (.int .i64 a.it.2.x.tag) ∧ W.cell? ⟨b, 3, none⟩ = some (.slice a.it.2.A a.it.2.x.vec.length a.it.2.c) ∧ W.cell? ⟨b, 4, none⟩ = some (.string a.it.2.x.str) ∧ W.cell? ⟨b, 5, none⟩ = some (.slice a.A a.l.length a.c) :=
  ⟨h 0 _ rfl, h 1 _ rfl, h 2 _ rfl, h 3 _ rfl, h 4 _ rfl, h 5 _ rfl⟩
theorem Bc.box (W : World) (a : Deed) (V : World) (hV : V = W.alloc (.cells #[.int .i64 a.kind, .int .u64 a.it.1, .int .i64 a.it.2.x.tag, .slice a.it.2.A a.it.2.x.vec.length a.it.2.c, .string a.it.2.x.str, .slice a.A a.l.length a.c, .int .i64 a.m, .slice a.D a.raw.length a.dc] 41)) : Bc V W.heap.size (acE a) ∧ Below W.heap.size W V ∧ V.heap.size = W.heap.size + 1 := by
  subst hV
  refine ⟨fun j u hj => ?_, (Below.refl _ _).alloc (Nat.le_refl _) _, by simp⟩
  have hk := Blk.new W 41 #[.int .i64 a.kind, .int .u64 a.it.1, .int .i64 a.it.2.x.tag, .slice a.it.2.A a.it.2.x.vec.length a.it.2.c, .string a.it.2.x.str, .slice a.A a.l.length a.c, .int .i64 a.m, .slice a.D a.raw.length a.dc]
  rw [hk.cell j, ← hj, ← Array.getElem?_toList]
  rfl
end
end Go.Proofs.Ytaamlidflfdjkaa.bk
