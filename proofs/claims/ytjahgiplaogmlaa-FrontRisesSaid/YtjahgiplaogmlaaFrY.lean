/-
  The closure that asks the document's Open; weights of its nodes; the law's two walks.
-/
import Derived.Test.YtjahgiplaogmlaaFrG
import Derived.Deep.RegionWith
namespace Go.Proofs.Ytjahgiplaogmlaa.fro
open Go.RowKit law bytes only flat heapM Go.Sort Go.Shelf
set_option linter.unusedVariables false
set_option maxRecDepth 100000

theorem clo_any (d : Dat) (gb B0 : Nat) (W : World) (hb : Blk W gb 25 (aC d)) (hl : Sl W B0 d.B (d.rows.flatMap rc)) (hm : d.rows.length ≤ maxLen) (n : Int) :
    Calls Try.prog 15 #[.int .i64 n, .pointer (some ⟨gb, 0, none⟩)] W fun e w' => e = .returned (.slice (bh d.rows n).A (bh d.rows n).l.length (bh d.rows n).c) ∧ W = w' := by
  have HO := Lib.hid (ropen_any d.B d.c d.rows n W B0 hl hm)
  have c1 : W.cell? ⟨gb, 1, none⟩ = some (.slice d.B d.rows.length d.c) := hb.cell 1
  clear hb hl hm
  generalize bh d.rows n = r at HO ⊢
  go_enter Try.func15, Try.ntmps15
  go_wp2_with (fail)
  refine HO.out.mono ?_
  rintro e w' ⟨rfl, rfl⟩
  clear HO
  go_wp2_with (fail)
  go_ret
  exact ⟨rfl, rfl⟩
theorem clo_enters : Enters Try.prog 15 := enters_of Try.func15 (by kernel_rfl) rfl
/-- how many things may come of a node at most -/
def wg (n : Int) : Nat := if n < 0 then 1 else 5 ^ (8 - n.toNat)
theorem wg_pos (n : Int) : 0 < wg n := by
  unfold wg
  by_cases h : n < 0
  · rw [if_pos h]; omega
  · rw [if_neg h]; exact Nat.pow_pos (by omega)
theorem wsum_le {wt : Int → Nat} {M : Nat} {l : List Ent} (h : ∀ x ∈ l, wt x.2.1 ≤ M) : wsum wt l ≤ l.length * M := by
  induction l with
  | nil => simp [wsum]
  | cons x l ih =>
    rw [wsum_cons, List.length_cons, Nat.add_mul, Nat.one_mul]
    have h1 := h x (List.mem_cons_self ..)
    have h2 := ih fun y hy => h y (List.mem_cons_of_mem _ hy)
    omega
theorem wg_le (n : Int) : wg n ≤ 390625 := by
  unfold wg
  by_cases h : n < 0
  · rw [if_pos h]; omega
  · rw [if_neg h]
    exact Nat.le_trans (Nat.pow_le_pow_right (by omega) (Nat.sub_le 8 _)) (by decide)
theorem wg_less {d : Dat} (h : Mays d) (n : Int) (hn : 0 ≤ n) : wsum wg (bh d.rows n).l < wg n := by
  obtain ⟨h1, h2, h3, h4⟩ := h
  obtain ⟨k, rfl⟩ : ∃ k : Nat, n = (k : Int) := ⟨n.toNat, by omega⟩
  by_cases hk : k < d.rows.length
  · rw [bh_in hk]
    have hw : wg (k : Int) = 5 * 5 ^ (7 - k) := by
      unfold wg
      rw [if_neg (by omega), show 8 - (k : Int).toNat = (7 - k) + 1 by omega, Nat.pow_succ, Nat.mul_comm]
    have hle : ∀ x ∈ d.rows[k].l, wg x.2.1 ≤ 5 ^ (7 - k) := fun x hx => by
      have := h3 k hk x hx
      unfold wg
      by_cases hx0 : x.2.1 < 0
      · rw [if_pos hx0]; exact Nat.pow_pos (by omega)
      · rw [if_neg hx0]
        exact Nat.pow_le_pow_right (by omega) (by omega)
    have hs := wsum_le hle
    have hl := h4 _ (List.getElem_mem hk)
    have hp : 0 < 5 ^ (7 - k) := Nat.pow_pos (by omega)
    have hm := Nat.mul_le_mul_right (5 ^ (7 - k)) hl
    omega
  · rw [bh_out (.inr (by omega))]
    exact wg_pos _
/-- what the law's walk asks -/
def fv (gb : Nat) : Value := .func (.func 15) #[] #[.pointer (some ⟨gb, 0, none⟩)]
def Js (d : Dat) (gb base : Nat) (_ : Unit) (W : World) : Prop := Blk W gb 25 (aC d) ∧ Lay W base d
theorem op_graph {d : Dat} (h : Mays d) (hm : d.rows.length ≤ maxLen) (gb base : Nat) (hg : gb < base) : Op (fv gb) base (fun _ => False) (Js d gb base) (fun n => 0 ≤ n) (fun _ n => (bh d.rows n).l) (fun _ _ => ()) wg where
  low i e := e.elim
  keep s W W' := fun ⟨h1, h2⟩ hb => ⟨h1.below hb hg, h2.below hb⟩
  next s n _ := fun x _ h0 => h0
  less s n hn := wg_less h n hn
  pos := wg_pos
  tells n _ hn := ⟨15, #[.pointer (some ⟨gb, 0, none⟩)], rfl, clo_enters, fun s W hj hbs => by
    refine (clo_any d gb base W hj.1 hj.2.rows hm n).mono ?_
    rintro e w' ⟨rfl, rfl⟩
    refine ⟨_, _, rfl, fun j u hu => ?_, Only.refl _ _, hj⟩
    have hs : Sl W base (bh d.rows n).A ((bh d.rows n).l.flatMap ec) := by
      obtain ⟨k, rfl⟩ : ∃ k : Nat, n = (k : Int) := ⟨n.toNat, by omega⟩
      by_cases hk : k < d.rows.length
      · rw [bh_in hk]
        exact hj.2.each _ (List.getElem_mem hk)
      · rw [bh_out (.inr (by omega))]
        exact Sl.nil
    obtain ⟨ad, e, hb, hc⟩ := hs j u hu
    exact ⟨ad, e, .inl hb, Nat.lt_of_lt_of_le hb hbs, hc⟩⟩
/-- ahead of New: the argument's box, the document's walk -/
def Ws (d : Dat) (w : World) (cs : Array Value) (W : World) : Prop := Blk W w.heap.size 25 (aC d) ∧ Blk W (w.heap.size + 1) 30 cs ∧ Below w.heap.size w W ∧ W.heap.size = w.heap.size + 2
/-- .. behind it -/
def Wn (d : Dat) (w : World) (cs : Array Value) (wb hb : Nat) (T : Nat → Prop) (dd : Array Ent) (W : World) : Prop := Blk W w.heap.size 25 (aC d) ∧ Blk W (w.heap.size + 1) 30 cs ∧ Below w.heap.size w W ∧ Wk W (w.heap.size + 2) wb hb T (fv w.heap.size) dd 0 ∧ dd.toList.Perm d.f.l
/-- what walks leaves -/
def Wks (d : Dat) (w : World) (e : Ending) (w' : World) : Prop := ∃ wb hb T dd, e = .returned (.tuple #[.pointer (some ⟨wb, 0, none⟩), .agg #[.slice d.f.A d.f.l.length d.f.c, .slice d.B d.rows.length d.c, .int .i64 0]]) ∧
  Wk w' (w.heap.size + 2) wb hb T (fv w.heap.size) dd 0 ∧ dd.toList.Perm d.f.l ∧ Js d w.heap.size (w.heap.size + 2) () w' ∧ Below w.heap.size w w'
theorem ws_new {d : Dat} {w W : World} {cs : Array Value} (h : Hyp w d) (hG : Mays d) (hs : Ws d w cs W) : Calls Try.prog 14 #[fv w.heap.size, .slice d.f.A d.f.l.length d.f.c] W fun e w' => ∃ wb hb T dd, e = .returned (.pointer (some ⟨wb, 0, none⟩)) ∧ Wn d w cs wb hb T dd w' := by
  obtain ⟨h1, h2, h3, h4⟩ := hs
  have hf : Sl W W.heap.size d.f.A (d.f.l.flatMap ec) := (h.lay.first.below h3).more (by omega)
  have hl := hG.2.1
  refine (new_any (fv w.heap.size) (.inr ⟨_, _, _, rfl⟩) d.f.A d.f.l d.f.c W hf (by omega)).mono ?_
  rintro e w' ⟨wb, hb, T, dd, rfl, k1, k2, k3⟩
  rw [h4] at k1
  exact ⟨wb, hb, T, dd, rfl, h1.below k3 h1.lt, h2.below k3 h2.lt, h3.trans (k3.mono (by omega)), k1, k2⟩
theorem wn_set {d : Dat} {w W V : World} {cs : Array Value} {wb hb : Nat} {T : Nat → Prop} {dd : Array Ent} (hs : Wn d w cs wb hb T dd W) (ho : Only (· = w.heap.size + 1) W V) {cs2 : Array Value} (hc : Blk V (w.heap.size + 1) 30 cs2) : Wn d w cs2 wb hb T dd V := by
  obtain ⟨h1, h2, h3, h4, h5⟩ := hs
  exact ⟨Blk.only h1 ho (by omega), hc, h3.trans (ho.below h3.size fun i e => by omega), h4.only ho fun i e e2 => by have := (h4.low i e).1; omega, h5⟩
theorem wn_end {d : Dat} {w W : World} {wb hb : Nat} {T : Nat → Prop} {dd : Array Ent} (h : Hyp w d) (hs : Wn d w #[.slice d.f.A d.f.l.length d.f.c, .slice d.B d.rows.length d.c, .int .i64 0] wb hb T dd W) :
    (W.cell? ⟨w.heap.size + 1, 0, none⟩ = some (.slice d.f.A d.f.l.length d.f.c) ∧ W.cell? ⟨w.heap.size + 1, 1, none⟩ = some (.slice d.B d.rows.length d.c) ∧ W.cell? ⟨w.heap.size + 1, 2, none⟩ = some (.int .i64 0)) ∧
    Wks d w (.returned (.tuple #[.pointer (some ⟨wb, 0, none⟩), .agg #[.slice d.f.A d.f.l.length d.f.c, .slice d.B d.rows.length d.c, .int .i64 0]])) W := by
  obtain ⟨h1, h2, h3, h4, h5⟩ := hs
  exact ⟨⟨h2.cell 0, h2.cell 1, h2.cell 2⟩, wb, hb, T, dd, rfl, h4, h5, ⟨h1, (h.lay.below h3).more (by omega)⟩, h3⟩
theorem blk_three {W : World} {g : Nat} {t : TypeId} {x y z x' y' z' : Value} (h : Blk W g t #[x, y, z]) : Blk (((W.setCell ⟨g, 0, none⟩ x').setCell ⟨g, 1, none⟩ y').setCell ⟨g, 2, none⟩ z') g t #[x', y', z'] ∧ Only (· = g) W (((W.setCell ⟨g, 0, none⟩ x').setCell ⟨g, 1, none⟩ y').setCell ⟨g, 2, none⟩ z') :=
  ⟨((h.set_ 0 x').set_ 1 y').set_ 2 z', Only.setCell (S := (· = g)) (p := ⟨g, 2, none⟩) (Only.setCell (S := (· = g)) (p := ⟨g, 1, none⟩) (Only.setCell (S := (· = g)) (p := ⟨g, 0, none⟩) (Only.refl _ _) (.inl rfl) _) (.inl rfl) _) (.inl rfl) _⟩
set_option maxHeartbeats 6400000 in
theorem walks_any (d : Dat) (w : World) (h : Hyp w d) (hG : Mays d) :
    Calls Try.prog 7 #[.agg (aC d)] w fun e w' => Wks d w e w' := by
  obtain ⟨V, hV⟩ : ∃ V, V = (w.alloc (.cells (aC d) 25)).alloc (.cells #[.slice none 0 0, .slice none 0 0, .int .i64 0] 30) := ⟨_, rfl⟩
  have b0 : Blk V w.heap.size 25 (aC d) := by rw [hV]; exact (Blk.new w _ _).alloc _
  have b1 : Blk V (w.heap.size + 1) 30 #[.slice none 0 0, .slice none 0 0, .int .i64 0] := by
    rw [hV]
    have := Blk.new (w.alloc (.cells (aC d) 25)) 30 #[.slice none 0 0, .slice none 0 0, .int .i64 0]
    rwa [show (w.alloc (.cells (aC d) 25)).heap.size = w.heap.size + 1 by simp] at this
  have hb : Below w.heap.size w V := by rw [hV]; exact ((Below.refl _ _).alloc (Nat.le_refl _) _).alloc (by simp) _
  have hz : V.heap.size = w.heap.size + 2 := by rw [hV]; simp
  have hs0 : Ws d w #[.slice none 0 0, .slice none 0 0, .int .i64 0] V.drew := ⟨b0, b1, hb.drew, hz⟩
  have b1d : Blk V.drew (w.heap.size + 1) 30 #[.slice none 0 0, .slice none 0 0, .int .i64 0] := b1
  obtain ⟨b2, ho2⟩ := blk_three (x' := .slice d.f.A d.f.l.length d.f.c) (y' := .slice d.B d.rows.length d.c) (z' := .int .i64 0) b1d
  have hs1 : Ws d w #[.slice d.f.A d.f.l.length d.f.c, .slice d.B d.rows.length d.c, .int .i64 0] (((V.drew.setCell ⟨w.heap.size + 1, 0, none⟩ (.slice d.f.A d.f.l.length d.f.c)).setCell ⟨w.heap.size + 1, 1, none⟩ (.slice d.B d.rows.length d.c)).setCell ⟨w.heap.size + 1, 2, none⟩ (.int .i64 0)) :=
    ⟨Blk.only (w := V.drew) b0 ho2 (by omega), b2, Below.trans (b := V.drew) hb.drew (ho2.below (by show w.heap.size ≤ V.heap.size; omega) fun i e => by omega), by simp [World.setCell]; exact hz⟩
  have HN0 := Lib.hid (ws_new h hG hs0)
  have HN1 := Lib.hid (ws_new h hG hs1)
  have HQ0 : Hid (∀ wb hb T dd W, Wn d w #[.slice none 0 0, .slice none 0 0, .int .i64 0] wb hb T dd W → (W.cell? ⟨w.heap.size, 0, none⟩ = some (.slice d.f.A d.f.l.length d.f.c) ∧ W.cell? ⟨w.heap.size, 1, none⟩ = some (.slice d.B d.rows.length d.c)) ∧ (W.cell? ⟨w.heap.size + 1, 0, none⟩ = some (.slice none 0 0) ∧ W.cell? ⟨w.heap.size + 1, 1, none⟩ = some (.slice none 0 0) ∧ W.cell? ⟨w.heap.size + 1, 2, none⟩ = some (.int .i64 0)) ∧ (W.frozen? ⟨w.heap.size + 1, 0, none⟩ = false ∧ W.frozen? ⟨w.heap.size + 1, 1, none⟩ = false ∧ W.frozen? ⟨w.heap.size + 1, 2, none⟩ = false) ∧
      Wn d w #[.slice d.f.A d.f.l.length d.f.c, .slice d.B d.rows.length d.c, .int .i64 0] wb hb T dd (((W.setCell ⟨w.heap.size + 1, 0, none⟩ (.slice d.f.A d.f.l.length d.f.c)).setCell ⟨w.heap.size + 1, 1, none⟩ (.slice d.B d.rows.length d.c)).setCell ⟨w.heap.size + 1, 2, none⟩ (.int .i64 0))) := Lib.hid fun wb hb T dd W hq =>
    ⟨⟨hq.1.cell 0, hq.1.cell 1⟩, ⟨hq.2.1.cell 0, hq.2.1.cell 1, hq.2.1.cell 2⟩, ⟨hq.2.1.frozen 0, hq.2.1.frozen 1, hq.2.1.frozen 2⟩, wn_set hq (blk_three hq.2.1).2 (blk_three hq.2.1).1⟩
  have HQ1 : Hid (∀ cs wb hb T dd W, Wn d w cs wb hb T dd W → (W.cell? ⟨w.heap.size, 0, none⟩ = some (.slice d.f.A d.f.l.length d.f.c) ∧ W.cell? ⟨w.heap.size, 1, none⟩ = some (.slice d.B d.rows.length d.c))) := Lib.hid fun cs wb hb T dd W hq => ⟨hq.1.cell 0, hq.1.cell 1⟩
  have c0 : V.cell? ⟨w.heap.size, 0, none⟩ = some (.slice d.f.A d.f.l.length d.f.c) := b0.cell 0
  have c1 : V.cell? ⟨w.heap.size, 1, none⟩ = some (.slice d.B d.rows.length d.c) := b0.cell 1
  have t0 : V.cell? ⟨w.heap.size + 1, 0, none⟩ = some (.slice none 0 0) := b1.cell 0
  have t1 : V.cell? ⟨w.heap.size + 1, 1, none⟩ = some (.slice none 0 0) := b1.cell 1
  have t2 : V.cell? ⟨w.heap.size + 1, 2, none⟩ = some (.int .i64 0) := b1.cell 2
  have t3 : V.frozen? ⟨w.heap.size + 1, 0, none⟩ = false := b1.frozen 0
  have t4 : V.frozen? ⟨w.heap.size + 1, 1, none⟩ = false := b1.frozen 1
  have t5 : V.frozen? ⟨w.heap.size + 1, 2, none⟩ = false := b1.frozen 2
  have hmf : ∀ (fn : Fn) (first cap : Array Value) (w : World), (Instr.makeFunc fn first cap).run Try.prog w = .ok (.func fn first cap) w := fun _ _ _ _ => rfl
  have HV := Lib.hid hV
  obtain ⟨P, hP⟩ : ∃ P : Ending → World → Prop, P = fun e w' => Wks d w e w' := ⟨_, rfl⟩
  rw [show (fun e w' => Wks d w e w') = P from hP.symm]
  have HE2 : Hid (∀ wb hb T dd W, Wn d w #[.slice d.f.A d.f.l.length d.f.c, .slice d.B d.rows.length d.c, .int .i64 0] wb hb T dd W → (W.cell? ⟨w.heap.size + 1, 0, none⟩ = some (.slice d.f.A d.f.l.length d.f.c) ∧ W.cell? ⟨w.heap.size + 1, 1, none⟩ = some (.slice d.B d.rows.length d.c) ∧ W.cell? ⟨w.heap.size + 1, 2, none⟩ = some (.int .i64 0)) ∧ P (.returned (.tuple #[.pointer (some ⟨wb, 0, none⟩), .agg #[.slice d.f.A d.f.l.length d.f.c, .slice d.B d.rows.length d.c, .int .i64 0]])) W) := Lib.hid fun wb hb T dd W hq => by
    obtain ⟨k1, k2⟩ := wn_end h hq
    exact ⟨k1, by rw [hP]; exact k2⟩
  clear hP hV hs0 hs1 b0 b1 b1d b2 ho2 hb hz h hG
  obtain ⟨f, B, c, rows⟩ := d
  unfold aC at HV ⊢
  unfold fv at HN0 HN1
  dsimp only at *
  go_enter Try.func7, Try.ntmps7
  go_wp2_with (fail)
  rw [← HV.out]
  go_region_with (first
    | (go_at_call 14; refine HN0.out.mono ?_; rintro e w2 ⟨wb, hb, T, dd, rfl, hq⟩; obtain ⟨⟨a0, a1⟩, ⟨a2, a3, a4⟩, ⟨a5, a6, a7⟩, hq2⟩ := HQ0.out _ _ _ _ _ hq)
    | (go_at_call 14; refine HN1.out.mono ?_; rintro e w2 ⟨wb, hb, T, dd, rfl, hq2⟩; obtain ⟨a0, a1⟩ := HQ1.out _ _ _ _ _ _ hq2))
  all_goals
    obtain ⟨⟨z0, z1, z2⟩, hp⟩ := HE2.out _ _ _ _ _ hq2
    clear hq2 HE2 HQ0 HQ1 HN0 HN1 HV c0 c1 t0 t1 t2 t3 t4 t5
    generalize (((w2.setCell ⟨w.heap.size + 1, 0, none⟩ (.slice f.A f.l.length f.c)).setCell ⟨w.heap.size + 1, 1, none⟩ (.slice B rows.length c)).setCell ⟨w.heap.size + 1, 2, none⟩ (.int .i64 0)) = W at hp z0 z1 z2 ⊢
    have HP := Lib.hid hp
    clear hp
    go_wp2_with (fail)
    refine bodyPost_ret (v := .tuple #[.pointer (some ⟨wb, 0, none⟩), .agg #[.slice f.A f.l.length f.c, .slice B rows.length c, .int .i64 0]]) (by simp [results, Try.results7, go_sem, z0, z1, z2]) rfl ?_
    exact HP.out
end Go.Proofs.Ytjahgiplaogmlaa.fro
