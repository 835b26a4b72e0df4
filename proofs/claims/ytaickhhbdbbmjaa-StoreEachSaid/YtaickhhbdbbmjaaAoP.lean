/-
  What is put into a slot; the contract of Cut.
-/
import Derived.Test.YtaickhhbdbbmjaaAoW
namespace Go.Proofs.Ytaickhhbdbbmjaa.aro
open Go.RowKit law bytes only flat ord
set_option linter.unusedVariables false

section
variable {w w' w2 : World} {base ab : Nat} {F F2 : Value} {A A2 : Option Addr} {d d2 : List (Option Kept)} {e : Nat} {f f2 : List Nat}
theorem Turned.refl (h : Ax w base ab A F d e f) : Turned w base ab A F d f w := ⟨Only.refl _ _, A, F, e, h, fun i hi => .inl hi⟩
/-- one turn behind another -/
theorem Turned.then_ (h1 : Only (Mine ab A F) w w2) (h2 : ∀ i, Mine ab A2 F2 i → Mine ab A F i ∨ w.heap.size ≤ i) (h : Turned w2 base ab A2 F2 d f w') : Turned w base ab A F d f w' := by
  obtain ⟨ho, A', F', e', hx, hm⟩ := h
  refine ⟨h1.trans ho h2, A', F', e', hx, fun i hi => ?_⟩
  rcases hm i hi with h3 | h3
  · exact h2 i h3
  · exact .inr (Nat.le_trans h1.size h3)
theorem widen_any (h : Ax w base ab A F d e f) (hB : base ≤ w.heap.size) (hfd : f.length ≤ d.length) (hm : d.length ≤ 2513169434916) :
    Calls Try.prog 38 #[.pointer (some ⟨ab, 0, none⟩)] w fun x w' => x = .returned (.tuple #[]) ∧ Turned w base ab A F (d ++ [none]) (f ++ [d.length]) w' := by
  rcases Nat.eq_zero_or_pos e with rfl | he
  · exact widen_full h hB hfd hm
  · exact widen_room h he hB hfd hm
/-- a slot's cells, one behind the other -/
def W1 (w : World) (g k : Nat) (o : Option Kept) : World := w.setCell ⟨g, k * 4, none⟩ (.int .i64 (kx o).x.tag)
def W2 (w : World) (g k : Nat) (o : Option Kept) : World := (W1 w g k o).setCell ⟨g, k * 4 + 1, none⟩ (.slice (kx o).A (kx o).x.vec.length (kx o).c)
def W3 (w : World) (g k : Nat) (o : Option Kept) : World := (W2 w g k o).setCell ⟨g, k * 4 + 2, none⟩ (.string (kx o).x.str)
def W4 (w : World) (g k : Nat) (o : Option Kept) : World := (W3 w g k o).setCell ⟨g, k * 4 + 3, none⟩ (.bool o.isSome)
theorem W4_size (w : World) (g k : Nat) (o : Option Kept) : (W4 w g k o).heap.size = w.heap.size := by simp [W4, W3, W2, W1, World.setCell]
/-- what a store of a whole slot asks of the world -/
def Room (w : World) (g k : Nat) (o u : Option Kept) : Prop :=
  (w.frozen? ⟨g, k * 4, none⟩ = false ∧ w.frozen? ⟨g, k * 4 + 1, none⟩ = false ∧ w.frozen? ⟨g, k * 4 + 2, none⟩ = false ∧ w.frozen? ⟨g, k * 4 + 3, none⟩ = false) ∧
  (w.cell? ⟨g, k * 4, none⟩ = some (.int .i64 (kx u).x.tag) ∧ w.cell? ⟨g, k * 4 + 1, none⟩ = some (.slice (kx u).A (kx u).x.vec.length (kx u).c) ∧ w.cell? ⟨g, k * 4 + 2, none⟩ = some (.string (kx u).x.str) ∧ w.cell? ⟨g, k * 4 + 3, none⟩ = some (.bool u.isSome)) ∧
  ((W1 w g k o).frozen? ⟨g, k * 4 + 1, none⟩ = false ∧ (W1 w g k o).cell? ⟨g, k * 4 + 1, none⟩ = some (.slice (kx u).A (kx u).x.vec.length (kx u).c)) ∧
  ((W2 w g k o).frozen? ⟨g, k * 4 + 2, none⟩ = false ∧ (W2 w g k o).cell? ⟨g, k * 4 + 2, none⟩ = some (.string (kx u).x.str)) ∧
  ((W3 w g k o).frozen? ⟨g, k * 4 + 3, none⟩ = false ∧ (W3 w g k o).cell? ⟨g, k * 4 + 3, none⟩ = some (.bool u.isSome))
/-- what is in a slot becomes another thing, or nothing -/
theorem Ax.setAt {g : Nat} (h : Ax w base ab (some ⟨g, 0, none⟩) F d e f) (k : Nat) (hk : k < d.length) (o : Option Kept) :
    Ax (W4 w g k o) base ab (some ⟨g, 0, none⟩) F (d.set k o) e f ∧ Only (Mine ab (some ⟨g, 0, none⟩) F) w (W4 w g k o) ∧ Room w g k o d[k] := by
  have hg := h.ra _ rfl
  have hf := h.rf _ rfl
  have hk2 : k < (d ++ List.replicate e none).length := by simp; omega
  have ho : Only (· = g) w (W4 w g k o) := Only.setCell (S := (· = g)) (p := ⟨g, k * 4 + 3, none⟩) (Only.setCell (S := (· = g)) (p := ⟨g, k * 4 + 2, none⟩) (Only.setCell (S := (· = g)) (p := ⟨g, k * 4 + 1, none⟩) (Only.setCell (S := (· = g)) (p := ⟨g, k * 4, none⟩) (Only.refl _ _) (.inl rfl) _) (.inl rfl) _) (.inl rfl) _) (.inl rfl) _
  have hr := own_setK h.room cE_len k o hk2
  rw [List.set_append_left _ _ hk] at hr
  obtain ⟨q0, q1, q2, q3⟩ := h.slotAt k hk
  have fz : ∀ i, w.frozen? ⟨g, i, none⟩ = false := fun i => h.room.frozenAt _
  refine ⟨⟨?_, ?_, own_only h.free ho fun g' e1 e2 => hf (by rw [e1, e2]), h.low, h.ra, h.fa, h.rf⟩, ho.mono fun i e => .inl (.inr (.inl ⟨_, rfl, e⟩)), ⟨fz _, fz _, fz _, fz _⟩, ⟨q0, q1, q2, q3⟩, ⟨?_, ?_⟩, ⟨?_, ?_⟩, ?_, ?_⟩
  · have := Blk.only h.blk ho (fun e => hg e.symm)
    rw [List.length_set]
    exact this
  · rw [List.length_set]
    exact hr
  · unfold W1
    rw [World.frozen?_setCell]
    exact fz _
  · unfold W1
    rw [World.cell?_setCell_other w _ _ _ (fun e => by injection e with _ e _; omega)]
    exact q1
  · unfold W2 W1
    rw [World.frozen?_setCell, World.frozen?_setCell]
    exact fz _
  · unfold W2 W1
    rw [World.cell?_setCell_other _ _ _ _ (fun e => by injection e with _ e _; omega), World.cell?_setCell_other _ _ _ _ (fun e => by injection e with _ e _; omega)]
    exact q2
  · unfold W3 W2 W1
    rw [World.frozen?_setCell, World.frozen?_setCell, World.frozen?_setCell]
    exact fz _
  · unfold W3 W2 W1
    rw [World.cell?_setCell_other _ _ _ _ (fun e => by injection e with _ e _; omega), World.cell?_setCell_other _ _ _ _ (fun e => by injection e with _ e _; omega), World.cell?_setCell_other _ _ _ _ (fun e => by injection e with _ e _; omega)]
    exact q3
/-- a free slot fewer, ahead of what is put -/
theorem Ax.popF {gF q c s : Nat} {f : List Nat} (h : Ax w base ab A (.slice (some ⟨gF, 0, none⟩) (q + 1) c) d e (f ++ [s])) (hq : q = f.length) :
    Ax (w.setCell ⟨ab, 2, none⟩ (.slice (some ⟨gF, 0, none⟩) q c)) base ab A (.slice (some ⟨gF, 0, none⟩) q c) d e f ∧ Only (Mine ab A (.slice (some ⟨gF, 0, none⟩) (q + 1) c)) w (w.setCell ⟨ab, 2, none⟩ (.slice (some ⟨gF, 0, none⟩) q c)) ∧
      w.cell? ⟨gF, q, none⟩ = some (.int .i64 (s : Int)) ∧ q + 1 ≤ c := by
  subst hq
  have ho : Only (fun i => i = ab) w (w.setCell ⟨ab, 2, none⟩ (.slice (some ⟨gF, 0, none⟩) f.length c)) := Only.setCell (S := fun i => i = ab) (p := ⟨ab, 2, none⟩) (Only.refl _ _) (.inl rfl) _
  have hne : gF ≠ ab := fun e => h.fa (by rw [e]; rfl)
  have hfr := h.free
  rw [List.length_append] at hfr
  refine ⟨⟨h.blk.set_ 2 _, own_only h.room ho fun g' e1 e2 => ?_, ?_, h.low, h.ra, h.fa, h.rf⟩, ho.mono fun i e => .inl (.inl e), ?_, own_cap hfr⟩
  · obtain ⟨a, e3, e4⟩ := room_block e1
    exact h.ra a e3 (by rw [← e4, e2])
  · have h2 := own_take hfr f.length (by simp)
    have e2 : (fv (f ++ [s])).take f.length = fv f := by rw [fv_append, ← fv_length f, List.take_left]
    rw [e2] at h2
    exact own_only h2 ho fun g' e1 e3 => hne (by
      simp only [Value.ownBlock, Option.some.injEq] at e1
      rw [e1, e3])
  · have := hfr.cellAt f.length (by simp)
    rw [this, fv_append, ← fv_length f, List.getElem?_append_right (Nat.le_refl _), Nat.sub_self]
    rfl
/-- a free slot more -/
theorem Ax.growF {w4 : World} {v4 : Value} {k : Nat} (h : Ax w base ab A F d e f) (hB : base ≤ w.heap.size)
    (ho : w4.ownsRow base 3 1 v4 (f.length + 1) (fv f ++ [.int .i64 (k : Int)])) (hg : (w.alloc (.cells #[.int .i64 (k : Int)] 3)).grownBy w4 F.ownBlock)
    (hv : v4.ownBlock = F.ownBlock ∨ v4.ownBlock = some (w.alloc (.cells #[.int .i64 (k : Int)] 3)).heap.size) :
    w4.cell? ⟨ab, 2, none⟩ = some F ∧ w4.frozen? ⟨ab, 2, none⟩ = false ∧ Turned w base ab A F d (f ++ [k]) (w4.setCell ⟨ab, 2, none⟩ v4) := by
  have hs1 := (h.blk.alloc (.cells #[.int .i64 (k : Int)] 3)).grown hg (fun e => h.fa e.symm)
  have hlt := h.blk.lt
  have hnew : (w.alloc (.cells #[.int .i64 (k : Int)] 3)).heap.size = w.heap.size + 1 := by simp
  rw [hnew] at hv
  have ho1 : Only (fun i => i = ab ∨ F.ownBlock = some i) w w4 := ((Only.refl (fun i => i = ab ∨ F.ownBlock = some i) w).alloc _).trans (Only.of_grown hg (S := fun i => F.ownBlock = some i) fun g e => .inl e) fun i e => .inl (.inr e)
  have ho2 := ho1.setCell (p := ⟨ab, 2, none⟩) (.inl (.inl rfl)) v4
  have hab4 : v4.ownBlock ≠ some ab := fun e => by
    rcases hv with e1 | e1
    · exact h.fa (e1.symm.trans e)
    · rw [e1] at e
      injection e with e
      omega
  refine ⟨hs1.cell 2, hs1.frozen 2, ho2.mono (fun i e => .inl (by rcases e with e | e; exact .inl e; exact .inr (.inr e))), A, v4, e, ⟨hs1.set_ 2 v4, own_only h.room ho2 fun g' e1 e2 => ?_, ?_, h.low, h.ra, hab4, fun a e e2 => ?_⟩, fun i hi => ?_⟩
  · obtain ⟨a, e3, e4⟩ := room_block e1
    rcases e2 with e2 | e2
    · exact h.ra a e3 (by rw [← e4, e2])
    · exact h.rf a e3 (by rw [e2, e4])
  · rw [List.length_append, fv_append]
    exact own_only ho (Only.setCell (S := fun i => i = ab) (p := ⟨ab, 2, none⟩) (Only.refl _ _) (.inl rfl) _) fun g' e e2 => hab4 (by rw [e, e2])
  · rcases hv with e1 | e1
    · exact h.rf a e (e1.symm.trans e2)
    · rw [e1] at e2
      injection e2 with e2
      subst e
      have := (own_lt h.room (g := a.block) rfl).2
      omega
  · rcases hi with e | e | e
    · exact .inl (.inl e)
    · exact .inl (.inr (.inl e))
    · rcases hv with e1 | e1
      · exact .inl (.inr (.inr (e1.symm.trans e)))
      · rw [e1] at e
        injection e with e
        exact .inr (by omega)
end

set_option maxRecDepth 100000 in
set_option maxHeartbeats 3200000 in
theorem cut_any {w : World} {base ab : Nat} {A : Option Addr} {F : Value} {d : List (Option Kept)} {e : Nat} {f : List Nat} (h : Ax w base ab A F d e f) (i : Int) (hB : base ≤ w.heap.size) (hfd : f.length ≤ d.length) (hm : d.length ≤ 2513169434916) :
    Calls Try.prog 24 #[.pointer (some ⟨ab, 0, none⟩), .int .i64 i] w fun r w' => r = .returned (.bool (gt d i).isSome) ∧ Turned w base ab A F (cutD d i) (cutF d f i) w' := by
  cases hg : gt d i with
  | none =>
    have HT : Hid (Turned w base ab A F (cutD d i) (cutF d f i) w) := Lib.hid (by unfold cutD cutF; rw [if_neg (by rw [hg]; simp), if_neg (by rw [hg]; simp)]; exact Turned.refl h)
    have HA := Lib.hid (at_none h i hg)
    clear h hg
    go_enter Try.func24, Try.ntmps24
    go_wp2_with (go_at_call 35; (with_reducible refine HA.out.mono ?_); rintro e w' ⟨rfl, rfl⟩)
    go_ret
    exact ⟨rfl, HT.out⟩
  | some y =>
    obtain ⟨k, rfl, hk, hy⟩ := gt_some hg
    obtain ⟨g, rfl⟩ := h.formA (by omega)
    obtain ⟨hx, ho, hroom⟩ := h.setAt k hk none
    have HT : Hid (∀ W, Turned (W4 w g k none) base ab (some ⟨g, 0, none⟩) F (d.set k none) (f ++ [k]) W → Turned w base ab (some ⟨g, 0, none⟩) F (cutD d (k : Int)) (cutF d f (k : Int)) W) := Lib.hid fun W hW => by
      unfold cutD cutF
      rw [if_pos (by rw [hg]; rfl), if_pos (by rw [hg]; rfl), Int.toNat_natCast]
      exact Turned.then_ ho (fun i hi => .inl hi) hW
    have HA := Lib.hid (at_some h k hk (by rw [hy]; rfl))
    have c2 : (W4 w g k none).cell? ⟨ab, 2, none⟩ = some F := hx.blk.cell 2
    have hown := hx.free
    have HG := Lib.hid (fun v4 w4 => hx.growF (w4 := w4) (v4 := v4) (k := k) (by rw [W4_size]; exact hB))
    have HZ := Lib.hid (W4_size w g k none)
    obtain ⟨⟨f0, f1, f2, f3⟩, ⟨q0, q1, q2, q3⟩, ⟨g1, r1⟩, ⟨g2, r2⟩, ⟨g3, r3⟩⟩ := hroom
    simp only [W4, W3, W2, W1, kx_none, zK, zeroO, Option.isSome_none, List.length_nil] at r1 r2 r3 g1 g2 g3 c2 hown HG HT HZ
    clear h hg hy hx ho
    go_enter Try.func24, Try.ntmps24
    go_wp2_with (first
      | (go_at_call 35; (with_reducible refine HA.out.mono ?_); rintro e w' ⟨rfl, rfl⟩)
      | (at_builtin
         refine wpList_append_sl _ rfl (.tmp 18) (.tmp 20) _ rfl base 3 _ 8 Try.underlying69 intE F f.length (fv f) rfl (World.ownsRow.alloc (w := (((w.setCell ⟨g, k * 4, none⟩ (.int .i64 0)).setCell ⟨g, k * 4 + 1, none⟩ (.slice none 0 0)).setCell ⟨g, k * 4 + 2, none⟩ (.string ⟨#[]⟩)).setCell ⟨g, k * 4 + 3, none⟩ (.bool false)) hown _) _ _ 1 1 [.int .i64 k] rfl (one_at ((((w.setCell ⟨g, k * 4, none⟩ (.int .i64 0)).setCell ⟨g, k * 4 + 1, none⟩ (.slice none 0 0)).setCell ⟨g, k * 4 + 2, none⟩ (.string ⟨#[]⟩)).setCell ⟨g, k * 4 + 3, none⟩ (.bool false)) _ _ _ (by simp [World.setCell])) rfl (by simp [Value.oneCell']) (by omega) (by unfold maxLen; omega) (by simp [World.setCell]; omega) ?_
         intro v4 w4 hown4 hg4 hat4
         obtain ⟨d2, d3, hx⟩ := HG.out v4 w4 hown4 hg4 hat4
         have HX := Lib.hid (HT.out _ hx)
         obtain ⟨A4, c4, rfl, -⟩ := own_slice hown4
         clear hown4 hg4 hat4 hx HG HT))
    go_ret
    exact ⟨rfl, HX.out⟩
end Go.Proofs.Ytaickhhbdbbmjaa.aro
