/-
  The contract of with: a number more.
-/
import Derived.Test.YtaickhhbdbbmjaaDirV
namespace Go.Proofs.Ytaickhhbdbbmjaa.direct
open Go.RowKit law bytes only flat
set_option linter.unusedVariables false

/-- a tree with a node more -/
def Wth (w : World) (t : T) (F : List (Int × Int)) (e : Ending) (w' : World) : Prop := ∃ t' g, e = .returned (pt t') ∧ Tr w' t' ∧ t'.flat = F ∧ t'.bs.Perm (g :: t.bs) ∧ w.heap.size ≤ g ∧ Only (· ∈ t.bs) w w'
section
variable {w W W5 : World} {b : Nat} {l r : T} {k s : Int} {F : List (Int × Int)} {e : Ending}
/-- behind the low side's, and even -/
theorem with_low (h : Tr w (.node b l k s r)) (hnd : (T.node b l k s r).bs.Nodup) (hn : (T.node b l k s r).n + 1 ≤ 1152921504606846976) (hW : Below w.heap.size w W) (hF : F.length = l.n + 1) (hl : Wth W l F e W5) :
    ∃ q, e = .returned (.pointer q) ∧ W5.cell? ⟨b, 3, none⟩ = some (pt l) ∧ W5.frozen? ⟨b, 3, none⟩ = false ∧ W5.cell? ⟨b, 0, none⟩ = some (.int .u64 k) ∧ (W5.setCell ⟨b, 3, none⟩ (.pointer q)).cell? ⟨b, 0, none⟩ = some (.int .u64 k) ∧
      Calls Try.prog 46 #[.pointer (some ⟨b, 0, none⟩)] (W5.setCell ⟨b, 3, none⟩ (.pointer q)) (Wth w (.node b l k s r) (F ++ (k, s) :: r.flat)) := by
  obtain ⟨l', g, rfl, ht, hf, hp, hg, ho⟩ := hl
  obtain ⟨hlb, hrb, -, hrn, hlr⟩ := node_nodup hnd
  obtain ⟨h1, h2, h3⟩ := Tr.below hW (Nat.le_refl _) h
  have hlt := Tr.lt h
  have g1 := Blk.only h1 ho fun e => hlb b e rfl
  have g3 : Tr W5 r := Tr.only ho h3 fun i hi e => hlr i e hi
  have o1 : Only (· = b) W5 (W5.setCell ⟨b, 3, none⟩ (pt l')) := (Only.refl (· = b) W5).setCell (p := ⟨b, 3, none⟩) (.inl rfl) _
  have hgw : w.heap.size ≤ g := Nat.le_trans hW.size hg
  have hgn : ∀ i ∈ (T.node b l k s r).bs, i ≠ g := fun i hi e => by have := hlt i hi; omega
  have hp2 : (T.node b l' k s r).bs.Perm (g :: (T.node b l k s r).bs) := (List.Perm.cons b (hp.append_right r.bs)).trans (List.Perm.swap g b _)
  have hlb' : ∀ i ∈ l'.bs, i ≠ b := fun i hi e => by
    rcases List.mem_cons.1 (hp.mem_iff.1 hi) with h | h
    · exact hgn b (by simp [T.bs]) (by rw [← e, h])
    · exact hlb i h e
  have hN : Nd (W5.setCell ⟨b, 3, none⟩ (pt l')) b l' k s r := ⟨⟨_, g1.set_ 3 (pt l')⟩, Tr.only o1 ht fun i hi e => hlb' i hi e, Tr.only o1 g3 fun i hi e => hrb i hi e, (hp2.nodup_iff).2 (List.nodup_cons.2 ⟨fun hi => hgn g hi rfl, hnd⟩)⟩
  have hn' : l'.n = l.n + 1 := by rw [← T.flat_length, hf, hF]
  have hc0 : (W5.setCell ⟨b, 3, none⟩ (pt l')).cell? ⟨b, 0, none⟩ = some (.int .u64 k) := (g1.set_ 3 (pt l')).cell 0
  have ho2 : Only (· ∈ (T.node b l k s r).bs) w (W5.setCell ⟨b, 3, none⟩ (pt l')) := ((Only.of_below hW (Nat.le_refl _) (· ∈ (T.node b l k s r).bs)).trans ho fun i hi => .inl (by simp [T.bs, show i ∈ l.bs from hi])).trans o1 fun i e => .inl (by rw [show i = b from e]; simp [T.bs])
  refine ⟨_, rfl, g1.cell 3, g1.frozen 3, g1.cell 0, hc0, (even_any hN (by simp only [T.n] at hn ⊢; omega)).mono fun e w2 ⟨t', he, ht', hf', hp', ho'⟩ => ⟨t', g, he, ht', by rw [hf', T.flat, hf], hp'.trans hp2, hgw, ho2.trans ho' fun i hi => ?_⟩⟩
  rcases List.mem_cons.1 (hp2.mem_iff.1 hi) with h | h
  · exact .inr (by omega)
  · exact .inl h
theorem with_high (h : Tr w (.node b l k s r)) (hnd : (T.node b l k s r).bs.Nodup) (hn : (T.node b l k s r).n + 1 ≤ 1152921504606846976) (hW : Below w.heap.size w W) (hF : F.length = r.n + 1) (hl : Wth W r F e W5) :
    ∃ q, e = .returned (.pointer q) ∧ W5.cell? ⟨b, 4, none⟩ = some (pt r) ∧ W5.frozen? ⟨b, 4, none⟩ = false ∧ W5.cell? ⟨b, 0, none⟩ = some (.int .u64 k) ∧ (W5.setCell ⟨b, 4, none⟩ (.pointer q)).cell? ⟨b, 0, none⟩ = some (.int .u64 k) ∧
      Calls Try.prog 46 #[.pointer (some ⟨b, 0, none⟩)] (W5.setCell ⟨b, 4, none⟩ (.pointer q)) (Wth w (.node b l k s r) (l.flat ++ (k, s) :: F)) := by
  obtain ⟨r', g, rfl, ht, hf, hp, hg, ho⟩ := hl
  obtain ⟨hlb, hrb, -, hrn, hlr⟩ := node_nodup hnd
  obtain ⟨h1, h2, h3⟩ := Tr.below hW (Nat.le_refl _) h
  have hlt := Tr.lt h
  have g1 := Blk.only h1 ho fun e => hrb b e rfl
  have g3 : Tr W5 l := Tr.only ho h2 fun i hi e => hlr i hi e
  have o1 : Only (· = b) W5 (W5.setCell ⟨b, 4, none⟩ (pt r')) := (Only.refl (· = b) W5).setCell (p := ⟨b, 4, none⟩) (.inl rfl) _
  have hgw : w.heap.size ≤ g := Nat.le_trans hW.size hg
  have hgn : ∀ i ∈ (T.node b l k s r).bs, i ≠ g := fun i hi e => by have := hlt i hi; omega
  have hp2 : (T.node b l k s r').bs.Perm (g :: (T.node b l k s r).bs) := ((List.Perm.cons b ((hp.append_left l.bs).trans List.perm_middle))).trans (List.Perm.swap g b _)
  have hrb' : ∀ i ∈ r'.bs, i ≠ b := fun i hi e => by
    rcases List.mem_cons.1 (hp.mem_iff.1 hi) with h | h
    · exact hgn b (by simp [T.bs]) (by rw [← e, h])
    · exact hrb i h e
  have hN : Nd (W5.setCell ⟨b, 4, none⟩ (pt r')) b l k s r' := ⟨⟨_, g1.set_ 4 (pt r')⟩, Tr.only o1 g3 fun i hi e => hlb i hi e, Tr.only o1 ht fun i hi e => hrb' i hi e, (hp2.nodup_iff).2 (List.nodup_cons.2 ⟨fun hi => hgn g hi rfl, hnd⟩)⟩
  have hn' : r'.n = r.n + 1 := by rw [← T.flat_length, hf, hF]
  have hc0 : (W5.setCell ⟨b, 4, none⟩ (pt r')).cell? ⟨b, 0, none⟩ = some (.int .u64 k) := (g1.set_ 4 (pt r')).cell 0
  have ho2 : Only (· ∈ (T.node b l k s r).bs) w (W5.setCell ⟨b, 4, none⟩ (pt r')) := ((Only.of_below hW (Nat.le_refl _) (· ∈ (T.node b l k s r).bs)).trans ho fun i hi => .inl (by simp [T.bs, show i ∈ r.bs from hi])).trans o1 fun i e => .inl (by rw [show i = b from e]; simp [T.bs])
  refine ⟨_, rfl, g1.cell 4, g1.frozen 4, g1.cell 0, hc0, (even_any hN (by simp only [T.n] at hn ⊢; omega)).mono fun e w2 ⟨t', he, ht', hf', hp', ho'⟩ => ⟨t', g, he, ht', by rw [hf', T.flat, hf], hp'.trans hp2, hgw, ho2.trans ho' fun i hi => ?_⟩⟩
  rcases List.mem_cons.1 (hp2.mem_iff.1 hi) with h | h
  · exact .inr (by omega)
  · exact .inl h
end
set_option maxRecDepth 100000 in
set_option maxHeartbeats 6400000 in
theorem with_any (id s : Int) : ∀ (t : T) {w : World}, Tr w t → t.bs.Nodup → Rise t.flat → t.n + 1 ≤ 1152921504606846976 → fd t.flat id = none →
    Calls Try.prog 37 #[pt t, .int .u64 id, .int .i64 s] w (Wth w t (ins t.flat id s)) := by
  intro t
  induction t with
  | nil =>
    intro w _ _ _ _ _
    have HE : Hid (Wth w .nil (ins T.nil.flat id s) (.returned (.pointer (some ⟨w.heap.size, 0, none⟩))) (w.alloc (.cells #[.int .u64 id, .int .i64 s, .int .i64 1, .pointer none, .pointer none] 78))) :=
      Lib.hid ⟨.node w.heap.size .nil id s .nil, w.heap.size, rfl, ⟨Blk.new _ _ _, trivial, trivial⟩, rfl, List.Perm.refl _, Nat.le_refl _, (Only.refl _ _).alloc _⟩
    show Calls Try.prog 37 #[.pointer none, .int .u64 id, .int .i64 s] w (Wth w .nil (ins T.nil.flat id s))
    go_enter Try.func37, Try.ntmps37
    go_wp2_with (fail)
    go_ret
    exact HE.out
  | node b l k z r ihl ihr =>
    intro w h hnd hR hn hid
    have c0 : w.cell? ⟨b, 0, none⟩ = some (.int .u64 k) := h.1.cell 0
    have hne : k ≠ id := fd_none hid (k, z) (by simp [T.flat])
    obtain ⟨hRl, hRr, -, -⟩ := Rise.parts hR
    have hnn : (T.node b l k z r).n = l.n + r.n + 1 := rfl
    show Calls Try.prog 37 #[.pointer (some ⟨b, 0, none⟩), .int .u64 id, .int .i64 s] w (Wth w (.node b l k z r) (ins (T.node b l k z r).flat id s))
    obtain ⟨-, -, hln, hrn, -⟩ := node_nodup hnd
    have hS := side_any c0 id
    by_cases hlt : id < k
    · rw [if_pos hlt] at hS
      have hx : fd l.flat id = none := by rw [← fd_low hR hlt]; exact hid
      have hF : ins (T.node b l k z r).flat id s = ins l.flat id s ++ (k, z) :: r.flat := ins_low hR hlt
      rw [hF]
      obtain ⟨q, hq⟩ : ∃ v, v = pa l := ⟨_, rfl⟩
      have c3 : w.cell? ⟨b, 3, none⟩ = some (.pointer q) := by rw [hq]; exact h.1.cell 3
      have HW : Hid (∀ W, Below w.heap.size w W → Calls Try.prog 37 #[.pointer q, .int .u64 id, .int .i64 s] W fun e W5 => ∃ q5, e = .returned (.pointer q5) ∧ W5.cell? ⟨b, 3, none⟩ = some (.pointer q) ∧ W5.frozen? ⟨b, 3, none⟩ = false ∧ W5.cell? ⟨b, 0, none⟩ = some (.int .u64 k) ∧ (W5.setCell ⟨b, 3, none⟩ (.pointer q5)).cell? ⟨b, 0, none⟩ = some (.int .u64 k) ∧
          Calls Try.prog 46 #[.pointer (some ⟨b, 0, none⟩)] (W5.setCell ⟨b, 3, none⟩ (.pointer q5)) (Wth w (.node b l k z r) (ins l.flat id s ++ (k, z) :: r.flat))) := Lib.hid fun W hW => by
        have hw := Tr.below hW (Nat.le_refl _) h
        rw [hq]
        exact (ihl hw.2.1 hln hRl (by omega) hx).mono fun e W5 h5 => with_low h hnd hn hW (by rw [ins_length hx, T.flat_length]) h5
      have HS := Lib.hid hS
      clear ihl ihr h hnd hR hn hid hne hRl hRr hln hrn hS hlt hx hF hq hnn
      go_enter Try.func37, Try.ntmps37
      go_wp2_with (go_at_call 45; (with_reducible refine HS.out.mono ?_); rintro e w' ⟨rfl, rfl⟩)
      go_region_law (first | (go_simp; go_at_call 37; (with_reducible refine (HW.out _ (by repeat' (first | (with_reducible exact Below.refl _ _) | (with_reducible assumption) | (with_reducible refine Below.drew ?_) | (with_reducible refine below_drewN' ?_ _)))).mono ?_); rintro e w5 ⟨q5, rfl, x3, xf, x0, x1, xE⟩; have XE := Lib.hid xE; clear xE))
      go_wp2_with (fail)
      refine XE.out.mono ?_
      rintro e w6 hE
      have HE := Lib.hid hE
      obtain ⟨t', g, rfl, -⟩ := hE
      unfold pt at HE ⊢
      go_wp2_with (fail)
      go_ret
      exact HE.out
    · rw [if_neg hlt] at hS
      have hx : fd r.flat id = none := by rw [← fd_high hR (show k < id by omega)]; exact hid
      have hF : ins (T.node b l k z r).flat id s = l.flat ++ (k, z) :: ins r.flat id s := ins_high hR (show k < id by omega)
      rw [hF]
      obtain ⟨q, hq⟩ : ∃ v, v = pa r := ⟨_, rfl⟩
      have c3 : w.cell? ⟨b, 4, none⟩ = some (.pointer q) := by rw [hq]; exact h.1.cell 4
      have HW : Hid (∀ W, Below w.heap.size w W → Calls Try.prog 37 #[.pointer q, .int .u64 id, .int .i64 s] W fun e W5 => ∃ q5, e = .returned (.pointer q5) ∧ W5.cell? ⟨b, 4, none⟩ = some (.pointer q) ∧ W5.frozen? ⟨b, 4, none⟩ = false ∧ W5.cell? ⟨b, 0, none⟩ = some (.int .u64 k) ∧ (W5.setCell ⟨b, 4, none⟩ (.pointer q5)).cell? ⟨b, 0, none⟩ = some (.int .u64 k) ∧
          Calls Try.prog 46 #[.pointer (some ⟨b, 0, none⟩)] (W5.setCell ⟨b, 4, none⟩ (.pointer q5)) (Wth w (.node b l k z r) (l.flat ++ (k, z) :: ins r.flat id s))) := Lib.hid fun W hW => by
        have hw := Tr.below hW (Nat.le_refl _) h
        rw [hq]
        exact (ihr hw.2.2 hrn hRr (by omega) hx).mono fun e W5 h5 => with_high h hnd hn hW (by rw [ins_length hx, T.flat_length]) h5
      have HS := Lib.hid hS
      clear ihl ihr h hnd hR hn hid hne hRl hRr hln hrn hS hlt hx hF hq hnn
      go_enter Try.func37, Try.ntmps37
      go_wp2_with (go_at_call 45; (with_reducible refine HS.out.mono ?_); rintro e w' ⟨rfl, rfl⟩)
      go_region_law (first | (go_simp; go_at_call 37; (with_reducible refine (HW.out _ (by repeat' (first | (with_reducible exact Below.refl _ _) | (with_reducible assumption) | (with_reducible refine Below.drew ?_) | (with_reducible refine below_drewN' ?_ _)))).mono ?_); rintro e w5 ⟨q5, rfl, x3, xf, x0, x1, xE⟩; have XE := Lib.hid xE; clear xE))
      go_wp2_with (fail)
      refine XE.out.mono ?_
      rintro e w6 hE
      have HE := Lib.hid hE
      obtain ⟨t', g, rfl, -⟩ := hE
      unfold pt at HE ⊢
      go_wp2_with (fail)
      go_ret
      exact HE.out
end Go.Proofs.Ytaickhhbdbbmjaa.direct
