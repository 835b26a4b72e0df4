/-
  The contract of even: no side too heavy; what stands in the tree is as before.
-/
import Derived.Test.YtaickhhbdbbmjaaDirT
namespace Go.Proofs.Ytaickhhbdbbmjaa.direct
open Go.RowKit law bytes only flat
set_option linter.unusedVariables false

section
variable {w W W5 : World} {t t1 : T} {e : Ending} {b : Nat} {l r : T} {k s : Int}
theorem Evn.step (ho : Only (· ∈ t.bs) w W) (hf : t1.flat = t.flat) (hp : t1.bs.Perm t.bs) (h : Evn W t1 e W5) : Evn w t e W5 := by
  obtain ⟨t', he, ht, hf2, hp2, ho2⟩ := h
  exact ⟨t', he, ht, hf2.trans hf, hp2.trans hp, ho.trans ho2 fun i hi => .inl (hp.mem_iff.1 hi)⟩
theorem node_nodup (h : (T.node b l k s r).bs.Nodup) : (∀ i ∈ l.bs, i ≠ b) ∧ (∀ i ∈ r.bs, i ≠ b) ∧ l.bs.Nodup ∧ r.bs.Nodup ∧ ∀ i ∈ l.bs, i ∉ r.bs := by
  obtain ⟨h1, h2⟩ := List.nodup_cons.1 h
  obtain ⟨h3, h4, h5⟩ := List.nodup_append.1 h2
  exact ⟨fun i hi e => h1 (by simp [← e, hi]), fun i hi e => h1 (by simp [← e, hi]), h3, h4, fun i hi hj => h5 i hi i hj rfl⟩
theorem T.n_eq (h : t1.flat = t.flat) : t1.n = t.n := by rw [← T.flat_length, ← T.flat_length, h]
/-- the low kid turned, and laid where it was -/
theorem after_low (h : Tr W (.node b l k s r)) (hnd : (T.node b l k s r).bs.Nodup) (hl : Evn W l e W5) : ∃ l', e = .returned (pt l') ∧ W5.cell? ⟨b, 3, none⟩ = some (pt l) ∧ W5.frozen? ⟨b, 3, none⟩ = false ∧
    Nd (W5.setCell ⟨b, 3, none⟩ (pt l')) b l' k s r ∧ Only (· ∈ (T.node b l k s r).bs) W (W5.setCell ⟨b, 3, none⟩ (pt l')) ∧ (T.node b l' k s r).flat = (T.node b l k s r).flat ∧ (T.node b l' k s r).bs.Perm (T.node b l k s r).bs := by
  obtain ⟨l', rfl, ht, hf, hp, ho⟩ := hl
  obtain ⟨hlb, hrb, -, hrn, hlr⟩ := node_nodup hnd
  obtain ⟨h1, h2, h3⟩ := h
  have g1 := Blk.only h1 ho fun e => hlb b e rfl
  have g3 : Tr W5 r := Tr.only ho h3 fun i hi e => hlr i e hi
  have o1 : Only (· = b) W5 (W5.setCell ⟨b, 3, none⟩ (pt l')) := ((Only.refl (· = b) W5).setCell (p := ⟨b, 3, none⟩) (.inl rfl) _)
  have hp2 : (T.node b l' k s r).bs.Perm (T.node b l k s r).bs := List.Perm.cons b (hp.append_right r.bs)
  refine ⟨l', rfl, g1.cell 3, g1.frozen 3, ⟨⟨_, (g1.set_ 3 (pt l'))⟩, Tr.only o1 ht fun i hi e => hlb i (hp.mem_iff.1 hi) e, Tr.only o1 g3 fun i hi e => hrb i hi e, (hp2.nodup_iff).2 hnd⟩, ?_, by simp [T.flat, hf], hp2⟩
  exact (ho.mono fun i hi => .inl (by simp [T.bs, show i ∈ l.bs from hi])).trans o1 fun i e => .inl (by rw [show i = b from e]; simp [T.bs])
/-- the high kid turned, and laid where it was -/
theorem after_high (h : Tr W (.node b l k s r)) (hnd : (T.node b l k s r).bs.Nodup) (hl : Evn W r e W5) : ∃ r', e = .returned (pt r') ∧ W5.cell? ⟨b, 4, none⟩ = some (pt r) ∧ W5.frozen? ⟨b, 4, none⟩ = false ∧
    Nd (W5.setCell ⟨b, 4, none⟩ (pt r')) b l k s r' ∧ Only (· ∈ (T.node b l k s r).bs) W (W5.setCell ⟨b, 4, none⟩ (pt r')) ∧ (T.node b l k s r').flat = (T.node b l k s r).flat ∧ (T.node b l k s r').bs.Perm (T.node b l k s r).bs := by
  obtain ⟨r', rfl, ht, hf, hp, ho⟩ := hl
  obtain ⟨hlb, hrb, -, hrn, hlr⟩ := node_nodup hnd
  obtain ⟨h1, h2, h3⟩ := h
  have g1 := Blk.only h1 ho fun e => hrb b e rfl
  have g2 : Tr W5 l := Tr.only ho h2 fun i hi e => hlr i hi e
  have o1 : Only (· = b) W5 (W5.setCell ⟨b, 4, none⟩ (pt r')) := ((Only.refl (· = b) W5).setCell (p := ⟨b, 4, none⟩) (.inl rfl) _)
  have hp2 : (T.node b l k s r').bs.Perm (T.node b l k s r).bs := List.Perm.cons b (hp.append_left l.bs)
  refine ⟨r', rfl, g1.cell 4, g1.frozen 4, ⟨⟨_, (g1.set_ 4 (pt r'))⟩, Tr.only o1 g2 fun i hi e => hlb i hi e, Tr.only o1 ht fun i hi e => hrb i (hp.mem_iff.1 hi) e, (hp2.nodup_iff).2 hnd⟩, ?_, by simp [T.flat, hf], hp2⟩
  exact (ho.mono fun i hi => .inl (by simp [T.bs, show i ∈ r.bs from hi])).trans o1 fun i e => .inl (by rw [show i = b from e]; simp [T.bs])
end

theorem single_low {w W : World} {b c : Nat} {cl cr r : T} {k s ck cs : Int} (hT : Tr W (.node b (.node c cl ck cs cr) k s r)) (hO : Only (· ∈ (T.node b (.node c cl ck cs cr) k s r).bs) w W) (hnd : (T.node b (.node c cl ck cs cr) k s r).bs.Nodup) (hn : (T.node b (.node c cl ck cs cr) k s r).n ≤ 1152921504606846976) :
    Calls Try.prog 52 #[.pointer (some ⟨b, 0, none⟩), .int .i64 0] W (Evn w (.node b (.node c cl ck cs cr) k s r)) :=
  (turn_low ⟨⟨_, hT.1⟩, hT.2.1, hT.2.2, hnd⟩ hn).mono fun e w' h => h.step hO rfl (List.Perm.refl _)
theorem deep_low {w W : World} {b c d : Nat} {cl dl dr r : T} {k s ck cs dk ds : Int} (hT : Tr W (.node b (.node c cl ck cs (.node d dl dk ds dr)) k s r)) (hO : Only (· ∈ (T.node b (.node c cl ck cs (.node d dl dk ds dr)) k s r).bs) w W) (hnd : (T.node b (.node c cl ck cs (.node d dl dk ds dr)) k s r).bs.Nodup) (hn : (T.node b (.node c cl ck cs (.node d dl dk ds dr)) k s r).n ≤ 1152921504606846976) :
    Calls Try.prog 52 #[.pointer (some ⟨c, 0, none⟩), .int .i64 1] W fun e w' => ∃ q, e = .returned (.pointer q) ∧ w'.cell? ⟨b, 3, none⟩ = some (.pointer (some ⟨c, 0, none⟩)) ∧ w'.frozen? ⟨b, 3, none⟩ = false ∧
      w'.cell? ⟨b, 4, none⟩ = some (pt r) ∧ (w'.setCell ⟨b, 3, none⟩ (.pointer q)).cell? ⟨b, 4, none⟩ = some (pt r) ∧ Calls Try.prog 52 #[.pointer (some ⟨b, 0, none⟩), .int .i64 0] (w'.setCell ⟨b, 3, none⟩ (.pointer q)) (Evn w (.node b (.node c cl ck cs (.node d dl dk ds dr)) k s r)) := by
  have hin := (node_nodup hnd).2.2.1
  have hk := hT.2.1
  have h1 := turn_high (w := W) ⟨⟨_, hk.1⟩, hk.2.1, hk.2.2, hin⟩ (by simp only [T.n] at hn ⊢; omega)
  refine h1.mono fun e w' hE => ?_
  obtain ⟨t', rfl, hcell, hfz, hNd, hO2, hf, hp⟩ := after_low hT hnd hE
  obtain ⟨z, hz⟩ := hNd.1
  have hc4 := hz.cell 4
  have hlen := T.n_eq hf
  have hpos : 0 < t'.n := by simp only [T.n] at hlen; omega
  refine ⟨_, rfl, hcell, hfz, ?_, hc4, ?_⟩
  · have h2 : (w'.setCell ⟨b, 3, none⟩ (pt t')).cell? ⟨b, 4, none⟩ = some (pt r) := hc4
    rw [World.cell?_setCell_other w' _ _ _ (by simp)] at h2
    exact h2
  · obtain ⟨g, gl, gk, gs, gr, rfl⟩ := T.ne_of_pos hpos
    exact (turn_low hNd (by rw [hlen]; exact hn)).mono fun e w2 h => h.step (hO.trans hO2 fun i hi => .inl hi) hf hp

theorem single_high {w W : World} {b c : Nat} {l cl cr : T} {k s ck cs : Int} (hT : Tr W (.node b l k s (.node c cl ck cs cr))) (hO : Only (· ∈ (T.node b l k s (.node c cl ck cs cr)).bs) w W) (hnd : (T.node b l k s (.node c cl ck cs cr)).bs.Nodup) (hn : (T.node b l k s (.node c cl ck cs cr)).n ≤ 1152921504606846976) :
    Calls Try.prog 52 #[.pointer (some ⟨b, 0, none⟩), .int .i64 1] W (Evn w (.node b l k s (.node c cl ck cs cr))) :=
  (turn_high ⟨⟨_, hT.1⟩, hT.2.1, hT.2.2, hnd⟩ hn).mono fun e w' h => h.step hO rfl (List.Perm.refl _)
theorem deep_high {w W : World} {b c d : Nat} {l dl dr cr : T} {k s ck cs dk ds : Int} (hT : Tr W (.node b l k s (.node c (.node d dl dk ds dr) ck cs cr))) (hO : Only (· ∈ (T.node b l k s (.node c (.node d dl dk ds dr) ck cs cr)).bs) w W) (hnd : (T.node b l k s (.node c (.node d dl dk ds dr) ck cs cr)).bs.Nodup) (hn : (T.node b l k s (.node c (.node d dl dk ds dr) ck cs cr)).n ≤ 1152921504606846976) :
    Calls Try.prog 52 #[.pointer (some ⟨c, 0, none⟩), .int .i64 0] W fun e w' => ∃ q, e = .returned (.pointer q) ∧ w'.cell? ⟨b, 4, none⟩ = some (.pointer (some ⟨c, 0, none⟩)) ∧ w'.frozen? ⟨b, 4, none⟩ = false ∧
      w'.cell? ⟨b, 3, none⟩ = some (pt l) ∧ (w'.setCell ⟨b, 4, none⟩ (.pointer q)).cell? ⟨b, 3, none⟩ = some (pt l) ∧ Calls Try.prog 52 #[.pointer (some ⟨b, 0, none⟩), .int .i64 1] (w'.setCell ⟨b, 4, none⟩ (.pointer q)) (Evn w (.node b l k s (.node c (.node d dl dk ds dr) ck cs cr))) := by
  have hin := (node_nodup hnd).2.2.2.1
  have hk := hT.2.2
  have h1 := turn_low (w := W) ⟨⟨_, hk.1⟩, hk.2.1, hk.2.2, hin⟩ (by simp only [T.n] at hn ⊢; omega)
  refine h1.mono fun e w' hE => ?_
  obtain ⟨t', rfl, hcell, hfz, hNd, hO2, hf, hp⟩ := after_high hT hnd hE
  obtain ⟨z, hz⟩ := hNd.1
  have hc4 := hz.cell 3
  have hlen := T.n_eq hf
  have hpos : 0 < t'.n := by simp only [T.n] at hlen; omega
  refine ⟨_, rfl, hcell, hfz, ?_, hc4, ?_⟩
  · have h2 : (w'.setCell ⟨b, 4, none⟩ (pt t')).cell? ⟨b, 3, none⟩ = some (pt l) := hc4
    rw [World.cell?_setCell_other w' _ _ _ (by simp)] at h2
    exact h2
  · obtain ⟨g, gl, gk, gs, gr, rfl⟩ := T.ne_of_pos hpos
    exact (turn_high hNd (by rw [hlen]; exact hn)).mono fun e w2 h => h.step (hO.trans hO2 fun i hi => .inl hi) hf hp

/-- what a round of even finds: the node is counted, nothing else has turned -/
def P (w : World) (b : Nat) (l : T) (k s : Int) (r : T) (W : World) : Prop := Tr W (.node b l k s r) ∧ Only (· = b) w W
theorem ix0 (p q : Option Addr) (w : World) : (Instr.index 76 (.agg #[.pointer p, .pointer q]) (.int .i64 0)).run Try.prog w = .ok (.pointer p) w := by kernel_rfl
theorem ix1 (p q : Option Addr) (w : World) : (Instr.index 76 (.agg #[.pointer p, .pointer q]) (.int .i64 1)).run Try.prog w = .ok (.pointer q) w := by kernel_rfl
set_option maxRecDepth 100000 in
set_option maxHeartbeats 12800000 in
theorem even_any {w : World} {b : Nat} {l r : T} {k s : Int} (h : Nd w b l k s r) (hn : (T.node b l k s r).n ≤ 1152921504606846976) :
    Calls Try.prog 46 #[.pointer (some ⟨b, 0, none⟩)] w (Evn w (.node b l k s r)) := by
  obtain ⟨⟨z, hb⟩, hl, hr, hnd⟩ := h
  obtain ⟨hlb, hrb, -, -, -⟩ := node_nodup hnd
  have hn2 : l.n + r.n + 1 ≤ 1152921504606846976 := hn
  have HC : Hid (Calls Try.prog 50 #[.pointer (some ⟨b, 0, none⟩)] w fun e w' => e = .returned (.tuple #[]) ∧ P w b l k s r w') := Lib.hid ((count_any hb hl hr hn2).mono fun e w' ⟨he, ho, h2⟩ =>
    ⟨he, ⟨h2, Tr.only ho hl fun i hi e => hlb i hi e, Tr.only ho hr fun i hi e => hrb i hi e⟩, ho⟩)
  have HN := Lib.hid hn2
  have HD := Lib.hid hnd
  obtain ⟨q3, hq3⟩ : ∃ v, v = pa l := ⟨_, rfl⟩
  obtain ⟨q4, hq4⟩ : ∃ v, v = pa r := ⟨_, rfl⟩
  have HX0 := fun p q => ix0 p q
  have HX1 := fun p q => ix1 p q
  have w0 : IntKind.i64.wrap 0 = 0 := by decide
  have w1 : IntKind.i64.wrap 1 = 1 := by decide
  clear hb hl hr hnd hlb hrb hn hn2
  go_enter Try.func46, Try.ntmps46
  go_wp2_with (fail)
  refine HC.out.mono ?_
  rintro e w1 ⟨rfl, hP⟩
  have a3 : w1.cell? ⟨b, 3, none⟩ = some (.pointer q3) := by rw [hq3]; exact hP.1.1.cell 3
  have a4 : w1.cell? ⟨b, 4, none⟩ = some (.pointer q4) := by rw [hq4]; exact hP.1.1.cell 4
  have HP := Lib.hid hP
  clear HC hP
  have HQ3 := Lib.hid hq3
  have HQ4 := Lib.hid hq4
  clear hq3 hq4
  go_wp2_with (fail)
  go_loopg [3, 4, 11] 2 (fun gk s3 s4 s11 wr => ((gk = 2 ∧ s11 = .int .i64 0) ∨ (gk = 1 ∧ s11 = .int .i64 1) ∨ (gk = 0 ∧ s11 = .int .i64 2)) ∧ P w b l k s r wr)
  case atStart => exact ⟨.inl ⟨rfl, rfl⟩, HP.out⟩
  case round =>
    clear HP a3 a4
    have hq3 := HQ3.out
    have hq4 := HQ4.out
    clear HQ3 HQ4
    obtain ⟨hj, hP⟩ := hrel
    rcases hj with ⟨rfl, rfl⟩ | ⟨rfl, rfl⟩ | ⟨rfl, rfl⟩
    · obtain ⟨hT, hO⟩ := hP
      by_cases hA : l.n + 1 ≤ 3 * (r.n + 1)
      · have hcs : wr.cell? ⟨b, 3, none⟩ = some (.pointer q3) ∧ wr.cell? ⟨b, 4, none⟩ = some (.pointer q4) := by rw [hq3, hq4]; exact ⟨hT.1.cell 3, hT.1.cell 4⟩
        obtain ⟨m3, hm3⟩ : ∃ m, 3 * (r.n + 1) = m := ⟨_, rfl⟩
        obtain ⟨aH, haH⟩ : ∃ m, l.n + 1 = m := ⟨_, rfl⟩
        obtain ⟨aO, haO⟩ : ∃ m, r.n + 1 = m := ⟨_, rfl⟩
        have HWh : Hid (∀ W, Below wr.heap.size wr W → Calls Try.prog 51 #[.pointer q3] W fun e w' => e = .returned (.int .i64 aH) ∧ W = w') := Lib.hid fun W hW => by
          rw [← haH, hq3]; exact weight_any (Tr.below hW (Nat.le_refl _) hT.2.1) (by have := HN.out; omega)
        have HWo : Hid (∀ W, Below wr.heap.size wr W → Calls Try.prog 51 #[.pointer q4] W fun e w' => e = .returned (.int .i64 aO) ∧ W = w') := Lib.hid fun W hW => by
          rw [← haO, hq4]; exact weight_any (Tr.below hW (Nat.le_refl _) hT.2.2) (by have := HN.out; omega)
        have i0 : IntKind.i64.wrap (3 * (aO : Int)) = (m3 : Int) := by rw [IntKind.wrap_i64]; have := HN.out; omega
        have d0 : decide ((aH : Int) ≤ (m3 : Int)) = true := decide_eq_true (by omega)
        have d1 : decide (aH ≤ m3) = true := decide_eq_true (by omega)
        have HP := Lib.hid (show P w b l k s r wr.drew from ⟨Tr.below (Below.refl _ _).drew (Nat.le_refl _) hT, hO.drew⟩)
        obtain ⟨c3, c4⟩ := hcs
        clear hT hO hA hm3 haH haO
        clear hq3 hq4
        go_wp2_with (fail)
        go_region_held3 (fun W => W.cell? ⟨b, 3, none⟩ = some (.pointer q3) ∧ W.cell? ⟨b, 4, none⟩ = some (.pointer q4))
          (first | exact ⟨c3, c4⟩)
          (first
            | (go_at_call 51; (with_reducible refine (HWh.out _ (by repeat' (first | (with_reducible exact Below.refl _ _) | (with_reducible assumption) | (with_reducible refine Below.drew ?_) | (with_reducible refine below_drewN' ?_ _)))).mono ?_); rintro e w5 ⟨rfl, rfl⟩)
            | (go_at_call 51; (with_reducible refine (HWo.out _ (by repeat' (first | (with_reducible exact Below.refl _ _) | (with_reducible assumption) | (with_reducible refine Below.drew ?_) | (with_reducible refine below_drewN' ?_ _)))).mono ?_); rintro e w5 ⟨rfl, rfl⟩))
        go_wp2_with (fail)
        go_roundg 1
        case measure => omega
        case rel => exact ⟨.inr (.inl ⟨rfl, rfl⟩), HP.out⟩
      · obtain ⟨c, cl, ck, cs, cr, rfl⟩ : ∃ c cl ck cs cr, l = .node c cl ck cs cr := T.ne_of_pos (by omega)
        have hTh := hT.2.1
        obtain ⟨qi, hqi⟩ : ∃ v, v = pa cr := ⟨_, rfl⟩
        obtain ⟨qu, hqu⟩ : ∃ v, v = pa cl := ⟨_, rfl⟩
        obtain rfl : q3 = some ⟨c, 0, none⟩ := hq3
        have hcs : wr.cell? ⟨b, 3, none⟩ = some (.pointer (some ⟨c, 0, none⟩)) ∧ wr.cell? ⟨b, 4, none⟩ = some (.pointer q4) ∧ wr.cell? ⟨c, 4, none⟩ = some (.pointer qi) ∧ wr.cell? ⟨c, 3, none⟩ = some (.pointer qu) := by
          rw [hq4, hqi, hqu]; exact ⟨hT.1.cell 3, hT.1.cell 4, hTh.1.cell 4, hTh.1.cell 3⟩
        have hcn : (T.node c cl ck cs cr).n = cl.n + cr.n + 1 := rfl
        obtain ⟨m3, hm3⟩ : ∃ m, 3 * (r.n + 1) = m := ⟨_, rfl⟩
        obtain ⟨aH, haH⟩ : ∃ m, (T.node c cl ck cs cr).n + 1 = m := ⟨_, rfl⟩
        obtain ⟨aO, haO⟩ : ∃ m, r.n + 1 = m := ⟨_, rfl⟩
        obtain ⟨m2, hm2⟩ : ∃ m, 2 * (cl.n + 1) = m := ⟨_, rfl⟩
        obtain ⟨aI, haI⟩ : ∃ m, cr.n + 1 = m := ⟨_, rfl⟩
        obtain ⟨aU, haU⟩ : ∃ m, cl.n + 1 = m := ⟨_, rfl⟩
        have HWh : Hid (∀ W, Below wr.heap.size wr W → Calls Try.prog 51 #[.pointer (some ⟨c, 0, none⟩)] W fun e w' => e = .returned (.int .i64 aH) ∧ W = w') := Lib.hid fun W hW => by
          rw [← haH]; exact weight_any (t := .node c cl ck cs cr) (Tr.below hW (Nat.le_refl _) hTh) (by have := HN.out; omega)
        have HWo : Hid (∀ W, Below wr.heap.size wr W → Calls Try.prog 51 #[.pointer q4] W fun e w' => e = .returned (.int .i64 aO) ∧ W = w') := Lib.hid fun W hW => by
          rw [← haO, hq4]; exact weight_any (Tr.below hW (Nat.le_refl _) hT.2.2) (by have := HN.out; omega)
        have HWi : Hid (∀ W, Below wr.heap.size wr W → Calls Try.prog 51 #[.pointer qi] W fun e w' => e = .returned (.int .i64 aI) ∧ W = w') := Lib.hid fun W hW => by
          rw [← haI, hqi]; exact weight_any (Tr.below hW (Nat.le_refl _) hTh.2.2) (by have := HN.out; omega)
        have HWu : Hid (∀ W, Below wr.heap.size wr W → Calls Try.prog 51 #[.pointer qu] W fun e w' => e = .returned (.int .i64 aU) ∧ W = w') := Lib.hid fun W hW => by
          rw [← haU, hqu]; exact weight_any (Tr.below hW (Nat.le_refl _) hTh.2.1) (by have := HN.out; omega)
        have i0 : IntKind.i64.wrap (3 * (aO : Int)) = (m3 : Int) := by rw [IntKind.wrap_i64]; have := HN.out; omega
        have i1 : IntKind.i64.wrap (2 * (aU : Int)) = (m2 : Int) := by rw [IntKind.wrap_i64]; have := HN.out; omega
        have d0 : decide ((aH : Int) ≤ (m3 : Int)) = false := decide_eq_false (by omega)
        have d1 : decide (aH ≤ m3) = false := decide_eq_false (by omega)
        have hOb : ∀ W, Below wr.heap.size wr W → Tr W (.node b (.node c cl ck cs cr) k s r) ∧ Only (· ∈ (T.node b (.node c cl ck cs cr) k s r).bs) w W := fun W hW => ⟨Tr.below hW (Nat.le_refl _) hT, (hO.mono (T := (· ∈ (T.node b (.node c cl ck cs cr) k s r).bs)) fun i e => .inl (by rw [show i = b from e]; simp [T.bs])).trans (Only.of_below hW (Nat.le_refl _) (fun _ => False)) fun _ e => e.elim⟩
        obtain ⟨c3, c4, c5, c6⟩ := hcs
        by_cases hB : 2 * (cl.n + 1) ≤ cr.n + 1
        · obtain ⟨d, dl, dk, ds, dr, rfl⟩ : ∃ d dl dk ds dr, cr = .node d dl dk ds dr := T.ne_of_pos (by omega)
          have e0 : decide ((m2 : Int) ≤ (aI : Int)) = true := decide_eq_true (by omega)
          have e1 : decide (m2 ≤ aI) = true := decide_eq_true (by omega)
          have HT : Hid (∀ W, Below wr.heap.size wr W → Calls Try.prog 52 #[.pointer (some ⟨c, 0, none⟩), .int .i64 1] W fun e w' => ∃ q, e = .returned (.pointer q) ∧ w'.cell? ⟨b, 3, none⟩ = some (.pointer (some ⟨c, 0, none⟩)) ∧ w'.frozen? ⟨b, 3, none⟩ = false ∧
              w'.cell? ⟨b, 4, none⟩ = some (.pointer q4) ∧ (w'.setCell ⟨b, 3, none⟩ (.pointer q)).cell? ⟨b, 4, none⟩ = some (.pointer q4) ∧ Calls Try.prog 52 #[.pointer (some ⟨b, 0, none⟩), .int .i64 0] (w'.setCell ⟨b, 3, none⟩ (.pointer q)) (Evn w (.node b (.node c cl ck cs (.node d dl dk ds dr)) k s r))) := Lib.hid fun W hW => by
            obtain ⟨h1, h2⟩ := hOb W hW
            rw [hq4]
            exact deep_low h1 h2 HD.out HN.out
          clear hT hO hA hB hm3 haH haO hm2 haI haU hqi hqu hTh hcn hOb
          clear hq4
          go_wp2_with (fail)
          go_region_held3 (fun W => W.cell? ⟨b, 3, none⟩ = some (.pointer (some ⟨c, 0, none⟩)) ∧ W.cell? ⟨b, 4, none⟩ = some (.pointer q4))
            (first | exact ⟨c3, c4⟩)
            (first
              | (go_at_call 51; (with_reducible refine (HWh.out _ (by repeat' (first | (with_reducible exact Below.refl _ _) | (with_reducible assumption) | (with_reducible refine Below.drew ?_) | (with_reducible refine below_drewN' ?_ _)))).mono ?_); rintro e w5 ⟨rfl, rfl⟩)
              | (go_at_call 51; (with_reducible refine (HWo.out _ (by repeat' (first | (with_reducible exact Below.refl _ _) | (with_reducible assumption) | (with_reducible refine Below.drew ?_) | (with_reducible refine below_drewN' ?_ _)))).mono ?_); rintro e w5 ⟨rfl, rfl⟩))
          go_wp2_with (fail)
          go_region_held3 (fun W => W.cell? ⟨c, 4, none⟩ = some (.pointer qi) ∧ W.cell? ⟨c, 3, none⟩ = some (.pointer qu))
            (first | exact ⟨c5, c6⟩)
            (first
              | (go_at_call 51; (with_reducible refine (HWi.out _ (by repeat' (first | (with_reducible exact Below.refl _ _) | (with_reducible assumption) | (with_reducible refine Below.drew ?_) | (with_reducible refine below_drewN' ?_ _)))).mono ?_); rintro e w5 ⟨rfl, rfl⟩)
              | (go_at_call 51; (with_reducible refine (HWu.out _ (by repeat' (first | (with_reducible exact Below.refl _ _) | (with_reducible assumption) | (with_reducible refine Below.drew ?_) | (with_reducible refine below_drewN' ?_ _)))).mono ?_); rintro e w5 ⟨rfl, rfl⟩))
          go_wp2_with (fail)
          go_region_held3 (fun W => W.cell? ⟨b, 4, none⟩ = some (.pointer q4))
            (first | exact c4 | exact x4 | exact x5)
            (first
              | (go_at_call 52; (with_reducible refine (HT.out _ (by repeat' (first | (with_reducible exact Below.refl _ _) | (with_reducible assumption) | (with_reducible refine Below.drew ?_) | (with_reducible refine below_drewN' ?_ _)))).mono ?_); rintro e w5 ⟨q, rfl, x3, xf, x4, x5, xT⟩; have XT := Lib.hid xT; clear xT))
          go_wp2_with (fail)
          refine XT.out.mono ?_
          rintro e w6 hE
          have HE := Lib.hid hE
          obtain ⟨t', rfl, -⟩ := hE
          unfold pt at HE ⊢
          go_wp2_with (fail)
          go_ret
          exact HE.out
        · have e0 : decide ((m2 : Int) ≤ (aI : Int)) = false := decide_eq_false (by omega)
          have e1 : decide (m2 ≤ aI) = false := decide_eq_false (by omega)
          have HT : Hid (∀ W, Below wr.heap.size wr W → Calls Try.prog 52 #[.pointer (some ⟨b, 0, none⟩), .int .i64 0] W (Evn w (.node b (.node c cl ck cs cr) k s r))) := Lib.hid fun W hW => by
            obtain ⟨h1, h2⟩ := hOb W hW
            exact single_low h1 h2 HD.out HN.out
          clear hT hO hA hB hm3 haH haO hm2 haI haU hqi hqu hTh hcn hOb
          clear hq4
          go_wp2_with (fail)
          go_region_held3 (fun W => W.cell? ⟨b, 3, none⟩ = some (.pointer (some ⟨c, 0, none⟩)) ∧ W.cell? ⟨b, 4, none⟩ = some (.pointer q4))
            (first | exact ⟨c3, c4⟩)
            (first
              | (go_at_call 51; (with_reducible refine (HWh.out _ (by repeat' (first | (with_reducible exact Below.refl _ _) | (with_reducible assumption) | (with_reducible refine Below.drew ?_) | (with_reducible refine below_drewN' ?_ _)))).mono ?_); rintro e w5 ⟨rfl, rfl⟩)
              | (go_at_call 51; (with_reducible refine (HWo.out _ (by repeat' (first | (with_reducible exact Below.refl _ _) | (with_reducible assumption) | (with_reducible refine Below.drew ?_) | (with_reducible refine below_drewN' ?_ _)))).mono ?_); rintro e w5 ⟨rfl, rfl⟩))
          go_wp2_with (fail)
          go_region_held3 (fun W => W.cell? ⟨c, 4, none⟩ = some (.pointer qi) ∧ W.cell? ⟨c, 3, none⟩ = some (.pointer qu))
            (first | exact ⟨c5, c6⟩)
            (first
              | (go_at_call 51; (with_reducible refine (HWi.out _ (by repeat' (first | (with_reducible exact Below.refl _ _) | (with_reducible assumption) | (with_reducible refine Below.drew ?_) | (with_reducible refine below_drewN' ?_ _)))).mono ?_); rintro e w5 ⟨rfl, rfl⟩)
              | (go_at_call 51; (with_reducible refine (HWu.out _ (by repeat' (first | (with_reducible exact Below.refl _ _) | (with_reducible assumption) | (with_reducible refine Below.drew ?_) | (with_reducible refine below_drewN' ?_ _)))).mono ?_); rintro e w5 ⟨rfl, rfl⟩))
          go_wp2_with (fail)
          refine (HT.out _ (by repeat' (first | (with_reducible exact Below.refl _ _) | (with_reducible assumption) | (with_reducible refine Below.drew ?_) | (with_reducible refine below_drewN' ?_ _)))).mono ?_
          rintro e w6 hE
          have HE := Lib.hid hE
          obtain ⟨t', rfl, -⟩ := hE
          unfold pt at HE ⊢
          go_wp2_with (fail)
          go_ret
          exact HE.out
    · obtain ⟨hT, hO⟩ := hP
      by_cases hA : r.n + 1 ≤ 3 * (l.n + 1)
      · have hcs : wr.cell? ⟨b, 4, none⟩ = some (.pointer q4) ∧ wr.cell? ⟨b, 3, none⟩ = some (.pointer q3) := by rw [hq3, hq4]; exact ⟨hT.1.cell 4, hT.1.cell 3⟩
        obtain ⟨m3, hm3⟩ : ∃ m, 3 * (l.n + 1) = m := ⟨_, rfl⟩
        obtain ⟨aH, haH⟩ : ∃ m, r.n + 1 = m := ⟨_, rfl⟩
        obtain ⟨aO, haO⟩ : ∃ m, l.n + 1 = m := ⟨_, rfl⟩
        have HWh : Hid (∀ W, Below wr.heap.size wr W → Calls Try.prog 51 #[.pointer q4] W fun e w' => e = .returned (.int .i64 aH) ∧ W = w') := Lib.hid fun W hW => by
          rw [← haH, hq4]; exact weight_any (Tr.below hW (Nat.le_refl _) hT.2.2) (by have := HN.out; omega)
        have HWo : Hid (∀ W, Below wr.heap.size wr W → Calls Try.prog 51 #[.pointer q3] W fun e w' => e = .returned (.int .i64 aO) ∧ W = w') := Lib.hid fun W hW => by
          rw [← haO, hq3]; exact weight_any (Tr.below hW (Nat.le_refl _) hT.2.1) (by have := HN.out; omega)
        have i0 : IntKind.i64.wrap (3 * (aO : Int)) = (m3 : Int) := by rw [IntKind.wrap_i64]; have := HN.out; omega
        have d0 : decide ((aH : Int) ≤ (m3 : Int)) = true := decide_eq_true (by omega)
        have d1 : decide (aH ≤ m3) = true := decide_eq_true (by omega)
        have HP := Lib.hid (show P w b l k s r wr.drew from ⟨Tr.below (Below.refl _ _).drew (Nat.le_refl _) hT, hO.drew⟩)
        obtain ⟨c3, c4⟩ := hcs
        clear hT hO hA hm3 haH haO
        clear hq3 hq4
        go_wp2_with (fail)
        go_region_held3 (fun W => W.cell? ⟨b, 4, none⟩ = some (.pointer q4) ∧ W.cell? ⟨b, 3, none⟩ = some (.pointer q3))
          (first | exact ⟨c3, c4⟩)
          (first
            | (go_at_call 51; (with_reducible refine (HWh.out _ (by repeat' (first | (with_reducible exact Below.refl _ _) | (with_reducible assumption) | (with_reducible refine Below.drew ?_) | (with_reducible refine below_drewN' ?_ _)))).mono ?_); rintro e w5 ⟨rfl, rfl⟩)
            | (go_at_call 51; (with_reducible refine (HWo.out _ (by repeat' (first | (with_reducible exact Below.refl _ _) | (with_reducible assumption) | (with_reducible refine Below.drew ?_) | (with_reducible refine below_drewN' ?_ _)))).mono ?_); rintro e w5 ⟨rfl, rfl⟩))
        go_wp2_with (fail)
        go_roundg 0
        case measure => omega
        case rel => exact ⟨.inr (.inr ⟨rfl, rfl⟩), HP.out⟩
      · obtain ⟨c, cl, ck, cs, cr, rfl⟩ : ∃ c cl ck cs cr, r = .node c cl ck cs cr := T.ne_of_pos (by omega)
        have hTh := hT.2.2
        obtain ⟨qi, hqi⟩ : ∃ v, v = pa cl := ⟨_, rfl⟩
        obtain ⟨qu, hqu⟩ : ∃ v, v = pa cr := ⟨_, rfl⟩
        obtain rfl : q4 = some ⟨c, 0, none⟩ := hq4
        have hcs : wr.cell? ⟨b, 4, none⟩ = some (.pointer (some ⟨c, 0, none⟩)) ∧ wr.cell? ⟨b, 3, none⟩ = some (.pointer q3) ∧ wr.cell? ⟨c, 3, none⟩ = some (.pointer qi) ∧ wr.cell? ⟨c, 4, none⟩ = some (.pointer qu) := by
          rw [hq3, hqi, hqu]; exact ⟨hT.1.cell 4, hT.1.cell 3, hTh.1.cell 3, hTh.1.cell 4⟩
        have hcn : (T.node c cl ck cs cr).n = cl.n + cr.n + 1 := rfl
        obtain ⟨m3, hm3⟩ : ∃ m, 3 * (l.n + 1) = m := ⟨_, rfl⟩
        obtain ⟨aH, haH⟩ : ∃ m, (T.node c cl ck cs cr).n + 1 = m := ⟨_, rfl⟩
        obtain ⟨aO, haO⟩ : ∃ m, l.n + 1 = m := ⟨_, rfl⟩
        obtain ⟨m2, hm2⟩ : ∃ m, 2 * (cr.n + 1) = m := ⟨_, rfl⟩
        obtain ⟨aI, haI⟩ : ∃ m, cl.n + 1 = m := ⟨_, rfl⟩
        obtain ⟨aU, haU⟩ : ∃ m, cr.n + 1 = m := ⟨_, rfl⟩
        have HWh : Hid (∀ W, Below wr.heap.size wr W → Calls Try.prog 51 #[.pointer (some ⟨c, 0, none⟩)] W fun e w' => e = .returned (.int .i64 aH) ∧ W = w') := Lib.hid fun W hW => by
          rw [← haH]; exact weight_any (t := .node c cl ck cs cr) (Tr.below hW (Nat.le_refl _) hTh) (by have := HN.out; omega)
        have HWo : Hid (∀ W, Below wr.heap.size wr W → Calls Try.prog 51 #[.pointer q3] W fun e w' => e = .returned (.int .i64 aO) ∧ W = w') := Lib.hid fun W hW => by
          rw [← haO, hq3]; exact weight_any (Tr.below hW (Nat.le_refl _) hT.2.1) (by have := HN.out; omega)
        have HWi : Hid (∀ W, Below wr.heap.size wr W → Calls Try.prog 51 #[.pointer qi] W fun e w' => e = .returned (.int .i64 aI) ∧ W = w') := Lib.hid fun W hW => by
          rw [← haI, hqi]; exact weight_any (Tr.below hW (Nat.le_refl _) hTh.2.1) (by have := HN.out; omega)
        have HWu : Hid (∀ W, Below wr.heap.size wr W → Calls Try.prog 51 #[.pointer qu] W fun e w' => e = .returned (.int .i64 aU) ∧ W = w') := Lib.hid fun W hW => by
          rw [← haU, hqu]; exact weight_any (Tr.below hW (Nat.le_refl _) hTh.2.2) (by have := HN.out; omega)
        have i0 : IntKind.i64.wrap (3 * (aO : Int)) = (m3 : Int) := by rw [IntKind.wrap_i64]; have := HN.out; omega
        have i1 : IntKind.i64.wrap (2 * (aU : Int)) = (m2 : Int) := by rw [IntKind.wrap_i64]; have := HN.out; omega
        have d0 : decide ((aH : Int) ≤ (m3 : Int)) = false := decide_eq_false (by omega)
        have d1 : decide (aH ≤ m3) = false := decide_eq_false (by omega)
        have hOb : ∀ W, Below wr.heap.size wr W → Tr W (.node b l k s (.node c cl ck cs cr)) ∧ Only (· ∈ (T.node b l k s (.node c cl ck cs cr)).bs) w W := fun W hW => ⟨Tr.below hW (Nat.le_refl _) hT, (hO.mono (T := (· ∈ (T.node b l k s (.node c cl ck cs cr)).bs)) fun i e => .inl (by rw [show i = b from e]; simp [T.bs])).trans (Only.of_below hW (Nat.le_refl _) (fun _ => False)) fun _ e => e.elim⟩
        obtain ⟨c3, c4, c5, c6⟩ := hcs
        by_cases hB : 2 * (cr.n + 1) ≤ cl.n + 1
        · obtain ⟨d, dl, dk, ds, dr, rfl⟩ : ∃ d dl dk ds dr, cl = .node d dl dk ds dr := T.ne_of_pos (by omega)
          have e0 : decide ((m2 : Int) ≤ (aI : Int)) = true := decide_eq_true (by omega)
          have e1 : decide (m2 ≤ aI) = true := decide_eq_true (by omega)
          have HT : Hid (∀ W, Below wr.heap.size wr W → Calls Try.prog 52 #[.pointer (some ⟨c, 0, none⟩), .int .i64 0] W fun e w' => ∃ q, e = .returned (.pointer q) ∧ w'.cell? ⟨b, 4, none⟩ = some (.pointer (some ⟨c, 0, none⟩)) ∧ w'.frozen? ⟨b, 4, none⟩ = false ∧
              w'.cell? ⟨b, 3, none⟩ = some (.pointer q3) ∧ (w'.setCell ⟨b, 4, none⟩ (.pointer q)).cell? ⟨b, 3, none⟩ = some (.pointer q3) ∧ Calls Try.prog 52 #[.pointer (some ⟨b, 0, none⟩), .int .i64 1] (w'.setCell ⟨b, 4, none⟩ (.pointer q)) (Evn w (.node b l k s (.node c (.node d dl dk ds dr) ck cs cr)))) := Lib.hid fun W hW => by
            obtain ⟨h1, h2⟩ := hOb W hW
            rw [hq3]
            exact deep_high h1 h2 HD.out HN.out
          clear hT hO hA hB hm3 haH haO hm2 haI haU hqi hqu hTh hcn hOb
          clear hq3
          go_wp2_with (fail)
          go_region_held3 (fun W => W.cell? ⟨b, 4, none⟩ = some (.pointer (some ⟨c, 0, none⟩)) ∧ W.cell? ⟨b, 3, none⟩ = some (.pointer q3))
            (first | exact ⟨c3, c4⟩)
            (first
              | (go_at_call 51; (with_reducible refine (HWh.out _ (by repeat' (first | (with_reducible exact Below.refl _ _) | (with_reducible assumption) | (with_reducible refine Below.drew ?_) | (with_reducible refine below_drewN' ?_ _)))).mono ?_); rintro e w5 ⟨rfl, rfl⟩)
              | (go_at_call 51; (with_reducible refine (HWo.out _ (by repeat' (first | (with_reducible exact Below.refl _ _) | (with_reducible assumption) | (with_reducible refine Below.drew ?_) | (with_reducible refine below_drewN' ?_ _)))).mono ?_); rintro e w5 ⟨rfl, rfl⟩))
          go_wp2_with (fail)
          go_region_held3 (fun W => W.cell? ⟨c, 3, none⟩ = some (.pointer qi) ∧ W.cell? ⟨c, 4, none⟩ = some (.pointer qu))
            (first | exact ⟨c5, c6⟩)
            (first
              | (go_at_call 51; (with_reducible refine (HWi.out _ (by repeat' (first | (with_reducible exact Below.refl _ _) | (with_reducible assumption) | (with_reducible refine Below.drew ?_) | (with_reducible refine below_drewN' ?_ _)))).mono ?_); rintro e w5 ⟨rfl, rfl⟩)
              | (go_at_call 51; (with_reducible refine (HWu.out _ (by repeat' (first | (with_reducible exact Below.refl _ _) | (with_reducible assumption) | (with_reducible refine Below.drew ?_) | (with_reducible refine below_drewN' ?_ _)))).mono ?_); rintro e w5 ⟨rfl, rfl⟩))
          go_wp2_with (fail)
          go_region_held3 (fun W => W.cell? ⟨b, 3, none⟩ = some (.pointer q3))
            (first | exact c4 | exact x4 | exact x5)
            (first
              | (go_at_call 52; (with_reducible refine (HT.out _ (by repeat' (first | (with_reducible exact Below.refl _ _) | (with_reducible assumption) | (with_reducible refine Below.drew ?_) | (with_reducible refine below_drewN' ?_ _)))).mono ?_); rintro e w5 ⟨q, rfl, x3, xf, x4, x5, xT⟩; have XT := Lib.hid xT; clear xT))
          go_wp2_with (fail)
          refine XT.out.mono ?_
          rintro e w6 hE
          have HE := Lib.hid hE
          obtain ⟨t', rfl, -⟩ := hE
          unfold pt at HE ⊢
          go_wp2_with (fail)
          go_ret
          exact HE.out
        · have e0 : decide ((m2 : Int) ≤ (aI : Int)) = false := decide_eq_false (by omega)
          have e1 : decide (m2 ≤ aI) = false := decide_eq_false (by omega)
          have HT : Hid (∀ W, Below wr.heap.size wr W → Calls Try.prog 52 #[.pointer (some ⟨b, 0, none⟩), .int .i64 1] W (Evn w (.node b l k s (.node c cl ck cs cr)))) := Lib.hid fun W hW => by
            obtain ⟨h1, h2⟩ := hOb W hW
            exact single_high h1 h2 HD.out HN.out
          clear hT hO hA hB hm3 haH haO hm2 haI haU hqi hqu hTh hcn hOb
          clear hq3
          go_wp2_with (fail)
          go_region_held3 (fun W => W.cell? ⟨b, 4, none⟩ = some (.pointer (some ⟨c, 0, none⟩)) ∧ W.cell? ⟨b, 3, none⟩ = some (.pointer q3))
            (first | exact ⟨c3, c4⟩)
            (first
              | (go_at_call 51; (with_reducible refine (HWh.out _ (by repeat' (first | (with_reducible exact Below.refl _ _) | (with_reducible assumption) | (with_reducible refine Below.drew ?_) | (with_reducible refine below_drewN' ?_ _)))).mono ?_); rintro e w5 ⟨rfl, rfl⟩)
              | (go_at_call 51; (with_reducible refine (HWo.out _ (by repeat' (first | (with_reducible exact Below.refl _ _) | (with_reducible assumption) | (with_reducible refine Below.drew ?_) | (with_reducible refine below_drewN' ?_ _)))).mono ?_); rintro e w5 ⟨rfl, rfl⟩))
          go_wp2_with (fail)
          go_region_held3 (fun W => W.cell? ⟨c, 3, none⟩ = some (.pointer qi) ∧ W.cell? ⟨c, 4, none⟩ = some (.pointer qu))
            (first | exact ⟨c5, c6⟩)
            (first
              | (go_at_call 51; (with_reducible refine (HWi.out _ (by repeat' (first | (with_reducible exact Below.refl _ _) | (with_reducible assumption) | (with_reducible refine Below.drew ?_) | (with_reducible refine below_drewN' ?_ _)))).mono ?_); rintro e w5 ⟨rfl, rfl⟩)
              | (go_at_call 51; (with_reducible refine (HWu.out _ (by repeat' (first | (with_reducible exact Below.refl _ _) | (with_reducible assumption) | (with_reducible refine Below.drew ?_) | (with_reducible refine below_drewN' ?_ _)))).mono ?_); rintro e w5 ⟨rfl, rfl⟩))
          go_wp2_with (fail)
          refine (HT.out _ (by repeat' (first | (with_reducible exact Below.refl _ _) | (with_reducible assumption) | (with_reducible refine Below.drew ?_) | (with_reducible refine below_drewN' ?_ _)))).mono ?_
          rintro e w6 hE
          have HE := Lib.hid hE
          obtain ⟨t', rfl, -⟩ := hE
          unfold pt at HE ⊢
          go_wp2_with (fail)
          go_ret
          exact HE.out
    · have HE : Hid (Evn w (.node b l k s r) (.returned (.pointer (some ⟨b, 0, none⟩))) wr) := Lib.hid ⟨_, rfl, hP.1, rfl, List.Perm.refl _, hP.2.mono fun i e => .inl (by rw [show i = b from e]; simp [T.bs])⟩
      clear hP hq3 hq4
      go_wp2_with (fail)
      go_ret
      exact HE.out
end Go.Proofs.Ytaickhhbdbbmjaa.direct
