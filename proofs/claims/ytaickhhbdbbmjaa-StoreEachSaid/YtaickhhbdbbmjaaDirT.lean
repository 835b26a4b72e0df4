/-
  The contract of turn: a kid lifted above its node.
-/
import Derived.Test.YtaickhhbdbbmjaaDir
namespace Go.Proofs.Ytaickhhbdbbmjaa.direct
open Go.RowKit law bytes only flat
set_option linter.unusedVariables false

/-- what stands in a tree is as before, in other nodes' order -/
def Evn (w : World) (t : T) (e : Ending) (w' : World) : Prop := ∃ t', e = .returned (pt t') ∧ Tr w' t' ∧ t'.flat = t.flat ∧ t'.bs.Perm t.bs ∧ Only (· ∈ t.bs) w w'
theorem two_of_nodup {b c : Nat} {L : List Nat} (h : (b :: c :: L).Nodup) : b ≠ c ∧ (∀ i ∈ L, i ≠ b) ∧ (∀ i ∈ L, i ≠ c) := by
  obtain ⟨h1, h2⟩ := List.nodup_cons.1 h
  obtain ⟨h3, -⟩ := List.nodup_cons.1 h2
  exact ⟨fun e => h1 (by simp [e]), fun i hi e => h1 (by simp [← e, hi]), fun i hi e => h3 (by rw [← e]; exact hi)⟩
set_option maxRecDepth 100000 in
set_option maxHeartbeats 3200000 in
theorem turn_low {w : World} {b c : Nat} {cl cr r : T} {k s ck cs : Int} (h : Nd w b (.node c cl ck cs cr) k s r) (hn : (T.node b (.node c cl ck cs cr) k s r).n ≤ 1152921504606846976) :
    Calls Try.prog 52 #[.pointer (some ⟨b, 0, none⟩), .int .i64 0] w (Evn w (.node b (.node c cl ck cs cr) k s r)) := by
  obtain ⟨⟨z, hb⟩, hl, hr, hnd⟩ := h
  obtain ⟨hc, hcl, hcr⟩ := hl
  have hnd2 : (b :: c :: (cl.bs ++ cr.bs ++ r.bs)).Nodup := hnd
  obtain ⟨hbc, hLb, hLc⟩ := two_of_nodup hnd2
  obtain ⟨-, -, -, b3, -⟩ := blk_node hb
  have b3' : w.cell? ⟨b, 3, none⟩ = some (.pointer (some ⟨c, 0, none⟩)) := b3
  obtain ⟨-, -, -, -, c4⟩ := blk_node hc
  have fb := hb.frozen 3
  have fc := hc.frozen 4
  obtain ⟨pr, hpr⟩ : ∃ v, pa cr = v := ⟨_, rfl⟩
  have c4' : w.cell? ⟨c, 4, none⟩ = some (.pointer pr) := by rw [← hpr]; exact c4
  have go : ∀ W, Only (fun i => i = b ∨ i = c) w W → Blk W b 78 (nd k s z cr r) → Blk W c 78 (nd ck cs ((cl.n + cr.n + 1 : Nat) : Int) cl (.node b cr k s r)) → 
      Calls Try.prog 50 #[.pointer (some ⟨b, 0, none⟩)] W fun e w2 => e = .returned (.tuple #[]) ∧
        Calls Try.prog 50 #[.pointer (some ⟨c, 0, none⟩)] w2 fun e w3 => e = .returned (.tuple #[]) ∧ Evn w (.node b (.node c cl ck cs cr) k s r) (.returned (.pointer (some ⟨c, 0, none⟩))) w3 := by
    intro W ho hb1 hc1
    have hcl1 : Tr W cl := Tr.only ho hcl fun i hi e => by rcases e with e | e; exact hLb i (by simp [hi]) e; exact hLc i (by simp [hi]) e
    have hcr1 : Tr W cr := Tr.only ho hcr fun i hi e => by rcases e with e | e; exact hLb i (by simp [hi]) e; exact hLc i (by simp [hi]) e
    have hr1 : Tr W r := Tr.only ho hr fun i hi e => by rcases e with e | e; exact hLb i (by simp [hi]) e; exact hLc i (by simp [hi]) e
    simp only [T.n] at hn
    refine (count_any hb1 hcr1 hr1 (by omega)).mono fun e w2 ⟨he, ho2, hb2⟩ => ⟨he, ?_⟩
    have hcl2 : Tr w2 cl := Tr.only ho2 hcl1 fun i hi e => hLb i (by simp [hi]) e
    have hcr2 : Tr w2 cr := Tr.only ho2 hcr1 fun i hi e => hLb i (by simp [hi]) e
    have hr2 : Tr w2 r := Tr.only ho2 hr1 fun i hi e => hLb i (by simp [hi]) e
    have hN2 : Tr w2 (.node b cr k s r) := ⟨hb2, hcr2, hr2⟩
    have hc2 := Blk.only hc1 ho2 fun e => hbc e.symm
    refine (count_any hc2 hcl2 hN2 (by simp only [T.n]; omega)).mono fun e w3 ⟨he, ho3, hc3⟩ => ⟨he, ?_⟩
    have ho4 : Only (fun i => i = b ∨ i = c) w w3 := (ho.trans ho2 fun i e => .inl (.inl e)).trans ho3 fun i e => .inl (.inr e)
    refine ⟨.node c cl ck cs (.node b cr k s r), rfl, ⟨hc3, Tr.only ho3 hcl2 fun i hi e => hLc i (by simp [hi]) e, Tr.only ho3 hN2 fun i hi e => ?_⟩, by simp [T.flat], ?_, ho4.mono fun i e => .inl ?_⟩
    · simp only [T.bs, List.mem_cons, List.mem_append] at hi
      rcases hi with hi | hi | hi
      · exact hbc (by rw [← hi, e])
      · exact hLc i (by simp [hi]) e
      · exact hLc i (by simp [hi]) e
    · simp only [T.bs, List.cons_append, List.append_assoc]
      exact ((List.perm_middle (a := b) (l₁ := cl.bs) (l₂ := cr.bs ++ r.bs)).cons c).trans (List.Perm.swap b c _)
    · rcases e with rfl | rfl <;> simp [T.bs]
  have h0 : Only (fun i => i = b ∨ i = c) w ((w.setCell ⟨b, 3, none⟩ (.pointer pr)).setCell ⟨c, 4, none⟩ (.pointer (some ⟨b, 0, none⟩))).drew := (((Only.refl (fun i => i = b ∨ i = c) w).setCell (p := ⟨b, 3, none⟩) (.inl (.inl rfl)) _).setCell (p := ⟨c, 4, none⟩) (.inl (.inr rfl)) _).drew
  have h1 : Blk ((w.setCell ⟨b, 3, none⟩ (.pointer pr)).setCell ⟨c, 4, none⟩ (.pointer (some ⟨b, 0, none⟩))).drew b 78 (nd k s z cr r) := by
    have h2 := (hb.set_ 3 (.pointer pr)).far (p := ⟨c, 4, none⟩) hbc (.pointer (some ⟨b, 0, none⟩))
    rw [← hpr] at h2 ⊢
    exact h2.drewN 1
  have h2 : Blk ((w.setCell ⟨b, 3, none⟩ (.pointer pr)).setCell ⟨c, 4, none⟩ (.pointer (some ⟨b, 0, none⟩))).drew c 78 (nd ck cs ((cl.n + cr.n + 1 : Nat) : Int) cl (.node b cr k s r)) :=
    ((hc.far (p := ⟨b, 3, none⟩) (fun e => hbc e.symm) (.pointer pr)).set_ 4 (.pointer (some ⟨b, 0, none⟩))).drewN 1
  have H1 := Lib.hid (go _ h0 h1 h2)
  clear go hb hc hcl hcr hr hnd hnd2 hLb hLc hn b3 c4 h0 h1 h2 hpr
  go_enter Try.func52, Try.ntmps52
  go_wp2_with (fail)
  go_region
  go_wp2_with (fail)
  refine H1.out.mono ?_
  rintro e w2 ⟨rfl, h4⟩
  have H2 := Lib.hid h4
  clear H1 h4
  go_wp2_with (fail)
  refine H2.out.mono ?_
  rintro e w3 ⟨rfl, h5⟩
  have H3 := Lib.hid h5
  clear H2 h5
  go_wp2_with (fail)
  go_ret
  exact H3.out
set_option maxRecDepth 100000 in
set_option maxHeartbeats 3200000 in
theorem turn_high {w : World} {b c : Nat} {cl cr l : T} {k s ck cs : Int} (h : Nd w b l k s (.node c cl ck cs cr)) (hn : (T.node b l k s (.node c cl ck cs cr)).n ≤ 1152921504606846976) :
    Calls Try.prog 52 #[.pointer (some ⟨b, 0, none⟩), .int .i64 1] w (Evn w (.node b l k s (.node c cl ck cs cr))) := by
  obtain ⟨⟨z, hb⟩, hl, hr, hnd⟩ := h
  obtain ⟨hc, hcl, hcr⟩ := hr
  have hnd2 : (b :: c :: (l.bs ++ cl.bs ++ cr.bs)).Nodup := by
    refine (List.Perm.nodup_iff ?_).1 hnd
    simp only [T.bs, List.append_assoc]
    exact List.Perm.cons b (List.perm_middle (a := c) (l₁ := l.bs) (l₂ := cl.bs ++ cr.bs))
  obtain ⟨hbc, hLb, hLc⟩ := two_of_nodup hnd2
  have b4' : w.cell? ⟨b, 4, none⟩ = some (.pointer (some ⟨c, 0, none⟩)) := hb.cell 4
  have fb := hb.frozen 4
  have fc := hc.frozen 3
  obtain ⟨pr, hpr⟩ : ∃ v, pa cl = v := ⟨_, rfl⟩
  have c3' : w.cell? ⟨c, 3, none⟩ = some (.pointer pr) := by rw [← hpr]; exact hc.cell 3
  have go : ∀ W, Only (fun i => i = b ∨ i = c) w W → Blk W b 78 (nd k s z l cl) → Blk W c 78 (nd ck cs ((cl.n + cr.n + 1 : Nat) : Int) (.node b l k s cl) cr) → 
      Calls Try.prog 50 #[.pointer (some ⟨b, 0, none⟩)] W fun e w2 => e = .returned (.tuple #[]) ∧
        Calls Try.prog 50 #[.pointer (some ⟨c, 0, none⟩)] w2 fun e w3 => e = .returned (.tuple #[]) ∧ Evn w (.node b l k s (.node c cl ck cs cr)) (.returned (.pointer (some ⟨c, 0, none⟩))) w3 := by
    intro W ho hb1 hc1
    have hcl1 : Tr W cl := Tr.only ho hcl fun i hi e => by rcases e with e | e; exact hLb i (by simp [hi]) e; exact hLc i (by simp [hi]) e
    have hcr1 : Tr W cr := Tr.only ho hcr fun i hi e => by rcases e with e | e; exact hLb i (by simp [hi]) e; exact hLc i (by simp [hi]) e
    have hl1 : Tr W l := Tr.only ho hl fun i hi e => by rcases e with e | e; exact hLb i (by simp [hi]) e; exact hLc i (by simp [hi]) e
    simp only [T.n] at hn
    refine (count_any hb1 hl1 hcl1 (by omega)).mono fun e w2 ⟨he, ho2, hb2⟩ => ⟨he, ?_⟩
    have hcl2 : Tr w2 cl := Tr.only ho2 hcl1 fun i hi e => hLb i (by simp [hi]) e
    have hcr2 : Tr w2 cr := Tr.only ho2 hcr1 fun i hi e => hLb i (by simp [hi]) e
    have hl2 : Tr w2 l := Tr.only ho2 hl1 fun i hi e => hLb i (by simp [hi]) e
    have hN2 : Tr w2 (.node b l k s cl) := ⟨hb2, hl2, hcl2⟩
    have hc2 := Blk.only hc1 ho2 fun e => hbc e.symm
    refine (count_any hc2 hN2 hcr2 (by simp only [T.n]; omega)).mono fun e w3 ⟨he, ho3, hc3⟩ => ⟨he, ?_⟩
    have ho4 : Only (fun i => i = b ∨ i = c) w w3 := (ho.trans ho2 fun i e => .inl (.inl e)).trans ho3 fun i e => .inl (.inr e)
    refine ⟨.node c (.node b l k s cl) ck cs cr, rfl, ⟨hc3, Tr.only ho3 hN2 fun i hi e => ?_, Tr.only ho3 hcr2 fun i hi e => hLc i (by simp [hi]) e⟩, by simp [T.flat], ?_, ho4.mono fun i e => .inl ?_⟩
    · simp only [T.bs, List.mem_cons, List.mem_append] at hi
      rcases hi with hi | hi | hi
      · exact hbc (by rw [← hi, e])
      · exact hLc i (by simp [hi]) e
      · exact hLc i (by simp [hi]) e
    · simp only [T.bs, List.cons_append, List.append_assoc]
      exact (List.Perm.swap b c _).trans (List.Perm.cons b (List.perm_middle (a := c) (l₁ := l.bs) (l₂ := cl.bs ++ cr.bs)).symm)
    · rcases e with rfl | rfl <;> simp [T.bs]
  have h0 : Only (fun i => i = b ∨ i = c) w ((w.setCell ⟨b, 4, none⟩ (.pointer pr)).setCell ⟨c, 3, none⟩ (.pointer (some ⟨b, 0, none⟩))).drew := (((Only.refl (fun i => i = b ∨ i = c) w).setCell (p := ⟨b, 4, none⟩) (.inl (.inl rfl)) _).setCell (p := ⟨c, 3, none⟩) (.inl (.inr rfl)) _).drew
  have h1 : Blk ((w.setCell ⟨b, 4, none⟩ (.pointer pr)).setCell ⟨c, 3, none⟩ (.pointer (some ⟨b, 0, none⟩))).drew b 78 (nd k s z l cl) := by
    have h2 := (hb.set_ 4 (.pointer pr)).far (p := ⟨c, 3, none⟩) hbc (.pointer (some ⟨b, 0, none⟩))
    rw [← hpr] at h2 ⊢
    exact h2.drewN 1
  have h2 : Blk ((w.setCell ⟨b, 4, none⟩ (.pointer pr)).setCell ⟨c, 3, none⟩ (.pointer (some ⟨b, 0, none⟩))).drew c 78 (nd ck cs ((cl.n + cr.n + 1 : Nat) : Int) (.node b l k s cl) cr) :=
    ((hc.far (p := ⟨b, 4, none⟩) (fun e => hbc e.symm) (.pointer pr)).set_ 3 (.pointer (some ⟨b, 0, none⟩))).drewN 1
  have H1 := Lib.hid (go _ h0 h1 h2)
  clear go hb hc hcl hcr hl hnd hnd2 hLb hLc hn h0 h1 h2 hpr
  go_enter Try.func52, Try.ntmps52
  go_wp2_with (fail)
  go_region
  go_wp2_with (fail)
  refine H1.out.mono ?_
  rintro e w2 ⟨rfl, h4⟩
  have H2 := Lib.hid h4
  clear H1 h4
  go_wp2_with (fail)
  refine H2.out.mono ?_
  rintro e w3 ⟨rfl, h5⟩
  have H3 := Lib.hid h5
  clear H2 h5
  go_wp2_with (fail)
  go_ret
  exact H3.out
end Go.Proofs.Ytaickhhbdbbmjaa.direct
