/-
  The contracts of least and without: a number fewer.
-/
import Derived.Test.YtaickhhbdbbmjaaDirW
namespace Go.Proofs.Ytaickhhbdbbmjaa.direct
open Go.RowKit law bytes only flat
set_option linter.unusedVariables false

theorem T.first_node (b : Nat) (k s : Int) (r : T) : T.first (.node b .nil k s r) = (b, k, s) := rfl
theorem T.first_step (b : Nat) {l : T} (k s : Int) (r : T) (h : l ≠ .nil) : T.first (.node b l k s r) = l.first := by
  cases l with
  | nil => exact absurd rfl h
  | node b2 l2 k2 s2 r2 => rfl
theorem first_in {w : World} : ∀ (t : T), t ≠ .nil → Tr w t → t.first.1 ∈ t.bs ∧ w.cell? ⟨t.first.1, 0, none⟩ = some (.int .u64 t.first.2.1) ∧ w.cell? ⟨t.first.1, 1, none⟩ = some (.int .i64 t.first.2.2)
  | .nil, h, _ => absurd rfl h
  | .node b .nil k s r, _, h => ⟨by simp [T.first_node, T.bs], h.1.cell 0, h.1.cell 1⟩
  | .node b (.node b2 l2 k2 s2 r2) k s r, _, h => by
    obtain ⟨h1, h2⟩ := first_in (.node b2 l2 k2 s2 r2) (by simp) h.2.1
    rw [T.first_step b k s r (by simp)]
    exact ⟨by rw [T.bs]; simp [h1], h2⟩
set_option maxRecDepth 100000 in
set_option maxHeartbeats 3200000 in
theorem least_any {w : World} {t : T} (h : Tr w t) (h0 : t ≠ .nil) : Calls Try.prog 47 #[pt t] w fun e w' => e = .returned (.pointer (some ⟨t.first.1, 0, none⟩)) ∧ w = w' := by
  obtain ⟨q, hq⟩ : ∃ v, v = pa t := ⟨_, rfl⟩
  show Calls Try.prog 47 #[.pointer (pa t)] w fun e w' => e = .returned (.pointer (some ⟨t.first.1, 0, none⟩)) ∧ w = w'
  rw [← hq]
  have HQ := Lib.hid hq
  have HT := Lib.hid h
  have H0 := Lib.hid h0
  clear hq h h0
  go_enter Try.func47, Try.ntmps47
  go_wp2_with (fail)
  go_loopg [0] t.n (fun gk s0 wr => wr = w ∧ ∃ c : T, s0 = .pointer (pa c) ∧ Tr w c ∧ c ≠ .nil ∧ c.first = t.first ∧ c.n = gk)
  case atStart => exact ⟨rfl, t, by rw [HQ.out], HT.out, H0.out, rfl, rfl⟩
  case round =>
    clear HQ HT H0
    obtain ⟨rfl, c, rfl, hc, hc0, hcf, rfl⟩ := hrel
    obtain ⟨b, l, k, s, r, rfl⟩ : ∃ b l k s r, c = .node b l k s r := by
      cases c with
      | nil => exact absurd rfl hc0
      | node b l k s r => exact ⟨b, l, k, s, r, rfl⟩
    have c3 : wr.cell? ⟨b, 3, none⟩ = some (.pointer (pa l)) := hc.1.cell 3
    have hpa : pa (T.node b l k s r) = some ⟨b, 0, none⟩ := rfl
    rw [hpa]
    clear hpa
    by_cases hl : l = .nil
    · subst hl
      have c3' : wr.cell? ⟨b, 3, none⟩ = some (.pointer none) := c3
      have HF : Hid (t.first.1 = b) := Lib.hid (by rw [← hcf]; rfl)
      clear c3 hc hc0 hcf
      go_wp2_with (fail)
      go_ret
      exact ⟨by rw [HF.out]; rfl, rfl⟩
    · obtain ⟨b2, l2, k2, s2, r2, rfl⟩ : ∃ b l2 k s r, l = .node b l2 k s r := by
        cases l with
        | nil => exact absurd rfl hl
        | node b l k s r => exact ⟨b, l, k, s, r, rfl⟩
      have c3' : wr.cell? ⟨b, 3, none⟩ = some (.pointer (some ⟨b2, 0, none⟩)) := c3
      have HR : Hid (wr = wr ∧ ∃ c : T, (Value.pointer (some ⟨b2, 0, none⟩)) = .pointer (pa c) ∧ Tr wr c ∧ c ≠ .nil ∧ c.first = t.first ∧ c.n = (T.node b2 l2 k2 s2 r2).n) := Lib.hid ⟨rfl, .node b2 l2 k2 s2 r2, rfl, hc.2.1, hl, by rw [← hcf]; rfl, rfl⟩
      have hm : (T.node b2 l2 k2 s2 r2).n < (T.node b (.node b2 l2 k2 s2 r2) k s r).n := by simp only [T.n]; omega
      have HM := Lib.hid hm
      clear c3 hc hc0 hcf hl hm
      go_wp2_with (fail)
      go_roundg (T.node b2 l2 k2 s2 r2).n
      case measure => exact HM.out
      case rel => exact ⟨rfl, HR.out.2⟩

/-- a tree with a node fewer -/
def Wout (w : World) (t : T) (F : List (Int × Int)) (e : Ending) (w' : World) : Prop := ∃ t' g, e = .returned (pt t') ∧ Tr w' t' ∧ t'.flat = F ∧ t.bs.Perm (g :: t'.bs) ∧ Only (· ∈ t.bs) w w'

theorem wout_low {w W W5 : World} {b : Nat} {l r : T} {k s : Int} {F : List (Int × Int)} {e : Ending} (h : Tr w (.node b l k s r)) (hnd : (T.node b l k s r).bs.Nodup) (hn : (T.node b l k s r).n ≤ 1152921504606846976) (hW : Below w.heap.size w W) (hF : F.length ≤ l.n) (hl : Wout W l F e W5) :
    ∃ q, e = .returned (.pointer q) ∧ W5.cell? ⟨b, 3, none⟩ = some (pt l) ∧ W5.frozen? ⟨b, 3, none⟩ = false ∧
      Calls Try.prog 46 #[.pointer (some ⟨b, 0, none⟩)] (W5.setCell ⟨b, 3, none⟩ (.pointer q)) (Wout w (.node b l k s r) (F ++ (k, s) :: r.flat)) := by
  obtain ⟨l', g, rfl, ht, hf, hp, ho⟩ := hl
  obtain ⟨hlb, hrb, -, hrn, hlr⟩ := node_nodup hnd
  obtain ⟨h1, h2, h3⟩ := Tr.below hW (Nat.le_refl _) h
  have g1 := Blk.only h1 ho fun e => hlb b e rfl
  have g3 : Tr W5 r := Tr.only ho h3 fun i hi e => hlr i e hi
  have o1 : Only (· = b) W5 (W5.setCell ⟨b, 3, none⟩ (pt l')) := (Only.refl (· = b) W5).setCell (p := ⟨b, 3, none⟩) (.inl rfl) _
  have hp2 : (T.node b l k s r).bs.Perm (g :: (T.node b l' k s r).bs) := (List.Perm.cons b (hp.append_right r.bs)).trans (List.Perm.swap g b _)
  have hlb' : ∀ i ∈ l'.bs, i ≠ b := fun i hi e => hlb i (hp.mem_iff.2 (List.mem_cons_of_mem _ hi)) e
  have hN : Nd (W5.setCell ⟨b, 3, none⟩ (pt l')) b l' k s r := ⟨⟨_, g1.set_ 3 (pt l')⟩, Tr.only o1 ht fun i hi e => hlb' i hi e, Tr.only o1 g3 fun i hi e => hrb i hi e, (List.nodup_cons.1 ((hp2.nodup_iff).1 hnd)).2⟩
  have hn' : l'.n ≤ l.n := by rw [← T.flat_length l', hf]; exact hF
  have ho2 : Only (· ∈ (T.node b l k s r).bs) w (W5.setCell ⟨b, 3, none⟩ (pt l')) := ((Only.of_below hW (Nat.le_refl _) (· ∈ (T.node b l k s r).bs)).trans ho fun i hi => .inl (by simp [T.bs, show i ∈ l.bs from hi])).trans o1 fun i e => .inl (by rw [show i = b from e]; simp [T.bs])
  exact ⟨_, rfl, g1.cell 3, g1.frozen 3, (even_any hN (by simp only [T.n] at hn ⊢; omega)).mono fun e w2 ⟨t', he, ht', hf', hp', ho'⟩ => ⟨t', g, he, ht', by rw [hf', T.flat, hf], hp2.trans (hp'.symm.cons g), ho2.trans ho' fun i hi => .inl (hp2.mem_iff.2 (List.mem_cons_of_mem _ hi))⟩⟩

theorem wout_high {w W W5 : World} {b : Nat} {l r : T} {k s : Int} {F : List (Int × Int)} {e : Ending} (h : Tr w (.node b l k s r)) (hnd : (T.node b l k s r).bs.Nodup) (hn : (T.node b l k s r).n ≤ 1152921504606846976) (hW : Below w.heap.size w W) (hF : F.length ≤ r.n) (hl : Wout W r F e W5) :
    ∃ q, e = .returned (.pointer q) ∧ W5.cell? ⟨b, 4, none⟩ = some (pt r) ∧ W5.frozen? ⟨b, 4, none⟩ = false ∧
      Calls Try.prog 46 #[.pointer (some ⟨b, 0, none⟩)] (W5.setCell ⟨b, 4, none⟩ (.pointer q)) (Wout w (.node b l k s r) (l.flat ++ (k, s) :: F)) := by
  obtain ⟨r', g, rfl, ht, hf, hp, ho⟩ := hl
  obtain ⟨hlb, hrb, -, hrn, hlr⟩ := node_nodup hnd
  obtain ⟨h1, h2, h3⟩ := Tr.below hW (Nat.le_refl _) h
  have g1 := Blk.only h1 ho fun e => hrb b e rfl
  have g3 : Tr W5 l := Tr.only ho h2 fun i hi e => hlr i hi e
  have o1 : Only (· = b) W5 (W5.setCell ⟨b, 4, none⟩ (pt r')) := (Only.refl (· = b) W5).setCell (p := ⟨b, 4, none⟩) (.inl rfl) _
  have hp2 : (T.node b l k s r).bs.Perm (g :: (T.node b l k s r').bs) := (List.Perm.cons b ((hp.append_left l.bs).trans List.perm_middle)).trans (List.Perm.swap g b _)
  have hrb' : ∀ i ∈ r'.bs, i ≠ b := fun i hi e => hrb i (hp.mem_iff.2 (List.mem_cons_of_mem _ hi)) e
  have hN : Nd (W5.setCell ⟨b, 4, none⟩ (pt r')) b l k s r' := ⟨⟨_, g1.set_ 4 (pt r')⟩, Tr.only o1 g3 fun i hi e => hlb i hi e, Tr.only o1 ht fun i hi e => hrb' i hi e, (List.nodup_cons.1 ((hp2.nodup_iff).1 hnd)).2⟩
  have hn' : r'.n ≤ r.n := by rw [← T.flat_length r', hf]; exact hF
  have ho2 : Only (· ∈ (T.node b l k s r).bs) w (W5.setCell ⟨b, 4, none⟩ (pt r')) := ((Only.of_below hW (Nat.le_refl _) (· ∈ (T.node b l k s r).bs)).trans ho fun i hi => .inl (by simp [T.bs, show i ∈ r.bs from hi])).trans o1 fun i e => .inl (by rw [show i = b from e]; simp [T.bs])
  exact ⟨_, rfl, g1.cell 4, g1.frozen 4, (even_any hN (by simp only [T.n] at hn ⊢; omega)).mono fun e w2 ⟨t', he, ht', hf', hp', ho'⟩ => ⟨t', g, he, ht', by rw [hf', T.flat, hf], hp2.trans (hp'.symm.cons g), ho2.trans ho' fun i hi => .inl (hp2.mem_iff.2 (List.mem_cons_of_mem _ hi))⟩⟩

set_option maxRecDepth 100000 in
set_option maxHeartbeats 12800000 in
theorem without_any : ∀ (t : T) (id : Int) {w : World}, Tr w t → t.bs.Nodup → Rise t.flat → t.n ≤ 1152921504606846976 → (fd t.flat id).isSome = true →
    Calls Try.prog 36 #[pt t, .int .u64 id] w (Wout w t (del t.flat id)) := by
  intro t
  induction t with
  | nil =>
    intro id w _ _ _ _ h
    cases h
  | node b l k z r ihl ihr =>
    intro id w h hnd hR hn hid
    have c0 : w.cell? ⟨b, 0, none⟩ = some (.int .u64 k) := h.1.cell 0
    obtain ⟨hRl, hRr, -, -⟩ := Rise.parts hR
    have hnn : (T.node b l k z r).n = l.n + r.n + 1 := rfl
    show Calls Try.prog 36 #[.pointer (some ⟨b, 0, none⟩), .int .u64 id] w (Wout w (.node b l k z r) (del (T.node b l k z r).flat id))
    obtain ⟨-, -, hln, hrn, -⟩ := node_nodup hnd
    by_cases hik : id = k
    · obtain rfl := hik
      have hF : del (T.node b l id z r).flat id = l.flat ++ r.flat := del_here hR
      rw [hF]
      have HT := Lib.hid h
      have HD := Lib.hid hnd
      have HN := Lib.hid hn
      have HRr := Lib.hid hRr
      have HRn := Lib.hid hrn
      have IH := Lib.hid ihr
      have hd : (id != id) = false := by simp
      have hd2 : decide (id = id) = true := by simp
      have w0 : IntKind.i64.wrap 0 = 0 := by decide
      have w1 : IntKind.i64.wrap 1 = 1 := by decide
      clear ihl ihr h hnd hR hn hid hRl hRr hln hrn hF hnn
      go_enter Try.func36, Try.ntmps36
      go_wp2_with (fail)
      go_loopg [6, 32] 2 (fun gk s6 s32 wr => wr = w ∧ ((gk = 2 ∧ s32 = .int .i64 0) ∨ (gk = 1 ∧ s32 = .int .i64 1 ∧ l ≠ .nil) ∨ (gk = 0 ∧ s32 = .int .i64 2 ∧ l ≠ .nil ∧ r ≠ .nil)))
      case atStart => exact ⟨rfl, .inl ⟨rfl, rfl⟩⟩
      case round =>
        obtain ⟨rfl, hj⟩ := hrel
        rcases hj with ⟨rfl, rfl⟩ | ⟨rfl, rfl, hl0⟩ | ⟨rfl, rfl, hl0, hr0⟩
        · cases l with
          | nil =>
            have c3 : wr.cell? ⟨b, 3, none⟩ = some (.pointer none) := HT.out.1.cell 3
            have c4 : wr.cell? ⟨b, 4, none⟩ = some (.pointer (pa r)) := HT.out.1.cell 4
            have HE : Hid (Wout wr (.node b .nil id z r) (T.nil.flat ++ r.flat) (.returned (.pointer (pa r))) wr) := Lib.hid ⟨r, b, rfl, HT.out.2.2, rfl, List.Perm.refl _, Only.refl _ _⟩
            generalize pa r = q at c4 HE
            clear IH HT HD HN HRr HRn
            go_wp2_with (fail)
            go_ret
            exact HE.out
          | node c cl ck cs cr =>
            have c3 : wr.cell? ⟨b, 3, none⟩ = some (.pointer (some ⟨c, 0, none⟩)) := HT.out.1.cell 3
            clear IH HT HD HN HRr HRn
            go_wp2_with (fail)
            go_roundg 1
            case measure => omega
            case rel => exact ⟨rfl, .inr (.inl ⟨rfl, rfl, by simp⟩)⟩
        · cases r with
          | nil =>
            have c3 : wr.cell? ⟨b, 3, none⟩ = some (.pointer (pa l)) := HT.out.1.cell 3
            have c4 : wr.cell? ⟨b, 4, none⟩ = some (.pointer none) := HT.out.1.cell 4
            have HE : Hid (Wout wr (.node b l id z .nil) (l.flat ++ T.nil.flat) (.returned (.pointer (pa l))) wr) := Lib.hid ⟨l, b, rfl, HT.out.2.1, by simp [T.flat], by simp [T.bs], Only.refl _ _⟩
            generalize pa l = q at c3 HE
            clear IH HT HD HN HRr HRn
            go_wp2_with (fail)
            go_ret
            exact HE.out
          | node c cl ck cs cr =>
            have c4 : wr.cell? ⟨b, 4, none⟩ = some (.pointer (some ⟨c, 0, none⟩)) := HT.out.1.cell 4
            clear IH HT HD HN HRr HRn
            go_wp2_with (fail)
            go_roundg 0
            case measure => omega
            case rel => exact ⟨rfl, .inr (.inr ⟨rfl, rfl, hl0, by simp⟩)⟩
        · obtain ⟨q4, hq4⟩ : ∃ v, v = pa r := ⟨_, rfl⟩
          have c4 : wr.cell? ⟨b, 4, none⟩ = some (.pointer q4) := by rw [hq4]; exact HT.out.1.cell 4
          obtain ⟨hfi, f0, f1⟩ := first_in r hr0 HT.out.2.2
          have hbf : b ≠ r.first.1 := fun e => (node_nodup HD.out).2.1 r.first.1 hfi e.symm
          obtain ⟨R, hRe⟩ := T.first_flat r hr0
          obtain ⟨⟨nb, nk, ns⟩, hfst⟩ : ∃ x, r.first = x := ⟨_, rfl⟩
          have HL : Hid (Calls Try.prog 47 #[.pointer q4] wr fun e w' => e = .returned (.pointer (some ⟨nb, 0, none⟩)) ∧ wr = w') := Lib.hid (by
            have := least_any HT.out.2.2 hr0
            rw [hfst] at this
            rw [hq4]
            exact this)
          rw [hfst] at f0 f1 hbf hRe
          dsimp only at f0 f1 hbf hRe
          obtain ⟨b0, b1, -, -, -⟩ := blk_node HT.out.1
          have fz0 := HT.out.1.frozen 0
          have fz1 := HT.out.1.frozen 1
          have HM : Hid (∀ W, W = (wr.setCell ⟨b, 0, none⟩ (.int .u64 nk)).setCell ⟨b, 1, none⟩ (.int .i64 ns) ∨ W = ((wr.setCell ⟨b, 0, none⟩ (.int .u64 nk)).setCell ⟨b, 1, none⟩ (.int .i64 ns)).drew → W.cell? ⟨b, 4, none⟩ = some (.pointer q4) ∧ W.cell? ⟨nb, 0, none⟩ = some (.int .u64 nk) ∧
              ∀ W2, Below W.heap.size W W2 → Calls Try.prog 36 #[.pointer q4, .int .u64 nk] W2 fun e W5 => ∃ q5, e = .returned (.pointer q5) ∧ W5.cell? ⟨b, 4, none⟩ = some (.pointer q4) ∧ W5.frozen? ⟨b, 4, none⟩ = false ∧
                Calls Try.prog 46 #[.pointer (some ⟨b, 0, none⟩)] (W5.setCell ⟨b, 4, none⟩ (.pointer q5)) (Wout wr (.node b l id z r) (l.flat ++ r.flat))) := Lib.hid fun W hW => by
            have hO : Only (· = b) wr W := by
              have h0 : Only (· = b) wr ((wr.setCell ⟨b, 0, none⟩ (.int .u64 nk)).setCell ⟨b, 1, none⟩ (.int .i64 ns)) := ((Only.refl (· = b) wr).setCell (p := ⟨b, 0, none⟩) (.inl rfl) _).setCell (p := ⟨b, 1, none⟩) (.inl rfl) _
              rcases hW with rfl | rfl
              · exact h0
              · exact h0.drew
            have hB : Blk W b 78 (nd nk ns ((l.n + r.n + 1 : Nat) : Int) l r) := by
              have h0 := (HT.out.1.set_ 0 (.int .u64 nk)).set_ 1 (.int .i64 ns)
              rcases hW with rfl | rfl
              · exact h0
              · exact h0.drewN 1
            obtain ⟨hlb, hrb, -, -, -⟩ := node_nodup HD.out
            have hl1 : Tr W l := Tr.only hO HT.out.2.1 fun i hi e => hlb i hi e
            have hr1 : Tr W r := Tr.only hO HT.out.2.2 fun i hi e => hrb i hi e
            have hT1 : Tr W (.node b l nk ns r) := ⟨hB, hl1, hr1⟩
            refine ⟨by rw [hq4]; exact hB.cell 4, ?_, fun W2 hW2 => ?_⟩
            · have := (first_in r hr0 hr1).2.1
              rw [hfst] at this
              exact this
            · have hw2 := Tr.below hW2 (Nat.le_refl _) hT1
              have hsome : (fd r.flat nk).isSome = true := by rw [hRe, fd_cons, if_pos rfl]; rfl
              have hdel : del r.flat nk = R := by
                have hR2 : Rise ([] ++ (nk, ns) :: R) := by rw [List.nil_append, ← hRe]; exact HRr.out
                have := del_here hR2
                rw [List.nil_append, ← hRe] at this
                exact this
              rw [hq4]
              refine (IH.out nk hw2.2.2 HRn.out HRr.out (by have := HN.out; simp only [T.n] at this; omega) hsome).mono fun e W5 h5 => ?_
              obtain ⟨q5, he, x4, xf, xE⟩ := wout_high hT1 HD.out HN.out hW2 (by rw [← T.flat_length]; exact del_length_le _ _) h5
              refine ⟨q5, he, x4, xf, xE.mono fun e w3 ⟨t', g, he, ht, hf, hp, ho⟩ => ⟨t', g, he, ht, ?_, hp, ?_⟩⟩
              · rw [hf, hdel, hRe]
              · exact (hO.mono (T := (· ∈ (T.node b l id z r).bs)) fun i e => .inl (by rw [show i = b from e]; simp [T.bs])).trans ho fun i hi => .inl hi
          clear IH HT HD HN HRr HRn hq4 hfi hfst hRe hl0 hr0
          go_wp2_with (fail)
          refine HL.out.mono ?_
          rintro e w2 ⟨rfl, rfl⟩
          clear HL
          go_wp2_with (fail)
          go_region
          obtain ⟨x4, x0, hcall⟩ := HM.out _ (.inr rfl)
          have HW := Lib.hid hcall
          clear hcall HM b0 b1 fz0 fz1 f0 f1 hbf c4
          generalize ((wr.setCell ⟨b, 0, none⟩ (.int .u64 nk)).setCell ⟨b, 1, none⟩ (.int .i64 ns)).drew = w3 at x4 x0 HW ⊢
          go_wp2_with (fail)
          go_region_law (first | (go_simp; go_at_call 36; (with_reducible refine (HW.out _ (by repeat' (first | (with_reducible exact Below.refl _ _) | (with_reducible assumption) | (with_reducible refine Below.drew ?_) | (with_reducible refine below_drewN' ?_ _)))).mono ?_); rintro e w5 ⟨q5, rfl, x3, xf, xE⟩; have XE := Lib.hid xE; clear xE))
          all_goals
            go_wp2_with (fail)
            refine XE.out.mono ?_
            rintro e w6 hE
            have HE := Lib.hid hE
            obtain ⟨t', g, rfl, -⟩ := hE
            unfold pt at HE ⊢
            go_wp2_with (fail)
            go_ret
            exact HE.out
    · have hS := side_any c0 id
      by_cases hlt : id < k
      · rw [if_pos hlt] at hS
        have hx : (fd l.flat id).isSome = true := by rw [← fd_low hR hlt]; exact hid
        have hF : del (T.node b l k z r).flat id = del l.flat id ++ (k, z) :: r.flat := del_low hR hlt
        rw [hF]
        obtain ⟨q, hq⟩ : ∃ v, v = pa l := ⟨_, rfl⟩
        have c3 : w.cell? ⟨b, 3, none⟩ = some (.pointer q) := by rw [hq]; exact h.1.cell 3
        have HW : Hid (∀ W, Below w.heap.size w W → Calls Try.prog 36 #[.pointer q, .int .u64 id] W fun e W5 => ∃ q5, e = .returned (.pointer q5) ∧ W5.cell? ⟨b, 3, none⟩ = some (.pointer q) ∧ W5.frozen? ⟨b, 3, none⟩ = false ∧
            Calls Try.prog 46 #[.pointer (some ⟨b, 0, none⟩)] (W5.setCell ⟨b, 3, none⟩ (.pointer q5)) (Wout w (.node b l k z r) (del l.flat id ++ (k, z) :: r.flat))) := Lib.hid fun W hW => by
          have hw := Tr.below hW (Nat.le_refl _) h
          rw [hq]
          exact (ihl id hw.2.1 hln hRl (by omega) hx).mono fun e W5 h5 => wout_low h hnd hn hW (by rw [← T.flat_length]; exact del_length_le _ _) h5
        have HS := Lib.hid hS
        have hd : (id != k) = true := by simp [hik]
        clear ihl ihr h hnd hR hn hid hRl hRr hln hrn hS hlt hx hF hq hnn hik
        go_enter Try.func36, Try.ntmps36
        go_wp2_with (go_at_call 45; (with_reducible refine HS.out.mono ?_); rintro e w' ⟨rfl, rfl⟩)
        go_region_law (first | (go_simp; go_at_call 36; (with_reducible refine (HW.out _ (by repeat' (first | (with_reducible exact Below.refl _ _) | (with_reducible assumption) | (with_reducible refine Below.drew ?_) | (with_reducible refine below_drewN' ?_ _)))).mono ?_); rintro e w5 ⟨q5, rfl, x3, xf, xE⟩; have XE := Lib.hid xE; clear xE))
        go_wp2_with (fail)
        refine XE.out.mono ?_
        rintro e w6 hE
        have HE := Lib.hid hE
        obtain ⟨t', g, rfl, -⟩ := hE
        unfold pt at HE ⊢
        go_wp2_with (fail)
        go_ret
        exact HE.out
      · rw [if_neg hlt] at hS
        have hgt : k < id := by omega
        have hx : (fd r.flat id).isSome = true := by rw [← fd_high hR hgt]; exact hid
        have hF : del (T.node b l k z r).flat id = l.flat ++ (k, z) :: del r.flat id := del_high hR hgt
        rw [hF]
        obtain ⟨q, hq⟩ : ∃ v, v = pa r := ⟨_, rfl⟩
        have c3 : w.cell? ⟨b, 4, none⟩ = some (.pointer q) := by rw [hq]; exact h.1.cell 4
        have HW : Hid (∀ W, Below w.heap.size w W → Calls Try.prog 36 #[.pointer q, .int .u64 id] W fun e W5 => ∃ q5, e = .returned (.pointer q5) ∧ W5.cell? ⟨b, 4, none⟩ = some (.pointer q) ∧ W5.frozen? ⟨b, 4, none⟩ = false ∧
            Calls Try.prog 46 #[.pointer (some ⟨b, 0, none⟩)] (W5.setCell ⟨b, 4, none⟩ (.pointer q5)) (Wout w (.node b l k z r) (l.flat ++ (k, z) :: del r.flat id))) := Lib.hid fun W hW => by
          have hw := Tr.below hW (Nat.le_refl _) h
          rw [hq]
          exact (ihr id hw.2.2 hrn hRr (by omega) hx).mono fun e W5 h5 => wout_high h hnd hn hW (by rw [← T.flat_length]; exact del_length_le _ _) h5
        have HS := Lib.hid hS
        have hd : (id != k) = true := by simp [hik]
        clear ihl ihr h hnd hR hn hid hRl hRr hln hrn hS hlt hx hF hq hnn hik hgt
        go_enter Try.func36, Try.ntmps36
        go_wp2_with (go_at_call 45; (with_reducible refine HS.out.mono ?_); rintro e w' ⟨rfl, rfl⟩)
        go_region_law (first | (go_simp; go_at_call 36; (with_reducible refine (HW.out _ (by repeat' (first | (with_reducible exact Below.refl _ _) | (with_reducible assumption) | (with_reducible refine Below.drew ?_) | (with_reducible refine below_drewN' ?_ _)))).mono ?_); rintro e w5 ⟨q5, rfl, x3, xf, xE⟩; have XE := Lib.hid xE; clear xE))
        go_wp2_with (fail)
        refine XE.out.mono ?_
        rintro e w6 hE
        have HE := Lib.hid hE
        obtain ⟨t', g, rfl, -⟩ := hE
        unfold pt at HE ⊢
        go_wp2_with (fail)
        go_ret
        exact HE.out
end Go.Proofs.Ytaickhhbdbbmjaa.direct
