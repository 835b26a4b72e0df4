/-
  The contract of Bulk, walked.
-/
import Derived.Test.YtgbjpobgjmkjgaaGreatTbB
namespace Go.Proofs.YtgbjpobgjmkjgaaGreat.tab
open Go.RowKit Go.WideShapes law bytes only flat nums ord obj metric pv lae Go.Maps
open aro (Kept)
open store (iE iE_len itemAt)
open told (own_types blk_types)
set_option linter.unusedVariables false

section
variable {w w' : World} {base tb g mb B i : Nat} {n k most : Int} {T S X DS : Nat → Prop} {vP vR : Value} {P : List At} {R D : List Ro} {r : Ro} {A : Option Addr} {xs : List Value}
theorem has_enters : Enters Tryz.prog 57 := enters_of Tryz.func57 (by kernel_rfl) rfl
theorem has_V (h : Tx w base tb g mb n k most T vP vR P R) : idx.HasV (.func (.func 57) #[.pointer (some ⟨tb, 0, none⟩)] #[]) w.heap.size (fun W => Tx W base tb g mb n k most T vP vR P R ∧ w.heap.size ≤ W.heap.size) (fun id => (ids R).contains id) where
  keep W W' hW hb := by
    refine ⟨hW.1.only (S := fun i => w.heap.size ≤ i) ⟨hb.os, hb.tape, hb.output, hb.size, fun i hi hs => hb.block i (by omega)⟩ fun i e => ?_, Nat.le_trans hW.2 hb.size⟩
    rcases e with e | e
    · have := h.mt.lt; omega
    · have := (h.low i e).2; omega
  tells := ⟨_, _, rfl, has_enters, fun W id hw hW hB => has_any hW.1 id hw⟩
set_option maxRecDepth 100000 in
set_option maxHeartbeats 3200000 in
theorem bulk_any {A : Option Addr} {c : Nat} {l : List (Int × Kept)} {a : Option Addr} {Dk : World → Prop} {p : Int} (h : Tx w base tb g mb n k most T vP vR P R) (hl : Its w (fun i => i = g ∨ T i ∨ DS i) A l) (hbf : ∀ q ∈ l, Bf q.2.x) (hw : idx.Wf l)
    (hd : Dr (.pointer a) DS Dk l.length p) (hdk : Dk w) (hDS : ∀ i, DS i → ¬ (i = g ∨ T i) ∧ i < w.heap.size) (hP : P.length + 2 * l.length ≤ 1048576) (hR : R.length + l.length ≤ 1048576) (hk : 0 ≤ k ∧ k ≤ 1152921504606846976) :
    Calls Tryz.prog 18 #[.pointer (some ⟨tb, 0, none⟩), .slice A l.length c, .pointer a] w (Bulked w base tb g mb n k most T DS P R l p) := by
  have HF : Hid (Calls Tryz.prog 56 #[.slice A l.length c, .func (.func 57) #[.pointer (some ⟨tb, 0, none⟩)] #[]] w fun e w' => e = .returned (.tuple #[.int .i64 (idx.fr (fun id => (ids R).contains id) (idx.ids l)), .int .i64 (idx.fe (fun id => (ids R).contains id) (idx.ids l))]) ∧ Below w.heap.size w w') :=
    Lib.hid (idx.freshv_any (has_V h) A c w.heap.size l w ⟨h, Nat.le_refl _⟩ (Nat.le_refl _) (Nat.le_refl _) hl.row.sl hw (by omega))
  have hmf : ∀ (fn : Fn) (first cap : Array Value) (w : World), (Instr.makeFunc fn first cap).run Tryz.prog w = .ok (.func fn first cap) w := fun _ _ _ _ => rfl
  have HH := Lib.hid (And.intro h (And.intro hl (And.intro hbf (And.intro hw (And.intro hd (And.intro hdk hDS))))))
  have HK := Lib.hid (And.intro hP (And.intro hR hk))
  obtain ⟨AP, cP, rfl, hcP⟩ := own_slice h.piv
  have hl63 : (l.length : Int) < 9223372036854775807 := by omega
  have HT : Hid (∀ W, Below w.heap.size w W → W.cell? ⟨tb, 2, none⟩ = some (.slice AP P.length cP)) := Lib.hid fun W hW => (h.below hW).cells.2.2.1
  have hfe : idx.fe (fun id => (ids R).contains id) (idx.ids l) = 0 ∨ idx.fe (fun id => (ids R).contains id) (idx.ids l) = 4 := by
    unfold idx.fe
    split <;> simp
  -- what Bulk leaves if all goes well
  have HEND : Hid (∀ P0 : List Thing, idx.fe (fun id => (ids R).contains id) (idx.ids l) = 0 → P0 = (if P.length = 0 then att l (chs (dt n (ths l)) U63 (ths l) most p) else P.map At.x) → ∀ (k0 : Int) w0 wr T0 R0, k ≤ k0 → k0 ≤ k + (l.length * 2097152 : Nat) → R0.map ix = R.map ix → Only (fun i => i = g ∨ T i ∨ DS i) w w0 → (∀ j, T0 j → T j ∨ w.heap.size ≤ j) → BuS w0 base tb g mb n k0 most T0 DS P0 R0 l l.length wr →
      Bulked w base tb g mb n k most T DS P R l p (.returned (.int .i64 0)) wr) := Lib.hid fun P0 hf hP0 k0 w0 wr T0 R0 hk1 hk2 hR0 hO hT0 hB => by
    obtain ⟨k', vP', vR', T', P', R', h1, h2, h3, h4, h5, h6, h7⟩ := hB
    rw [List.take_length] at h2 h3
    refine ⟨by rw [hf], k', vP', vR', T', P', R', h1, by omega, by omega, fun _ => ⟨by rw [h2, hP0], by rw [h3, hR0]⟩, fun e => absurd hf e, hO.trans h6 fun i e => ?_, fun j e => ?_⟩
    · rcases e with e | e | e
      · exact .inl (.inl e)
      · exact (hT0 i e).imp (fun e => .inr (.inl e)) fun e => e
      · exact .inl (.inr (.inr e))
    · rcases h7 j e with e | e
      · exact hT0 j e
      · exact .inr (by have := hO.size; omega)
  -- the loop's beginning
  have HB0 : Hid (∀ w1, Below w.heap.size w w1 → P.length ≠ 0 → BuS w1 base tb g mb n k most T DS (P.map At.x) R l 0 w1 ∧ Its w1 (fun i => i = g ∨ T i ∨ DS i) A l) := Lib.hid fun w1 hb hne =>
    ⟨⟨k, _, vR, T, P, R, h.below hb, by simp [ptl], by simp, Int.le_refl _, by omega, Only.refl _ _, fun j e => .inl e⟩, hl.below hb⟩
  have HCH : Hid (∀ w1, Below w.heap.size w w1 → P.length = 0 → Calls Tryz.prog 58 #[.pointer (some ⟨tb, 0, none⟩), .slice A l.length c, .pointer a] w1 fun e w2 => e = .returned (.tuple #[]) ∧
      Hid (∃ (k0 : Int) (T0 : Nat → Prop) (P0 : List Thing) (R0 : List Ro), P0 = att l (chs (dt n (ths l)) U63 (ths l) most p) ∧ k ≤ k0 ∧ k0 ≤ k + (l.length * 2097152 : Nat) ∧ R0.map ix = R.map ix ∧ Only (fun i => i = g ∨ T i ∨ DS i) w w2 ∧ (∀ j, T0 j → T j ∨ w.heap.size ≤ j) ∧ BuS w2 base tb g mb n k0 most T0 DS P0 R0 l 0 w2 ∧ Its w2 (fun i => i = g ∨ T0 i ∨ DS i) A l ∧ P0.length ≤ l.length)) := Lib.hid fun w1 hb hne => by
    have hP0 : P = [] := List.eq_nil_of_length_eq_zero hne
    have hIt : Its w1 (fun i => i = g ∨ T i ∨ DS i) A l := hl.below hb
    have hs1 := hb.size
    refine (choose_tb (h.below hb) hIt hbf hd (hd.keep (fun _ => False) w w1 hdk (Only.of_below hb (Nat.le_refl _) _) fun _ _ e => e) (fun i e => ⟨(hDS i e).1, by have := (hDS i e).2; omega⟩) (by omega) (by omega) ⟨hk.1, by omega⟩).mono fun e w2 ⟨he, vP', T', P', R', h1, h2, h3, h4, h5⟩ => ⟨he, Lib.hid ?_⟩
    have hon : Once (dt n (ths l)) (ths l) (chs (dt n (ths l)) U63 (ths l) most p) := chs_once (fun k hk => dt_self n _ k hk) _ _
    have hcl := hon.len
    rw [ths_length] at hcl
    have hatl : (att l (chs (dt n (ths l)) U63 (ths l) most p)).length ≤ l.length := by simpa [att] using hcl
    have hm1 : (chs (dt n (ths l)) U63 (ths l) most p).length * l.length ≤ l.length * 1048576 := by rw [Nat.mul_comm]; exact Nat.mul_le_mul (Nat.le_refl _) (by omega)
    have hm2 : (chs (dt n (ths l)) U63 (ths l) most p).length * R.length ≤ l.length * 1048576 := Nat.mul_le_mul hcl (by omega)
    refine ⟨_, T', att l (chs (dt n (ths l)) U63 (ths l) most p), R', rfl, ?_, ?_, keys_ix h3, (Only.of_below hb (Nat.le_refl _) _).trans h4 fun i e => .inl e, fun j e => (h5 j e).imp (fun e => e) fun e => by omega, ⟨_, vP', vR, T', P', R', h1, ?_, by simp, Int.le_refl _, by omega, Only.refl _ _, fun j e => .inl e⟩, ?_, hatl⟩
    · omega
    · omega
    · rw [h2, hP0]
      simp [ptl]
    · refine hIt.step h4 fun i hi hn e => hn ?_
      rcases e with e | e | e
      · exact .inl e
      · rcases h5 i e with e | e
        · exact .inr (.inl e)
        · omega
      · exact .inr (.inr e)
  clear h hl hbf hw hd hdk hDS hP hR hk hcP
  rcases hfe with hf | hf
  · -- nothing of it is there
    have hdup := fe_zero hf
    have HDUP : Hid (∀ R0 : List Ro, R0.map ix = R.map ix → R0.length = R.length ∧ ∀ j, j < (idx.ids l).length → idx.dup (fun id => (ids R0).contains id) (idx.ids l) j = false) := Lib.hid fun R0 hR0 => by
      refine ⟨by simpa using congrArg List.length hR0, ?_⟩
      rw [ids_ix, hR0, ← ids_ix]
      exact hdup
    rw [hf] at HF
    have HFE := Lib.hid hf
    clear hf hdup
    go_enter Tryz.func18, Tryz.ntmps18
    go_wp2_with (fail)
    refine HF.out.mono ?_
    rintro e w1 ⟨rfl, hb⟩
    have c2 := HT.out w1 hb
    by_cases h0 : P.length = 0
    · have e0 : ((P.length : Int) == 0) = true := by simp [h0]
      have e1 : (P.length == 0) = true := by simp [h0]
      have HC1 := Lib.hid (HCH.out w1 hb h0)
      have H0 := Lib.hid h0
      clear HB0 HCH HF HT hb h0
      go_wp2_with (fail)
      refine HC1.out.mono ?_
      rintro e w0 ⟨rfl, hx⟩
      obtain ⟨k0, T0, P0, R0, hP0, hk1, hk2, hR0, hO, hT0, hbu, hit, hPl⟩ := hx.out
      have hC : (BuS w0 base tb g mb n k0 most T0 DS P0 R0 l 0 w0 ∧ Its w0 (fun i => i = g ∨ T0 i ∨ DS i) A l ∧ (∀ q ∈ l, Bf q.2.x) ∧ idx.Wf l ∧ (∀ j, j < (idx.ids l).length → idx.dup (fun id => (ids R0).contains id) (idx.ids l) j = false) ∧ P0.length + l.length ≤ 1048576 ∧ R0.length + l.length ≤ 1048576 ∧ (0 ≤ k0 ∧ k0 + (l.length * 2097152 : Nat) ≤ 2305843009213693952) ∧ ∀ wr, BuS w0 base tb g mb n k0 most T0 DS P0 R0 l l.length wr → Bulked w base tb g mb n k most T DS P R l p (.returned (.int .i64 0)) wr) := by
        obtain ⟨h, hl, hbf, hw, hd, hdk, hDS⟩ := HH.out
        obtain ⟨hP, hR, hk⟩ := HK.out
        obtain ⟨hRl, hdp⟩ := HDUP.out R0 hR0
        exact ⟨hbu, hit, hbf, hw, hdp, by omega, by omega, ⟨by omega, by omega⟩, fun wr hB => HEND.out P0 HFE.out (by rw [if_pos H0.out]; exact hP0) k0 w0 wr T0 R0 hk1 hk2 hR0 hO hT0 hB⟩
      clear hx hP0 hk1 hk2 hR0 hO hT0 hbu hit hPl HC1 c2 e0 e1 HEND
      have HC := Lib.hid hC
      clear hC
      go_wp2_with (fail)
      go_loopg [35] l.length (fun gk s35 wr => ∃ i : Nat, gk = l.length - i ∧ i ≤ l.length ∧ s35 = .int .i64 i ∧ BuS w0 base tb g mb n k0 most T0 DS P0 R0 l i wr)
      case atStart => exact ⟨0, rfl, Nat.zero_le _, rfl, HC.out.1⟩
      case round =>
        obtain ⟨i, rfl, hi, rfl, hbu⟩ := hrel
        by_cases hlt : i < l.length
        · have i1 : (i : Int) < (l.length : Int) := by omega
          obtain ⟨hbu0, hit, hbf, hw, hdup, hP0, hR0, hk0, hfin⟩ := HC.out
          obtain ⟨hI, hput⟩ := hbu.round hit hbf hw hlt hdup hP0 hR0 hk0
          obtain ⟨b, o, rfl, hb1, d0, d1, d2, d3⟩ := itemAt hI.row.sl hlt
          generalize l[i] = q at d0 d1 d2 d3 hput
          have HP := Lib.hid hput
          have hb0 : Below wr.heap.size wr (wr.alloc (.cells #[.int .u64 q.1, .int .i64 q.2.x.tag, .slice q.2.A q.2.x.vec.length q.2.c, .string q.2.x.str] 37)) := (Below.refl _ _).alloc (Nat.le_refl _) _
          obtain ⟨r0, r1, r2, r3, -⟩ := cells4' (Blk.new wr 37 #[.int .u64 q.1, .int .i64 q.2.x.tag, .slice q.2.A q.2.x.vec.length q.2.c, .string q.2.x.str])
          have HP1 := Lib.hid (HP.out _ hb0)
          clear hput hI hbu hbu0 hit hbf hw hdup hP0 hR0 hk0 hfin HP hb0 hb1
          go_wp2_with (fail)
          refine HP1.out.mono ?_
          rintro e w5 ⟨rfl, hbu⟩
          have HBU := Lib.hid hbu
          clear hbu HP1
          go_wp2_with (fail)
          go_roundg (l.length - (i + 1))
          case measure => omega
          case rel => exact ⟨i + 1, rfl, by omega, by go_num, HBU.out⟩
        · obtain rfl : i = l.length := by omega
          have i1 : ¬ (l.length : Int) < (l.length : Int) := by omega
          have HE := Lib.hid (HC.out.2.2.2.2.2.2.2.2 wr hbu)
          clear hbu
          go_wp2_with (fail)
          go_ret
          exact HE.out
    · have e0 : ((P.length : Int) == 0) = false := by simp [h0]
      have e1 : (P.length == 0) = false := by simp [h0]
      have hC0 := HB0.out w1 hb h0
      obtain ⟨w0, hw0⟩ : ∃ w0, w0 = w1 := ⟨_, rfl⟩
      rw [← hw0] at hC0 hb c2 ⊢
      obtain ⟨k0, hk0⟩ : ∃ k0, k0 = k := ⟨_, rfl⟩
      obtain ⟨T0, hT0⟩ : ∃ T0, T0 = T := ⟨_, rfl⟩
      obtain ⟨R0, hR0⟩ : ∃ R0, R0 = R := ⟨_, rfl⟩
      obtain ⟨P0, hP0⟩ : ∃ P0, P0 = P.map At.x := ⟨_, rfl⟩
      have hC : (BuS w0 base tb g mb n k0 most T0 DS P0 R0 l 0 w0 ∧ Its w0 (fun i => i = g ∨ T0 i ∨ DS i) A l ∧ (∀ q ∈ l, Bf q.2.x) ∧ idx.Wf l ∧ (∀ j, j < (idx.ids l).length → idx.dup (fun id => (ids R0).contains id) (idx.ids l) j = false) ∧ P0.length + l.length ≤ 1048576 ∧ R0.length + l.length ≤ 1048576 ∧ (0 ≤ k0 ∧ k0 + (l.length * 2097152 : Nat) ≤ 2305843009213693952) ∧ ∀ wr, BuS w0 base tb g mb n k0 most T0 DS P0 R0 l l.length wr → Bulked w base tb g mb n k most T DS P R l p (.returned (.int .i64 0)) wr) := by
        subst hT0 hR0 hP0
        rw [hk0]
        obtain ⟨h, hl, hbf, hw, hd, hdk, hDS⟩ := HH.out
        obtain ⟨hP, hR, hk⟩ := HK.out
        obtain ⟨hRl, hdp⟩ := HDUP.out R0 rfl
        exact ⟨hC0.1, hC0.2, hbf, hw, hdp, by rw [List.length_map]; omega, by omega, ⟨by omega, by omega⟩, fun wr hB => HEND.out _ HFE.out (by rw [if_neg h0]) k w0 wr T0 R0 (Int.le_refl _) (by omega) rfl (Only.of_below hb (Nat.le_refl _) _) (fun j e => .inl e) hB⟩
      clear hC0 hw0 hk0 hT0 hR0 hP0 h0 HB0 HCH HF HT hb HEND
      have HC := Lib.hid hC
      clear hC
      go_wp2_with (fail)
      go_loopg [35] l.length (fun gk s35 wr => ∃ i : Nat, gk = l.length - i ∧ i ≤ l.length ∧ s35 = .int .i64 i ∧ BuS w0 base tb g mb n k0 most T0 DS P0 R0 l i wr)
      case atStart => exact ⟨0, rfl, Nat.zero_le _, rfl, HC.out.1⟩
      case round =>
        obtain ⟨i, rfl, hi, rfl, hbu⟩ := hrel
        by_cases hlt : i < l.length
        · have i1 : (i : Int) < (l.length : Int) := by omega
          obtain ⟨hbu0, hit, hbf, hw, hdup, hP0, hR0, hk0, hfin⟩ := HC.out
          obtain ⟨hI, hput⟩ := hbu.round hit hbf hw hlt hdup hP0 hR0 hk0
          obtain ⟨b, o, rfl, hb1, d0, d1, d2, d3⟩ := itemAt hI.row.sl hlt
          generalize l[i] = q at d0 d1 d2 d3 hput
          have HP := Lib.hid hput
          have hb0 : Below wr.heap.size wr (wr.alloc (.cells #[.int .u64 q.1, .int .i64 q.2.x.tag, .slice q.2.A q.2.x.vec.length q.2.c, .string q.2.x.str] 37)) := (Below.refl _ _).alloc (Nat.le_refl _) _
          obtain ⟨r0, r1, r2, r3, -⟩ := cells4' (Blk.new wr 37 #[.int .u64 q.1, .int .i64 q.2.x.tag, .slice q.2.A q.2.x.vec.length q.2.c, .string q.2.x.str])
          have HP1 := Lib.hid (HP.out _ hb0)
          clear hput hI hbu hbu0 hit hbf hw hdup hP0 hR0 hk0 hfin HP hb0 hb1
          go_wp2_with (fail)
          refine HP1.out.mono ?_
          rintro e w5 ⟨rfl, hbu⟩
          have HBU := Lib.hid hbu
          clear hbu HP1
          go_wp2_with (fail)
          go_roundg (l.length - (i + 1))
          case measure => omega
          case rel => exact ⟨i + 1, rfl, by omega, by go_num, HBU.out⟩
        · obtain rfl : i = l.length := by omega
          have i1 : ¬ (l.length : Int) < (l.length : Int) := by omega
          have HE := Lib.hid (HC.out.2.2.2.2.2.2.2.2 wr hbu)
          clear hbu
          go_wp2_with (fail)
          go_ret
          exact HE.out
  · -- some is there
    have HE : Hid (∀ w1, Below w.heap.size w w1 → Bulked w base tb g mb n k most T DS P R l p (.returned (.int .i64 4)) w1) := Lib.hid fun w1 hb =>
      ⟨by rw [hf], k, _, vR, T, P, R, HH.out.1.below hb, Int.le_refl _, by omega, fun e => by (rw [hf] at e; cases e), fun _ => ⟨rfl, rfl⟩, Only.of_below hb (Nat.le_refl _) _, fun j e => .inl e⟩
    rw [hf] at HF
    clear hf HCH HB0 HEND HT
    go_enter Tryz.func18, Tryz.ntmps18
    go_wp2_with (fail)
    refine HF.out.mono ?_
    rintro e w1 ⟨rfl, hb⟩
    have HE1 := Lib.hid (HE.out w1 hb)
    clear HF hb HE
    go_wp2_with (fail)
    go_ret
    exact HE1.out
end
end Go.Proofs.YtgbjpobgjmkjgaaGreat.tab
