/-
  The contract of Best.Add; a Best by what it keeps, away from what others turn.
-/
import Derived.Test.YtbpahlhmdbahjaaBest
namespace Go.Proofs.Ytbpahlhmdbahjaa.best
open Go.RowKit law bytes only flat hit heapM hso Go.Sort Go.Shelf
set_option linter.unusedVariables false

/-- what an Add leaves: a Best that keeps one more, in the same memory or new one -/
def Added (w : World) (base bb hb : Nat) (v : Value) (k : Int) (l : List Hit) (h : Hit) (e : Ending) (w' : World) : Prop :=
  e = .returned (.bool (ad k l h)) ∧ Only (Mine hb v) w w' ∧ ∃ v' d', Bx w' base bb hb v' k d' ∧ Heap (lf cB) d' ∧ d'.toList.Perm (keep k (l ++ [h])) ∧ Moved w v v'
theorem moved_ne {w : World} {base bb hb : Nat} {v v' : Value} {k : Int} {d : Array Hit} (h : Bx w base bb hb v k d) (hm : Moved w v v') : v'.ownBlock ≠ some bb := fun e => by
  rcases hm with e1 | ⟨g, e1, hg⟩
  · exact h.nv (e1.symm.trans e)
  · rw [e1] at e
    injection e with e
    have := h.blk.lt
    omega
theorem not_mine {w : World} {base bb hb : Nat} {v : Value} {k : Int} {d : Array Hit} (h : Bx w base bb hb v k d) : ¬ Mine hb v bb := fun e => by
  rcases e with e | e
  · exact h.ne e
  · exact h.nv e
/-- behind a Push -/
theorem Bx.pushed {w w' : World} {base bb hb : Nat} {v v' : Value} {k : Int} {d d' : Array Hit} (h : Bx w base bb hb v k d) (o : Only (Mine hb v) w w') (hp : HHp w' base hb v' 16 d') (hm : Moved w v v') : Bx w' base bb hb v' k d' :=
  ⟨Blk.only h.blk o (not_mine h), hp, h.ne, moved_ne h hm, h.bb, h.hb⟩
theorem ge_lt (x y : Hit) : decide (0 ≤ cf x y) = !lt x y := by
  rw [← cf_lt]
  by_cases h : cf x y < 0
  · simp [h]
  · simp [h]; omega
/-- what Add's last call reads -/
def Cs (n bb hb : Nat) (x : Hit) (W : World) : Prop := W.cell? ⟨n, 0, none⟩ = some (.int .u64 x.1) ∧ W.cell? ⟨n, 1, none⟩ = some (.int .i64 x.2) ∧ W.cell? ⟨bb, 1, none⟩ = some (.pointer (some ⟨hb, 0, none⟩))
/-- what the Push at the end comes to -/
theorem push_end {w : World} {base bb hb : Nat} {v : Value} {k : Int} {d : Array Hit} {l : List Hit} (w0 : World) (v0 : Value) (h : Bx w base bb hb v k d) (hH : Heap (lf cB) d) (x : Hit) (hB : base ≤ w.heap.size) (hsz : (d.size + 1) * 16 ≤ 140737488355328)
    (ho : Only (Mine hb v0) w0 w) (hv : v.ownBlock = v0.ownBlock) (hfin : ∀ d' : Array Hit, d'.toList.Perm (x :: d.toList) → d'.toList.Perm (keep k (l ++ [x]))) (ha : ad k l x = true)
    (n : Nat) (hx : Blk w n 30 #[.int .u64 x.1, .int .i64 x.2]) (hn : ¬ Mine hb v n) :
    Calls Try.prog 23 #[.pointer (some ⟨hb, 0, none⟩), .agg #[.int .u64 x.1, .int .i64 x.2]] w fun e w' => e = .returned (.tuple #[]) ∧ Added w0 base bb hb v0 k l x (.returned (.bool true)) w' ∧ Cs n bb hb x w' :=
  (push_hit cB border_enters border_tells cB_swo x w h.hp hH hB hsz).mono fun e w' ⟨he, ho2, v', d', hp, hH', hpe, hm⟩ =>
    ⟨he, ⟨by rw [ha], ho.trans ho2 (fun i e => .inl (by rcases e with e | e; exact .inl e; exact .inr (by rw [← hv]; exact e))), v', d', h.pushed ho2 hp hm, hH', hfin d' hpe, by
      rcases hm with e1 | ⟨g, e1, hg⟩
      · exact .inl (e1.trans hv)
      · exact .inr ⟨g, e1, Nat.le_trans ho.size hg⟩⟩, (Blk.only hx ho2 hn).cell 0, (Blk.only hx ho2 hn).cell 1, (h.pushed ho2 hp hm).blk.cell 1⟩
set_option maxRecDepth 100000 in
set_option maxHeartbeats 3200000 in
theorem addx_any {w : World} {base bb hb : Nat} {v : Value} {k : Int} {d : Array Hit} {l : List Hit} (h : Bx w base bb hb v k d) (hH : Heap (lf cB) d) (hp : d.toList.Perm (keep k l)) (x : Hit) (hB : base ≤ w.heap.size) (hsz : (l.length + 1) * 16 ≤ 140737488355328) :
    Calls Try.prog 9 #[.pointer (some ⟨bb, 0, none⟩), .agg #[.int .u64 x.1, .int .i64 x.2]] w (Added w base bb hb v k l x) := by
  have hds := size_of hp
  have hle := keep_le k l
  have hlen := keep_length k l
  have hall : Below w.heap.size w (w.alloc (.cells #[.int .u64 x.1, .int .i64 x.2] 30)) := (Below.refl _ _).alloc (Nat.le_refl _) _
  have hx0 : Blk (w.alloc (.cells #[.int .u64 x.1, .int .i64 x.2] 30)) w.heap.size 30 #[.int .u64 x.1, .int .i64 x.2] := Blk.new w _ _
  obtain ⟨V, hV⟩ : ∃ V, V = w.alloc (.cells #[.int .u64 x.1, .int .i64 x.2] 30) := ⟨_, rfl⟩
  rw [← hV] at hall hx0
  have hb1 := h.below hall (Nat.le_refl _)
  have hBV : base ≤ V.heap.size := Nat.le_trans hB hall.size
  have HF := Lib.hid (fullx_any hb1)
  have HO : Hid (∀ W, Below V.heap.size V W → Only (Mine hb v) w W) := Lib.hid fun W hW => (Only.of_below hall (Nat.le_refl _) _).on hW
  have HQ : Hid (∀ W, Below V.heap.size V W → W.cell? ⟨w.heap.size, 0, none⟩ = some (.int .u64 x.1) ∧ W.cell? ⟨w.heap.size, 1, none⟩ = some (.int .i64 x.2) ∧ W.cell? ⟨bb, 1, none⟩ = some (.pointer (some ⟨hb, 0, none⟩))) := Lib.hid fun W hW =>
    ⟨(hx0.below hW hx0.lt).cell 0, (hx0.below hW hx0.lt).cell 1, (hb1.below hW (Nat.le_refl _)).blk.cell 1⟩
  by_cases hf : k ≤ (d.size : Int)
  · -- full
    rw [decide_eq_true hf] at HF
    obtain ⟨t, ok, ht, k0, k1⟩ := topH_form d
    have HT : Hid (∀ W, Below V.heap.size V W → Calls Try.prog 21 #[.pointer (some ⟨bb, 0, none⟩)] W fun e w' => e = .returned (.tuple #[.agg #[.int .u64 t.1, .int .i64 t.2], .bool ok]) ∧ Below V.heap.size V w') := Lib.hid fun W hW =>
      (lastx_any (hb1.below hW (Nat.le_refl _)) t ok ht).mono fun e w' ⟨he, hb⟩ => ⟨he, hW.trans (hb.mono hW.size)⟩
    have HSAME : Hid (ad k l x = false → keep k (l ++ [x]) = keep k l → ∀ W, Below V.heap.size V W → Added w base bb hb v k l x (.returned (.bool false)) W) := Lib.hid fun h1 h2 W hW =>
      ⟨by rw [h1], HO.out W hW, v, d, hb1.below hW (Nat.le_refl _), hH, by rw [h2]; exact hp, .inl rfl⟩
    by_cases hk1 : k < 1
    · -- none
      obtain ⟨a1, a2, a3⟩ := add_none (l := l) (h := x) hk1
      have hd0 : d.size = 0 := by rw [hds, a2]; rfl
      have hok := k0 hd0
      subst hok
      have HE := Lib.hid (HSAME.out a1 (by rw [a3, a2]))
      clear a1 a2 a3 hd0 k0 k1 ht hk1 hf HSAME hb1 h hH hp hds hle hlen hx0
      go_enter Try.func9, Try.ntmps9
      go_wp2_with (fail)
      rw [← hV]
      refine HF.out.mono ?_
      rintro e w1 ⟨rfl, hb1⟩
      have HT1 := Lib.hid (HT.out w1 hb1)
      clear HF HT hb1
      go_wp2_with (fail)
      refine HT1.out.mono ?_
      rintro e w2 ⟨rfl, hb2⟩
      have HA := Lib.hid (HE.out _ (hb2.alloc hb2.size (.cells #[.int .u64 t.1, .int .i64 t.2] 30)))
      clear HT1 hb2 HE
      go_wp2_with (fail)
      refine bodyPost_ret (v := .bool false) (by simp [results, Try.results9, go_sem]) rfl ?_
      exact HA.out
    · obtain ⟨n, hn⟩ : ∃ n, k.toNat = n + 1 := ⟨k.toNat - 1, by omega⟩
      have hnl : n < l.length := by omega
      obtain ⟨h0, f1, f2⟩ := add_full (h := x) hn hnl hH hp
      obtain ⟨hok, htx⟩ := k1 h0
      subst hok
      rw [htx] at f1 f2
      have HC : Hid (∀ W, Below V.heap.size V W → Calls Try.prog 17 #[.agg #[.int .u64 x.1, .int .i64 x.2], .agg #[.int .u64 t.1, .int .i64 t.2]] W fun e w' => e = .returned (.int .i64 (cf x t)) ∧ Below V.heap.size V w') := Lib.hid fun W hW =>
        (cmp_any x t W).mono fun e w' ⟨he, hb⟩ => ⟨he, hW.trans (hb.mono hW.size)⟩
      have hge := ge_lt x t
      have hP : ∀ W, Below V.heap.size V W → lt x t = true → Calls Try.prog 22 #[.pointer (some ⟨hb, 0, none⟩)] W fun e w' => e = .returned (.tuple #[.agg #[.int .u64 t.1, .int .i64 t.2], .bool true]) ∧
          (w'.cell? ⟨w.heap.size, 0, none⟩ = some (.int .u64 x.1) ∧ w'.cell? ⟨w.heap.size, 1, none⟩ = some (.int .i64 x.2) ∧ w'.cell? ⟨bb, 1, none⟩ = some (.pointer (some ⟨hb, 0, none⟩))) ∧
          (∀ W2, Below w'.heap.size w' W2 → W2.cell? ⟨w.heap.size, 0, none⟩ = some (.int .u64 x.1) ∧ W2.cell? ⟨w.heap.size, 1, none⟩ = some (.int .i64 x.2) ∧ W2.cell? ⟨bb, 1, none⟩ = some (.pointer (some ⟨hb, 0, none⟩))) ∧
          ∀ W2, Below w'.heap.size w' W2 → Calls Try.prog 23 #[.pointer (some ⟨hb, 0, none⟩), .agg #[.int .u64 x.1, .int .i64 x.2]] W2 fun e w3 => e = .returned (.tuple #[]) ∧ Added w base bb hb v k l x (.returned (.bool true)) w3 ∧ Cs w.heap.size bb hb x w3 := fun W hW hlt => by
        have hbW := hb1.below hW (Nat.le_refl _)
        have hpop := pop_hit cB border_enters border_tells cB_swo W hbW.hp hH h0 (by omega)
        rw [htx] at hpop
        refine hpop.mono fun e w' ⟨he, ho, v', d', hp', hH', hpe, hv'⟩ => ?_
        obtain ⟨a1, a2⟩ := f1 hlt
        have hbx : Bx w' base bb hb v' k d' := hbW.pushed ho hp' (.inl hv')
        have hnm0 : ¬ Mine hb v w.heap.size := fun e => by
          rcases e with e | e
          · have := h.hp.lt; omega
          · have := (own_lt h.hp.2.1 e).2; omega
        have hnm : ¬ Mine hb v' w.heap.size := fun e => hnm0 (by rcases e with e | e; exact .inl e; exact .inr (by rw [← hv']; exact e))
        have hxW : Blk w' w.heap.size 30 #[.int .u64 x.1, .int .i64 x.2] := Blk.only (hx0.below hW hx0.lt) ho hnm0
        have hcell : ∀ W2, Below w'.heap.size w' W2 → W2.cell? ⟨w.heap.size, 0, none⟩ = some (.int .u64 x.1) ∧ W2.cell? ⟨w.heap.size, 1, none⟩ = some (.int .i64 x.2) ∧ W2.cell? ⟨bb, 1, none⟩ = some (.pointer (some ⟨hb, 0, none⟩)) := fun W2 h2 =>
          ⟨(hxW.below h2 hxW.lt).cell 0, (hxW.below h2 hxW.lt).cell 1, (hbx.below h2 (Nat.le_refl _)).blk.cell 1⟩
        refine ⟨he, hcell w' (Below.refl _ _), hcell, fun W2 h2 => ?_⟩
        have hd' : d'.size + 1 = d.size := by have := hpe.length_eq; simpa using this
        exact push_end w v (hbx.below h2 (Nat.le_refl _)) hH' x (Nat.le_trans hBV (Nat.le_trans hW.size (Nat.le_trans ho.size h2.size))) (by omega) (((HO.out W hW).trans ho fun i e => .inl e).on h2) hv' (fun d2 p2 => a2 d' d2 hpe p2) a1 w.heap.size (hxW.below h2 hxW.lt) hnm
      have HP := Lib.hid hP
      have HE : Hid (lt x t = false → ∀ W, Below V.heap.size V W → Added w base bb hb v k l x (.returned (.bool false)) W) := Lib.hid fun e => HSAME.out (f2 e).1 (f2 e).2
      have hnot : (!false) = true := rfl
      clear k0 k1 ht hk1 hf HSAME hb1 h hH hp hds hle hlen hx0 hn hnl h0 f1 f2 htx hP
      obtain ⟨r, hr⟩ : ∃ r, cf x t = r := ⟨_, rfl⟩
      rw [hr] at HC hge
      cases hl : lt x t with
      | true =>
        rw [hl] at hge
        have hd : decide (0 ≤ r) = false := hge
        have HP1 : Hid (∀ W, Below V.heap.size V W → _) := Lib.hid fun W hW => HP.out W hW hl
        clear hr hl hge HP HE
        go_enter Try.func9, Try.ntmps9
        go_wp2_with (fail)
        rw [← hV]
        refine HF.out.mono ?_
        rintro e w1 ⟨rfl, hb1⟩
        have HT1 := Lib.hid (HT.out w1 hb1)
        clear HF HT hb1
        go_wp2_with (fail)
        refine HT1.out.mono ?_
        rintro e w2 ⟨rfl, hb2⟩
        have hb3 := hb2.alloc hb2.size (.cells #[.int .u64 t.1, .int .i64 t.2] 30)
        obtain ⟨q0, q1, q2⟩ := HQ.out _ hb3
        have t0 : (w2.alloc (.cells #[.int .u64 t.1, .int .i64 t.2] 30)).cell? ⟨w2.heap.size, 0, none⟩ = some (.int .u64 t.1) := (Blk.new w2 _ _).cell 0
        have t1 : (w2.alloc (.cells #[.int .u64 t.1, .int .i64 t.2] 30)).cell? ⟨w2.heap.size, 1, none⟩ = some (.int .i64 t.2) := (Blk.new w2 _ _).cell 1
        have HC1 := Lib.hid (HC.out _ hb3)
        clear HT1 hb2 hb3 HC
        go_wp2_with (fail)
        refine HC1.out.mono ?_
        rintro e w3 ⟨rfl, hb4⟩
        obtain ⟨q0, q1, q2⟩ := HQ.out w3 hb4
        have HP2 := Lib.hid (HP1.out w3 hb4)
        clear HC1 hb4 HP1 t0 t1
        go_wp2_with (fail)
        refine HP2.out.mono ?_
        rintro e w4 ⟨rfl, ⟨q0, q1, q2⟩, hcell, hpush⟩
        have HCE := Lib.hid hcell
        have HPU := Lib.hid hpush
        clear HP2 hcell hpush
        go_wp2_with (fail)
        go_region_held3 (fun W => W.cell? ⟨w.heap.size, 0, none⟩ = some (.int .u64 x.1) ∧ W.cell? ⟨w.heap.size, 1, none⟩ = some (.int .i64 x.2) ∧ W.cell? ⟨bb, 1, none⟩ = some (.pointer (some ⟨hb, 0, none⟩))) ((first | exact hcs | (refine HCE.out _ ?_); repeat' (first | (with_reducible exact Below.refl _ _) | (with_reducible assumption) | (with_reducible refine Below.drew ?_) | (with_reducible refine below_drewN' ?_ _))))
          (first
            | (go_at_call 23; (with_reducible refine (HPU.out _ (by repeat' (first | (with_reducible exact Below.refl _ _) | (with_reducible assumption) | (with_reducible refine Below.drew ?_) | (with_reducible refine below_drewN' ?_ _)))).mono ?_); rintro e w5 ⟨rfl, hadd, hcs⟩))
        go_wp2_with (fail)
        refine bodyPost_ret (v := .bool true) (by simp [results, Try.results9, go_sem]) rfl ?_
        exact hadd
      | false =>
        rw [hl] at hge
        have hd : decide (0 ≤ r) = true := hge
        have HE1 := Lib.hid (HE.out hl)
        clear hr hl hge HP HE
        go_enter Try.func9, Try.ntmps9
        go_wp2_with (fail)
        rw [← hV]
        refine HF.out.mono ?_
        rintro e w1 ⟨rfl, hb1⟩
        have HT1 := Lib.hid (HT.out w1 hb1)
        clear HF HT hb1
        go_wp2_with (fail)
        refine HT1.out.mono ?_
        rintro e w2 ⟨rfl, hb2⟩
        have hb3 := hb2.alloc hb2.size (.cells #[.int .u64 t.1, .int .i64 t.2] 30)
        obtain ⟨q0, q1, q2⟩ := HQ.out _ hb3
        have t0 : (w2.alloc (.cells #[.int .u64 t.1, .int .i64 t.2] 30)).cell? ⟨w2.heap.size, 0, none⟩ = some (.int .u64 t.1) := (Blk.new w2 _ _).cell 0
        have t1 : (w2.alloc (.cells #[.int .u64 t.1, .int .i64 t.2] 30)).cell? ⟨w2.heap.size, 1, none⟩ = some (.int .i64 t.2) := (Blk.new w2 _ _).cell 1
        have HC1 := Lib.hid (HC.out _ hb3)
        clear HT1 hb2 hb3 HC
        go_wp2_with (fail)
        refine HC1.out.mono ?_
        rintro e w3 ⟨rfl, hb4⟩
        have HA := Lib.hid (HE1.out w3 hb4)
        clear HC1 hb4 HE1
        go_wp2_with (fail)
        refine bodyPost_ret (v := .bool false) (by simp [results, Try.results9, go_sem]) rfl ?_
        exact HA.out
  · -- there is room
    rw [decide_eq_false hf] at HF
    obtain ⟨a1, a2⟩ := add_room (l := l) (h := x) (k := k) (by omega)
    have hnm0 : ¬ Mine hb v w.heap.size := fun e => by
      rcases e with e | e
      · have := h.hp.lt; omega
      · have := (own_lt h.hp.2.1 e).2; omega
    have HPU : Hid (∀ W, Below V.heap.size V W → Calls Try.prog 23 #[.pointer (some ⟨hb, 0, none⟩), .agg #[.int .u64 x.1, .int .i64 x.2]] W fun e w3 => e = .returned (.tuple #[]) ∧ Added w base bb hb v k l x (.returned (.bool true)) w3 ∧ Cs w.heap.size bb hb x w3) := Lib.hid fun W hW =>
      push_end w v (hb1.below hW (Nat.le_refl _)) hH x (Nat.le_trans hBV hW.size) (by omega) (HO.out W hW) rfl (fun d' p => by rw [a2]; exact p.trans ((List.Perm.cons x hp).trans (put_perm x _).symm)) a1 w.heap.size (hx0.below hW hx0.lt) hnm0
    clear a1 a2 hf hb1 h hH hp hds hle hlen hx0 hnm0
    go_enter Try.func9, Try.ntmps9
    go_wp2_with (fail)
    rw [← hV]
    refine HF.out.mono ?_
    rintro e w1 ⟨rfl, hb1⟩
    obtain ⟨q0, q1, q2⟩ := HQ.out w1 hb1
    have HCE : Hid (∀ W2, Below w1.heap.size w1 W2 → W2.cell? ⟨w.heap.size, 0, none⟩ = some (.int .u64 x.1) ∧ W2.cell? ⟨w.heap.size, 1, none⟩ = some (.int .i64 x.2) ∧ W2.cell? ⟨bb, 1, none⟩ = some (.pointer (some ⟨hb, 0, none⟩))) := Lib.hid fun W2 h2 => HQ.out W2 (hb1.trans (h2.mono hb1.size))
    have HP1 : Hid (∀ W2, Below w1.heap.size w1 W2 → Calls Try.prog 23 #[.pointer (some ⟨hb, 0, none⟩), .agg #[.int .u64 x.1, .int .i64 x.2]] W2 fun e w3 => e = .returned (.tuple #[]) ∧ Added w base bb hb v k l x (.returned (.bool true)) w3 ∧ Cs w.heap.size bb hb x w3) := Lib.hid fun W2 h2 => HPU.out W2 (hb1.trans (h2.mono hb1.size))
    clear HF hb1 HPU HQ
    go_wp2_with (fail)
    go_region_held3 (fun W => W.cell? ⟨w.heap.size, 0, none⟩ = some (.int .u64 x.1) ∧ W.cell? ⟨w.heap.size, 1, none⟩ = some (.int .i64 x.2) ∧ W.cell? ⟨bb, 1, none⟩ = some (.pointer (some ⟨hb, 0, none⟩))) ((first | exact hcs | (refine HCE.out _ ?_); repeat' (first | (with_reducible exact Below.refl _ _) | (with_reducible assumption) | (with_reducible refine Below.drew ?_) | (with_reducible refine below_drewN' ?_ _))))
      (first
        | (go_at_call 23; (with_reducible refine (HP1.out _ (by repeat' (first | (with_reducible exact Below.refl _ _) | (with_reducible assumption) | (with_reducible refine Below.drew ?_) | (with_reducible refine below_drewN' ?_ _)))).mono ?_); rintro e w5 ⟨rfl, hadd, hcs⟩))
    go_wp2_with (fail)
    refine bodyPost_ret (v := .bool true) (by simp [results, Try.results9, go_sem]) rfl ?_
    exact hadd
end Go.Proofs.Ytbpahlhmdbahjaa.best
