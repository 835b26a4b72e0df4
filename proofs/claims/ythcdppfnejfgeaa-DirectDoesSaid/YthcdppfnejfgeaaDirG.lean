/-
  The document's own answers: the contracts of its Cut, Ids and Same.
-/
import Derived.Test.YthcdppfnejfgeaaDirF
namespace Go.Proofs.Ythcdppfnejfgeaa.direct
open Go.RowKit law bytes only flat came
set_option linter.unusedVariables false

theorem del_take {r : List (Int × Int)} {k : Nat} (hk : k < r.length) (id : Int) : del (r.take (k + 1)) id = if r[k].1 = id then del (r.take k) id else del (r.take k) id ++ [r[k]] := by
  rw [List.take_succ_eq_append_getElem hk, del_append]
  by_cases h : r[k].1 = id
  · rw [if_pos h]
    have : del [r[k]] id = [] := by unfold del; simp [h]
    rw [this, List.append_nil]
  · rw [if_neg h]
    have : del [r[k]] id = [r[k]] := by unfold del; simp [h]
    rw [this]
set_option maxRecDepth 100000 in
set_option maxHeartbeats 3200000 in
theorem rcut_any {w : World} {A : Option Addr} {c : Nat} {r : List (Int × Int)} (h : Sl w w.heap.size A (r.flatMap rE)) (id : Int) (hn : r.length ≤ 5864062014806) :
    Calls Try.prog 8 #[.slice A r.length c, .int .u64 id] w (RPost w (del r id) (fd r id).isSome) := by
  have HS := Lib.hid h
  clear h
  go_enter Try.func8, Try.ntmps8
  go_wp2_with (fail)
  go_loopg [6, 7] r.length (fun gk s6 s7 wr => ∃ (k m c2 : Nat) (A2 : Option Addr), gk = r.length - k ∧ k ≤ r.length ∧ m ≤ k ∧ s6 = .slice A2 m c2 ∧ s7 = .int .i64 k ∧ wr.ownsRow w.heap.size 54 2 (.slice A2 m c2) m ((del (r.take k) id).flatMap rE) ∧ m = (del (r.take k) id).length ∧ Below w.heap.size w wr)
  case atStart => exact ⟨0, 0, 0, none, rfl, Nat.zero_le _, Nat.le_refl _, rfl, rfl, World.ownsRow_nil _ _ _ _, rfl, Below.refl _ _⟩
  case round =>
    obtain ⟨k, m, c2, A2, rfl, hk, hmk, rfl, rfl, hown, hml, hb⟩ := hrel
    by_cases hlt : k < r.length
    · obtain ⟨b, o, rfl, -, c0, c1⟩ := row_cells (HS.out.below hb) k hlt
      have i1 : (k : Int) < (r.length : Int) := by omega
      have ht := del_take hlt id
      have hsz := hb.size
      by_cases he : r[k].1 = id
      · rw [if_pos he] at ht
        have HR : Hid (wr.ownsRow w.heap.size 54 2 (.slice A2 m c2) m ((del (r.take (k + 1)) id).flatMap rE) ∧ m = (del (r.take (k + 1)) id).length ∧ Below w.heap.size w wr) := Lib.hid (by rw [ht]; exact ⟨hown, hml, hb⟩)
        rw [he] at c0
        have d0 : (id != id) = false := by simp
        clear he ht hown hml hb c1
        go_wp2_with (fail)
        go_roundg (r.length - (k + 1))
        case measure => omega
        case rel => exact ⟨k + 1, m, c2, A2, rfl, by omega, by omega, rfl, by go_num, HR.out⟩
      · rw [if_neg he] at ht
        obtain ⟨⟨x, y⟩, hxy⟩ : ∃ p, r[k] = p := ⟨_, rfl⟩
        rw [hxy] at c0 c1 he ht
        dsimp only at c0 c1 he
        have d0 : (x != id) = true := by simpa using he
        have HX : Hid ((del (r.take k) id).flatMap rE ++ rE (x, y) = (del (r.take (k + 1)) id).flatMap rE ∧ m + 1 = (del (r.take (k + 1)) id).length) := Lib.hid (by rw [ht]; exact ⟨by simp [List.flatMap_append], by simp [hml]⟩)
        clear he ht hml hxy
        go_wp2_with (at_builtin
                     refine wpList_append_slk _ rfl (.tmp 21) (.tmp 26) _ rfl w.heap.size 54 2 16 Try.underlying25 rowK (by decide) (.slice A2 m c2) m ((del (r.take k) id).flatMap rE) rfl (World.ownsRow.alloc (w := wr) hown _) _ _ 1 1 (rE (x, y)) rfl (Sl.lit wr (rE (x, y)) _) rfl (by simp [rE, Value.oneCell']) (by omega) (by unfold maxLen; omega) (by simp; omega) ?_
                     intro v4 w4 hown4 hg4 hat4
                     have hb4 := below_appendK1 hb hsz _ hown (Nat.le_refl _) hg4
                     obtain ⟨A5, c5, rfl, hc5⟩ := own_slice hown4)
        go_roundg (r.length - (k + 1))
        case measure => omega
        case rel => exact ⟨k + 1, m + 1, c5, A5, rfl, by omega, by omega, rfl, by go_num, by rw [← HX.out.1]; exact hown4, HX.out.2, hb4⟩
    · obtain rfl : k = r.length := by omega
      rw [List.take_length] at hown hml
      have hd := del_len r id
      rw [← hml] at hd
      obtain ⟨q, hq⟩ : ∃ q, (fd r id).isSome = q := ⟨_, rfl⟩
      have HE := Lib.hid (RPost.mk (b := (fd r id).isSome) hown rfl hb)
      rw [hq] at hd HE
      have d0 : decide ((m : Int) < (r.length : Int)) = q := by rw [← hd]; exact decide_eq_decide.2 (by omega)
      have i1 : ¬ (r.length : Int) < (r.length : Int) := by omega
      have HQ := Lib.hid hq
      clear hown hml hb hq HS
      go_wp2_with (fail)
      refine bodyPost_ret (v := .tuple #[.slice A2 m c2, .bool q]) (by simp [results, Try.results8, go_sem]) rfl ?_
      rw [HQ.out]
      exact HE.out
/-! ### numbers at their ranks -/
/-- numbers laid in a block -/
def oC (o : List Int) : Array Value := (o.map fun n => Value.int .u64 n).toArray
theorem oC_set (o : List Int) (p : Nat) (x : Int) : (oC o).setIfInBounds p (.int .u64 x) = oC (o.set p x) := by simp [oC, List.map_set]
theorem oC_get (o : List Int) (p : Nat) (hp : p < o.length) : (oC o)[p]? = some (.int .u64 o[p]) := by simp [oC, hp]
theorem make_out (n : Nat) (hn : n ≤ 8796093022208) (u : World) : (Instr.makeSlice 37 (.int .i64 (n : Int)) (.int .i64 (n : Int))).run Try.prog u = .ok (.slice (some ⟨u.heap.size, 0, none⟩) n n) (u.alloc (.cells (oC (List.replicate n 0)) 26)) := by
  obtain ⟨i, hi, hz, hsz, hby, hzs⟩ := u64E
  have h := run_make (P := Try.prog) u 37 26 i (.int .u64 0) Try.underlying37 hi hz .i64 .i64 (n : Int) (n : Int) (by omega) (by omega) (by rw [hby]; omega) (by omega)
  simp only [Int.toNat_natCast] at h
  have e : madeCells (Value.int .u64 0).cells (n * i.size) = oC (List.replicate n 0) := by
    rw [hsz, Nat.mul_one]
    apply Array.ext_getElem?
    intro j
    by_cases hj : j < n
    · rw [oC_get _ _ (by simpa using hj)]
      simp [madeCells, hj, Value.cells, Nat.mod_one]
    · rw [Array.getElem?_eq_none (by simp [madeCells]; omega), Array.getElem?_eq_none (by simp [oC]; omega)]
  rw [e] at h
  exact h
/-- numbers of the call's own, and what there was is as it was -/
def URow (w : World) (F : List (Int × Int)) (e : Ending) (w' : World) : Prop := ∃ A c, e = .returned (.slice A F.length c) ∧ Sl w' w'.heap.size A (kv F) ∧ Below w.heap.size w w'
set_option maxRecDepth 100000 in
set_option maxHeartbeats 3200000 in
theorem rids_any {w : World} {A : Option Addr} {c : Nat} {r F : List (Int × Int)} (h : Sl w w.heap.size A (r.flatMap rE)) (hR : Rise F) (hp : F.Perm r) (hn : r.length ≤ 5864062014806) :
    Calls Try.prog 13 #[.slice A r.length c] w (URow w F) := by
  have HS := Lib.hid h
  have HR := Lib.hid hR
  have HP := Lib.hid hp
  have HM := Lib.hid (make_out r.length (by omega) w)
  have hb0 : Below w.heap.size w (w.alloc (.cells (oC (List.replicate r.length 0)) 26)) := (Below.refl _ _).alloc (Nat.le_refl _) _
  have hk0 : Blk (w.alloc (.cells (oC (List.replicate r.length 0)) 26)) w.heap.size 26 (oC (List.replicate r.length 0)) := Blk.new _ _ _
  have HI : Hid (Below w.heap.size w (w.alloc (.cells (oC (List.replicate r.length 0)) 26)) ∧ ∃ o, Blk (w.alloc (.cells (oC (List.replicate r.length 0)) 26)) w.heap.size 26 (oC o) ∧ Laid r 0 o) := Lib.hid ⟨hb0, _, hk0, by simp, fun j _ h => absurd h (Nat.not_lt_zero _)⟩
  have hmk := HM.out
  clear h hR hp hb0 hk0
  go_enter Try.func13, Try.ntmps13
  go_wp2_with (fail)
  go_loopg [4] r.length (fun gk s4 wr => Below w.heap.size w wr ∧ ∃ k : Nat, gk = r.length - k ∧ k ≤ r.length ∧ s4 = .int .i64 k ∧ ∃ o, Blk wr w.heap.size 26 (oC o) ∧ Laid r k o)
  case atStart => exact ⟨HI.out.1, 0, rfl, Nat.zero_le _, rfl, HI.out.2⟩
  case round =>
    clear HI hmk HM
    obtain ⟨hb, k, rfl, hk, rfl, o, hB, hL⟩ := hrel
    by_cases hlt : k < r.length
    · obtain ⟨b, o2, rfl, hbl, c0, -⟩ := row_cells (HS.out.below hb) k hlt
      have i1 : (k : Int) < (r.length : Int) := by omega
      obtain ⟨hL2, hpl⟩ := Laid.step HR.out HP.out hL hlt
      have hol := hL.1
      obtain ⟨p, hpe⟩ : ∃ p, rk r r[k].1 = p := ⟨_, rfl⟩
      obtain ⟨x, hx⟩ : ∃ x, r[k].1 = x := ⟨_, rfl⟩
      have hrank : ∀ W, Below wr.heap.size wr W → Calls Try.prog 19 #[.slice (some ⟨b, o2, none⟩) r.length c, .int .u64 x] W fun e w' => e = .returned (.int .i64 p) ∧ W = w' := fun W hW => by
        rw [← hpe, hx]
        exact rrank_any ((HS.out.on (hb.trans (hW.mono hb.size)))) x (by omega)
      rw [hpe] at hL2 hpl
      rw [hx] at hL2 c0
      have HW := Lib.hid hrank
      have j0 : (0 : Int) ≤ (p : Int) := by omega
      have j1 : (p : Int) < (r.length : Int) := by omega
      obtain ⟨op, k0⟩ : ∃ op, wr.cell? ⟨w.heap.size, p, none⟩ = some (.int .u64 op) := ⟨o[p], by rw [hB.cell p]; exact oC_get o p hpl⟩
      have kf : wr.frozen? ⟨w.heap.size, p, none⟩ = false := hB.frozen p
      have hne : b ≠ w.heap.size := by omega
      have HK : Hid ((wr.setCell ⟨w.heap.size, p, none⟩ (.int .u64 x)).cell? ⟨b, o2 + k * 2, none⟩ = some (.int .u64 x)) := Lib.hid (by
        rw [World.cell?_setCell_other _ _ _ _ (fun e => hne (congrArg Addr.block e).symm)]
        exact c0)
      have hb2 : Below w.heap.size w (wr.setCell ⟨w.heap.size, p, none⟩ (.int .u64 x)) := ((Only.of_below hb (Nat.le_refl _) (fun i => w.heap.size ≤ i)).setCell (p := ⟨w.heap.size, p, none⟩) (.inl (Nat.le_refl _)) _).below (Nat.le_refl _) fun i hi => hi
      have hB2 : Blk (wr.setCell ⟨w.heap.size, p, none⟩ (.int .u64 x)) w.heap.size 26 (oC (o.set p x)) := by
        have := hB.set_ p (.int .u64 x)
        rw [oC_set] at this
        exact this
      have HE : Hid (Below w.heap.size w (wr.setCell ⟨w.heap.size, p, none⟩ (.int .u64 x)).drew ∧ ∃ o, Blk (wr.setCell ⟨w.heap.size, p, none⟩ (.int .u64 x)).drew w.heap.size 26 (oC o) ∧ Laid r (k + 1) o) := Lib.hid ⟨hb2.drew, _, hB2.drewN 1, hL2⟩
      clear hb hB hL hL2 hpl hol hpe hx hrank hb2 hB2 hne
      go_wp2_with (fail)
      go_region_held3 (fun W => W.cell? ⟨b, o2 + k * 2, none⟩ = some (.int .u64 x))
        (first | exact c0 | exact HK.out)
        (first
          | (go_at_call 19; (with_reducible refine (HW.out _ (by repeat' (first | (with_reducible exact Below.refl _ _) | (with_reducible assumption) | (with_reducible refine Below.drew ?_) | (with_reducible refine below_drewN' ?_ _)))).mono ?_); rintro e w5 ⟨rfl, rfl⟩))
      go_wp2_with (fail)
      go_roundg (r.length - (k + 1))
      case measure => omega
      case rel => exact ⟨HE.out.1, k + 1, rfl, by omega, by go_num, HE.out.2⟩
    · obtain rfl : k = r.length := by omega
      have i1 : ¬ (r.length : Int) < (r.length : Int) := by omega
      have ho := Laid.end_ HR.out HP.out hL
      have hlen := HP.out.length_eq
      have HE : Hid (URow w F (.returned (.slice (some ⟨w.heap.size, 0, none⟩) r.length r.length)) wr) := Lib.hid (by
        refine ⟨_, r.length, by rw [hlen], fun j u hj => ?_, hb⟩
        refine ⟨_, rfl, hB.lt, ?_⟩
        have e2 : (⟨w.heap.size, 0, none⟩ : Addr).add j = ⟨w.heap.size, j, none⟩ := by simp [Addr.add]; intro h; exact h.symm
        rw [e2, hB.cell j, ho]
        have : (oC (F.map fun x => x.1))[j]? = (kv F)[j]? := by simp only [oC, kv, List.getElem?_toArray, List.getElem?_map, Option.map_map]; rfl
        rw [this]
        exact hj)
      clear hb hB hL ho HS HR HP hlen
      go_wp2_with (fail)
      go_ret
      exact HE.out
/-- two rows that read alike are the same -/
theorem key_at {w : World} {B : Nat} {A : Option Addr} {F : List (Int × Int)} (h : Sl w B A (kv F)) (k : Nat) (hk : k < F.length) : ∃ ad, A = some ad ∧ ad.block < B ∧ w.cell? (ad.add k) = some (.int .u64 F[k].1) := by
  have := h.at_ (k := k) (by rw [kv_length]; exact hk)
  simpa [kv] using this
set_option maxRecDepth 100000 in
set_option maxHeartbeats 1600000 in
theorem rsame_any {w : World} {A A2 : Option Addr} {c c2 : Nat} {F : List (Int × Int)} (h : Sl w w.heap.size A (kv F)) (h2 : Sl w w.heap.size A2 (kv F)) (hn : F.length ≤ 8796093022208) :
    Calls Try.prog 16 #[.slice A F.length c, .slice A2 F.length c2] w fun e w' => e = .returned (.bool true) ∧ Below w.heap.size w w' := by
  have HA := Lib.hid h
  have HA2 := Lib.hid h2
  have d0 : ((F.length : Int) != (F.length : Int)) = false := by simp
  clear h h2
  go_enter Try.func16, Try.ntmps16
  go_wp2_with (fail)
  go_loopg [5] F.length (fun gk s5 wr => Below w.heap.size w wr ∧ ∃ k : Nat, gk = F.length - k ∧ k ≤ F.length ∧ s5 = .int .i64 k)
  case atStart => exact ⟨Below.refl _ _, 0, rfl, Nat.zero_le _, rfl⟩
  case round =>
    obtain ⟨hb, k, rfl, hk, rfl⟩ := hrel
    by_cases hlt : k < F.length
    · obtain ⟨ad, rfl, -, a0⟩ := key_at (HA.out.below hb) k hlt
      obtain ⟨ad2, rfl, -, a1⟩ := key_at (HA2.out.below hb) k hlt
      have i1 : (k : Int) < (F.length : Int) := by omega
      obtain ⟨x, hx⟩ : ∃ x, F[k].1 = x := ⟨_, rfl⟩
      rw [hx] at a0 a1
      have d1 : (x != x) = false := by simp
      have HB := Lib.hid hb.drew
      clear hx hb
      go_wp2_with (fail)
      go_region
      go_wp2_with (fail)
      go_roundg (F.length - (k + 1))
      case measure => omega
      case rel => exact ⟨HB.out, k + 1, rfl, by omega, by go_num⟩
    · obtain rfl : k = F.length := by omega
      have i1 : ¬ (F.length : Int) < (F.length : Int) := by omega
      have HB := Lib.hid hb
      clear hb HA HA2
      go_wp2_with (fail)
      go_ret
      exact ⟨rfl, HB.out⟩
end Go.Proofs.Ythcdppfnejfgeaa.direct
