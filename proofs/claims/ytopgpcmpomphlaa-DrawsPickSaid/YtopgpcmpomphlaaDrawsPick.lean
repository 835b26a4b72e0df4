/-
  For all rows l and most of ints the law DrawsPick returns true, and changes nothing that there was. No condition.
-/
import Derived.Test.YtopgpcmpomphlaaDrs
namespace Go.Proofs.Ytopgpcmpomphlaa.drawsPick
open Go.RowKit law bytes only draws
open Go.ChangeShapes Go.WideShapes Go.ChangeAt
set_option linter.unusedVariables false

/-- where the law stands: a source at block g of which u were used -/
def Q (w : World) (g : Nat) (l : List Int) (u : Nat) (W : World) : Prop := So W g l u ∧ w.heap.size ≤ g ∧ Below w.heap.size w W
section
variable {w W W' : World} {g u : Nat} {l : List Int}
theorem Q.drewN (h : Q w g l u W) (m : Nat) : Q w g l u (W.drewN m) := ⟨h.1.drewN m, h.2.1, below_drewN' h.2.2 m⟩
theorem Q.pick (h : Q w g l u W) (n : Int) (hn : I64 n) (hl : l.length ≤ 17592186044416) (hi : ∀ x ∈ l, I64 x) (hk : u < 17592186044416) : Calls Try.prog 8 #[.pointer (some ⟨g, 0, none⟩), .int .i64 n] W fun e w' => e = .returned (.int .i64 (md (nx l u) n)) ∧ Q w g l (on u n) w' :=
  (pick_any n hn hl hi hk W h.1).mono fun e w' ⟨he, ho, h2⟩ => ⟨he, h2, h.2.1, h.2.2.trans (ho.below h.2.2.size fun i e => by have e : i = g := e; have := h.2.1; omega)⟩
end
set_option maxRecDepth 100000 in
set_option maxHeartbeats 6400000 in
theorem walk (A : Option Addr) (c : Nat) (l : List Int) (hl : l.length ≤ 17592186044416) (hi : ∀ x ∈ l, I64 x) (A2 : Option Addr) (c2 : Nat) (most : List Int) (hl2 : most.length ≤ 17592186044415) (hi2 : ∀ x ∈ most, I64 x) (w : World) (hr : Sl w w.heap.size A (nv l)) (hr2 : Sl w w.heap.size A2 (nv most)) :
    Calls Try.prog 3 #[.slice A l.length c, .slice A2 most.length c2] w fun e w' => e = .returned (.bool true) ∧ Below w.heap.size w w' := by
  have HN := Lib.hid (new_any A c l hl w hr)
  have HA : Hid (∀ W g u, Q w g l u W → u ≤ most.length → Calls Try.prog 7 #[.slice A l.length c, .int .i64 u] W fun e w' => e = .returned (.int .i64 (nx l u)) ∧ W = w') := Lib.hid fun W g u hq hu =>
    at_any u w.heap.size hl (by omega) W (hr.below hq.2.2)
  have HX : Hid (∀ W g u k, Q w g l u W → ∀ hk : k < most.length, ∃ ad, A2 = some ad ∧ W.cell? (ad.add k) = some (.int .i64 most[k])) := Lib.hid fun W g u k hq hk => by
    obtain ⟨ad, h1, -, h2⟩ := nv_at (hr2.below hq.2.2) k hk
    exact ⟨ad, h1, h2⟩
  have HP : Hid (∀ W g u n, Q w g l u W → I64 n → u < most.length → Calls Try.prog 8 #[.pointer (some ⟨g, 0, none⟩), .int .i64 n] W fun e w' => e = .returned (.int .i64 (md (nx l u) n)) ∧ Q w g l (on u n) w') := Lib.hid fun W g u n hq hn hu =>
    hq.pick n hn hl hi (by omega)
  have HM : Hid (∀ W u n, I64 n → Calls Try.prog 6 #[.int .i64 (nx l u), .int .i64 n] W fun e w' => e = .returned (.int .i64 (md (nx l u) n)) ∧ W = w') := Lib.hid fun W u n hn => rmod_any _ _ (nx_i64 hi u) hn W
  have HI := Lib.hid hi2
  have HL := Lib.hid hl2
  clear hr hr2 hi hi2 hl hl2
  go_enter Try.func3, Try.ntmps3
  go_wp2_with (fail)
  refine HN.out.mono ?_
  rintro e w1 ⟨g, rfl, hg, h1, hb1⟩
  have HQ0 : Hid (Q w g l 0 w1) := Lib.hid ⟨h1, hg, hb1⟩
  clear HN hg hb1 h1
  go_wp2_with (fail)
  go_loopg [7, 8] most.length (fun gk s7 s8 wr => ∃ k u : Nat, gk = most.length - k ∧ k ≤ most.length ∧ u ≤ k ∧ s7 = .int .i64 u ∧ s8 = .int .i64 k ∧ Q w g l u wr)
  case atStart => exact ⟨0, 0, rfl, Nat.zero_le _, Nat.le_refl _, rfl, rfl, HQ0.out⟩
  case round =>
    clear HQ0
    obtain ⟨k, u, rfl, hk, hu, rfl, rfl, hq⟩ := hrel
    have hlb := HL.out
    by_cases hlt : k < most.length
    · obtain ⟨ad, rfl, hc⟩ := HX.out wr g u k hq hlt
      have i1 : (k : Int) < (most.length : Int) := by omega
      have hn := HI.out _ (List.getElem_mem hlt)
      obtain ⟨n, hx⟩ : ∃ n, most[k] = n := ⟨_, rfl⟩
      rw [hx] at hc hn
      have HAW : Hid (∀ m, Calls Try.prog 7 #[.slice A l.length c, .int .i64 u] (wr.drewN m) fun e w' => e = .returned (.int .i64 (nx l u)) ∧ wr.drewN m = w') := Lib.hid fun m => HA.out _ g u (hq.drewN m) (by omega)
      have HMW := Lib.hid (fun W => HM.out W u n hn)
      have HPW := Lib.hid (fun m => HP.out (wr.drewN m) g u n (hq.drewN m) hn (by omega))
      have HXW : Hid (∀ W u, Q w g l u W → W.cell? (ad.add k) = some (.int .i64 n)) := Lib.hid fun W u hq => by
        obtain ⟨ad2, e, h⟩ := HX.out W g u k hq hlt
        injection e with e
        rw [e, ← hx]; exact h
      generalize nx l u = x at HAW HMW HPW
      generalize md x n = y at HMW HPW
      have y0 : (y != y) = false := by simp
      clear hx hq
      go_wp2_with (fail)
      go_quiet (first | (go_at_call 7; first | exact quiet0 (HAW.out _) | exact quietA (HAW.out _)) | (go_at_call 6; first | exact quiet0 (HMW.out _) | exact quietA (HMW.out _)))
      go_wp2_with (fail)
      refine (HPW.out _).mono ?_
      rintro e w2 ⟨rfl, hq2⟩
      have hc2 := HXW.out w2 _ hq2
      have HQ2 := Lib.hid hq2
      clear HAW HMW HPW HXW hq2 hc
      go_wp2_with (fail)
      refine (pick_none _ _).mono ?_
      rintro e w3 ⟨rfl, rfl⟩
      have HU := Lib.hid (used_any w2 HQ2.out.1)
      by_cases hlow : n < 1
      · rw [on_low hlow] at HU
        have HQ3 : Hid (Q w g l u w2) := Lib.hid (by have h := HQ2.out; rwa [on_low hlow] at h)
        have i2 : ¬ 1 ≤ n := by omega
        have u0 : ((u : Int) != (u : Int)) = false := by simp
        go_wp2_with (fail)
        refine HU.out.mono ?_
        rintro e w3 ⟨rfl, rfl⟩
        go_wp2_with (fail)
        refine (used_none _).mono ?_
        rintro e w3 ⟨rfl, rfl⟩
        go_wp2_with (fail)
        go_roundg (most.length - (k + 1))
        case measure => omega
        case rel => exact ⟨k + 1, u, rfl, by omega, by omega, rfl, by (have hb := HL.out; go_num), HQ3.out⟩
      · rw [on_pos hlow] at HU
        have HQ3 : Hid (Q w g l (u + 1) w2) := Lib.hid (by have h := HQ2.out; rwa [on_pos hlow] at h)
        have i2 : 1 ≤ n := by omega
        have u0 : (((u + 1 : Nat) : Int) != ((u + 1 : Nat) : Int)) = false := by simp
        go_wp2_with (fail)
        refine HU.out.mono ?_
        rintro e w3 ⟨rfl, rfl⟩
        go_wp2_with (fail)
        refine (used_none _).mono ?_
        rintro e w3 ⟨rfl, rfl⟩
        go_wp2_with (fail)
        go_roundg (most.length - (k + 1))
        case measure => omega
        case rel => exact ⟨k + 1, u + 1, rfl, by omega, by omega, by (have hb := HL.out; go_num), by (have hb := HL.out; go_num), HQ3.out⟩
    · obtain rfl : k = most.length := by omega
      have i1 : ¬ (most.length : Int) < (most.length : Int) := by omega
      have HLV := Lib.hid (lives_any wr)
      have HB := Lib.hid hq.2.2
      clear hq
      go_wp2_with (fail)
      refine HLV.out.mono ?_
      rintro e w4 ⟨rfl, hb4⟩
      have HB4 := Lib.hid (HB.out.trans (hb4.mono HB.out.size))
      clear hb4 HLV
      go_wp2_with (fail)
      go_ret
      exact ⟨rfl, HB4.out⟩
section
variable {H : Type} {enc : TypeId × Value → H} {W : World} {base b0 : Nat} {held : Bool}
/-- a row of ints that came in -/
theorem open_i64s {ts : List TypeId} {ds : List (DataW H)} {j : Nat} {v : Value} {d : DataW H} {p : List MemPlace} (hv : Value.okWide Try.prog W .any b0 22 v) (h : DataW.Trod enc Try.prog W 0 (fun _ => true) true 22 v d p)
    (hsz : (DataW.weightsEach Try.prog ts ds).all (· ≤ reachBytes) = true) (hj : ts[j]? = some 22) (hdj : ds[j]? = some d) :
    ∃ A c, ∃ l : List Int, v = .slice A l.length c ∧ Sl W W.heap.size A (nv l) ∧ l.length * 8 ≤ 140737488351232 ∧ ∀ x ∈ l, I64 x := by
  obtain ⟨A, len, cap, rfl⟩ := okWide_slice Try.underlying22 hv
  obtain ⟨fuel, hf⟩ := h
  rcases open_ints Try.underlying22 Try.underlying3 (by kernel_rfl) hf with ⟨hcs, hx⟩ | ⟨a, len', cap', zs, hcs, _, hl, hm, hz, hx, hcell, hwz⟩
  · simp [Value.cells] at hcs
    obtain ⟨rfl, rfl, rfl⟩ := hcs
    exact ⟨none, 0, [], rfl, Sl.nil, by simp, by simp⟩
  · simp [Value.cells] at hcs
    obtain ⟨rfl, rfl, rfl⟩ := hcs
    injection hx with hd hp
    simp only [if_true] at hz
    have ht : (zs.take len).length = len := by simp; omega
    have hle : len ≤ cap := by omega
    refine ⟨some a, cap, zs.take len, by rw [ht], fun j u hj => ?_, ?_, fun x hx => ?_⟩
    · simp only [nv, List.getElem?_map, List.getElem?_take] at hj
      split at hj
      · rename_i hlt
        have hlz : j < zs.length := by omega
        have hcj := hcell j hlz
        simp only [List.getElem?_eq_getElem hlz, Option.map_some, Option.some.injEq] at hj
        subst hj
        refine ⟨a, rfl, ?_, by rw [hcj]; simp [List.getD, List.getElem?_eq_getElem hlz]⟩
        have := World.block_lt_of_cell? W _ hcj
        rwa [blk_add] at this
      · cases hj
    · subst hd
      have h2 := sized_slice hsz hj hdj Try.underlying22
      rw [show Try.prog.bytesOf 3 = 8 from by kernel_rfl] at h2
      have hr : reachBytes = 140737488351232 := by decide
      simp [lits] at h2
      rw [ht]
      omega
    · have hw := hwz x (List.mem_of_mem_take hx)
      simpa [I64, Lit.wf, IntKind.min, IntKind.max, IntKind.signed, IntKind.bits] using hw
end
theorem lifted (os : Os) (started : os.Started) (H : Type) (enc : TypeId × Value → H) :
    ReturnsInHanded {} Try.checked os 3 .any (Rows.drawsPickSpec.pre6 enc Try.prog Try.f3 Rows.drawsPickRow.domain false) (Rows.drawsPickSpec.post enc Try.prog Try.f3 false true false false) := by
  refine lift (C := Try.checked) (by kernel_rfl) started (by kernel_rfl) Try.func3 rfl (by kernel_rfl) (by kernel_rfl) rfl Try.underlying4
    (fun ds hd => by match ds, hd with | [_, _], _ => exact ⟨rfl, rfl, rfl⟩)
    (ChangeSpec.witness6 (enc := enc) (C := Try.checked) false ⟨#[], #[.slice none 0 0, .slice none 0 0], []⟩ 8 (by kernel_rfl) (by kernel_rfl) (by kernel_rfl) (by kernel_rfl)) ?_
  intro W base args ds before hval0 hA0 hfz hsz0
  have hval : ∀ (j : Nat) t v, Try.f3.params[j]? = some t → args[j]? = some v → Value.okWide Try.prog W .any base t v := hval0
  have hA : DataW.TrodAll enc Try.prog W 0 (fun _ => true) true Try.f3.params.toList args.toList ds before := hA0
  have hsz : (DataW.weightsEach Try.prog Try.f3.params.toList ds).all (· ≤ reachBytes) = true := hsz0
  rw [Try.params3] at hA hval hsz
  obtain ⟨v0, vs0, d0, ds0, p0, q0, hargs, rfl, rfl, h0, r0⟩ := trodAll_cons hA
  obtain ⟨v1, vs1, d1, ds1, p1, q1, rfl, rfl, rfl, h1, r1⟩ := trodAll_cons r0
  obtain ⟨rfl, rfl, rfl⟩ := trodAll_nil r1
  obtain rfl : args = #[v0, v1] := by cases args; simp_all
  obtain ⟨A, c, l, rfl, hr, hm, hi⟩ := open_i64s (hval 0 22 v0 rfl rfl) h0 hsz (j := 0) rfl rfl
  obtain ⟨A2, c2, most, rfl, hr2, hm2, hi2⟩ := open_i64s (hval 1 22 v1 rfl rfl) h1 hsz (j := 1) rfl rfl
  exact walk A c l (by omega) hi A2 c2 most (by omega) hi2 W hr hr2

theorem proved : Rows.DrawsPickSaid :=
  OpenClaim.holds_of_wide 3 Try.f3 rfl rfl rfl rfl rfl rfl rfl ⟨rfl, rfl, rfl, rfl, rfl⟩ rfl rfl rfl rfl rfl (by kernel_rfl) Try.func3 (by kernel_rfl)
    (of_decide_eq_true (by kernel_rfl)) (by unfold Func.isWrapper; first | (rw [if_pos (by decide +kernel)]; kernel_rfl) | (rw [if_neg (by decide +kernel)]; exact ⟨rfl, rfl⟩))
    (fun os started H enc _ => lifted os started H enc)
#print axioms proved
end Go.Proofs.Ytopgpcmpomphlaa.drawsPick
