/-
  For all rows of numbers the law DirectRanks returns true, and changes nothing that there was. No condition.
-/
import Derived.Test.YthcdppfnejfgeaaDirL
import Derived.Test.YthcdppfnejfgeaaCame
namespace Go.Proofs.Ythcdppfnejfgeaa.directRanks
open Go.RowKit law bytes only flat direct
open Go.ChangeShapes Go.WideShapes Go.ChangeAt
set_option linter.unusedVariables false

/-- numbers that came in -/
def uv (l : List Int) : List Value := l.map fun n => Value.int .u64 n
theorem uv_length (l : List Int) : (uv l).length = l.length := by simp [uv]
theorem uv_at {w : World} {B : Nat} {A : Option Addr} {l : List Int} (h : Sl w B A (uv l)) (k : Nat) (hk : k < l.length) : ∃ ad, A = some ad ∧ ad.block < B ∧ w.cell? (ad.add k) = some (.int .u64 l[k]) := by
  have := h.at_ (k := k) (by rw [uv_length]; exact hk)
  simpa [uv] using this
/-- what is there behind k puts -/
def Q (w : World) (db : Nat) (l : List Int) (k : Nat) (W : World) : Prop := ∃ T F, Dy W w.heap.size db T F ∧ F.length ≤ k ∧ (∀ j (hj : j < l.length), j < k → (fd F l[j]).isSome = true) ∧ Below w.heap.size w W
section
variable {w W : World} {db k : Nat} {l : List Int}
theorem Q.below (h : Q w db l k W) : Below w.heap.size w W := by
  obtain ⟨T, F, -, -, -, h4⟩ := h
  exact h4
theorem Q.put (h : Q w db l k W) (hk : k < l.length) (hn : l.length ≤ 17592186044416) : Calls Try.prog 9 #[.pointer (some ⟨db, 0, none⟩), .int .u64 l[k], .int .i64 k] W fun e w' => ∃ b : Bool, e = .returned (.bool b) ∧ Q w db l (k + 1) w' := by
  obtain ⟨T, F, h1, h2, h3, h4⟩ := h
  refine (put_any h1 l[k] k (by omega) h4.size).mono fun e w' ⟨he, hl⟩ => ⟨_, he, ?_⟩
  have hb := hl.below h1 h4.size
  obtain ⟨T', h'⟩ := hl.dy
  refine ⟨T', _, h', by have := putF_length F l[k] k; omega, fun j hj hjk => ?_, h4.trans hb⟩
  unfold putF
  by_cases hs : (fd F l[k]).isSome = true
  · rw [if_pos hs]
    rcases Nat.lt_or_ge j k with hlt | hge
    · exact h3 j hj hlt
    · obtain rfl : j = k := by omega
      exact hs
  · rw [if_neg hs]
    have hs2 : fd F l[k] = none := by simpa using hs
    by_cases e : l[j] = l[k]
    · rw [e, fd_ins h1.rise]; rfl
    · rcases Nat.lt_or_ge j k with hlt | hge
      · exact fd_ins_ne hs2 h1.rise e (h3 j hj hlt)
      · obtain rfl : j = k := by omega
        exact absurd rfl e
theorem Q.rank (h : Q w db l l.length W) (hk : k < l.length) (hn : l.length ≤ 17592186044416) : ∃ r : Nat, Calls Try.prog 18 #[.pointer (some ⟨db, 0, none⟩), .int .u64 l[k]] W (fun e w' => e = .returned (.int .i64 r) ∧ W = w') ∧
    Calls Try.prog 14 #[.pointer (some ⟨db, 0, none⟩), .int .i64 r] W fun e w' => e = .returned (.tuple #[.int .u64 l[k], .bool true]) ∧ W = w' := by
  obtain ⟨T, F, h1, h2, h3, h4⟩ := h
  have hr := rk_le F l[k]
  refine ⟨rk F l[k], rank_dy h1 l[k] (by omega), ?_⟩
  have h5 := at_dy h1 (rk F l[k] : Int) (by omega) (by omega)
  rw [at_rank h1.rise (h3 k hk hk)] at h5
  exact h5
end
set_option maxRecDepth 100000 in
set_option maxHeartbeats 6400000 in
theorem walk (A : Option Addr) (c : Nat) (l : List Int) (hl : l.length ≤ 17592186044416) (w : World) (hr : Sl w w.heap.size A (uv l)) : Calls Try.prog 4 #[.slice A l.length c] w fun e w' => e = .returned (.bool true) ∧ Below w.heap.size w w' := by
  have HN := Lib.hid (new_dy w)
  have HR := Lib.hid hr
  have HL := Lib.hid hl
  clear hr hl
  go_enter Try.func4, Try.ntmps4
  go_wp2_with (fail)
  refine HN.out.mono ?_
  rintro e w1 ⟨db, T, rfl, hb1, h1⟩
  have HQ0 : Hid (Q w db l 0 w1) := Lib.hid ⟨T, [], h1, by simp, fun j hj h => absurd h (Nat.not_lt_zero _), hb1⟩
  clear HN hb1 h1
  go_wp2_with (fail)
  go_loopg [4] l.length (fun gk s4 wr => ∃ k : Nat, gk = l.length - k ∧ k ≤ l.length ∧ s4 = .int .i64 k ∧ Q w db l k wr)
  case atStart => exact ⟨0, rfl, Nat.zero_le _, rfl, HQ0.out⟩
  case round =>
    clear HQ0
    obtain ⟨k, rfl, hk, rfl, hq⟩ := hrel
    have hlb := HL.out
    by_cases hlt : k < l.length
    · obtain ⟨ad, rfl, -, hc⟩ := uv_at (HR.out.below hq.below) k hlt
      have i1 : (k : Int) < (l.length : Int) := by omega
      have HP := Lib.hid (hq.put hlt HL.out)
      obtain ⟨x, hx⟩ : ∃ x, l[k] = x := ⟨_, rfl⟩
      rw [hx] at hc HP
      clear hq hx
      go_wp2_with (fail)
      refine HP.out.mono ?_
      rintro e w2 ⟨b, rfl, hq2⟩
      have HQ2 := Lib.hid hq2
      clear HP hq2
      go_wp2_with (fail)
      go_roundg (l.length - (k + 1))
      case measure => omega
      case rel => exact ⟨k + 1, rfl, by omega, by (have hb := HL.out; go_num), HQ2.out⟩
    · obtain rfl : k = l.length := by omega
      have i1 : ¬ (l.length : Int) < (l.length : Int) := by omega
      have HQ := Lib.hid hq
      clear hq
      go_wp2_with (fail)
      go_loopg [5, 6, 7] l.length (fun gk s5 s6 s7 wx => wr = wx ∧ ∃ k : Nat, gk = l.length - k ∧ k ≤ l.length ∧ s5 = .int .i64 k)
      case atStart => exact ⟨rfl, 0, rfl, Nat.zero_le _, rfl⟩
      case round =>
        obtain ⟨rfl, k, rfl, hk, rfl⟩ := hrel
        have hlb := HL.out
        by_cases hlt : k < l.length
        · obtain ⟨ad, rfl, -, hc⟩ := uv_at (HR.out.below HQ.out.below) k hlt
          have i1 : (k : Int) < (l.length : Int) := by omega
          obtain ⟨r, h1, h2⟩ := HQ.out.rank hlt HL.out
          obtain ⟨x, hx⟩ : ∃ x, l[k] = x := ⟨_, rfl⟩
          rw [hx] at hc h1 h2
          have H1 := Lib.hid h1
          have H2 := Lib.hid h2
          have d0 : (x != x) = false := by simp
          clear hx h1 h2
          go_wp2_with (fail)
          refine H1.out.mono ?_
          rintro e w2 ⟨rfl, rfl⟩
          go_wp2_with (fail)
          refine H2.out.mono ?_
          rintro e w3 ⟨rfl, rfl⟩
          clear H1 H2
          go_wp2_with (fail)
          go_roundg (l.length - (k + 1))
          case measure => omega
          case rel => exact ⟨rfl, k + 1, rfl, by omega, by (have hb := HL.out; go_num)⟩
        · obtain rfl : k = l.length := by omega
          have HB := Lib.hid HQ.out.below
          have HLV := Lib.hid (lives_any wr)
          clear HQ
          go_wp2_with (fail)
          refine HLV.out.mono ?_
          rintro e w4 ⟨rfl, hb4⟩
          have HB4 := Lib.hid (HB.out.trans (hb4.mono HB.out.size))
          clear hb4 HLV
          go_wp2_with (fail)
          go_ret
          exact ⟨rfl, HB4.out⟩
section
variable {H : Type} {enc : TypeId × Value → H} {W : World} {base b0 : Nat} {held : Bool}
theorem open_u64s {ts : List TypeId} {ds : List (DataW H)} {j : Nat} {v : Value} {d : DataW H} {p : List MemPlace} (hv : Value.okWide Try.prog W .any b0 37 v) (h : DataW.Trod enc Try.prog W 0 (fun _ => true) true 37 v d p)
    (hsz : (DataW.weightsEach Try.prog ts ds).all (· ≤ reachBytes) = true) (hj : ts[j]? = some 37) (hdj : ds[j]? = some d) :
    ∃ A c, ∃ l : List Int, v = .slice A l.length c ∧ Sl W W.heap.size A (uv l) ∧ l.length * 8 ≤ 140737488355328 := by
  obtain ⟨A, len, cap, rfl⟩ := okWide_slice Try.underlying37 hv
  obtain ⟨fuel, hf⟩ := h
  rcases open_ints Try.underlying37 Try.underlying26 (by kernel_rfl) hf with ⟨hcs, hx⟩ | ⟨a, len', cap', zs, hcs, _, hl, hm, hz, hx, hcell, hwz⟩
  · simp [Value.cells] at hcs
    obtain ⟨rfl, rfl, rfl⟩ := hcs
    exact ⟨none, 0, [], rfl, Sl.nil, by simp⟩
  · simp [Value.cells] at hcs
    obtain ⟨rfl, rfl, rfl⟩ := hcs
    injection hx with hd hp
    simp only [if_true] at hz
    have ht : (zs.take len).length = len := by simp; omega
    have hle : len ≤ cap := by omega
    refine ⟨some a, cap, zs.take len, by rw [ht], fun j u hj => ?_, ?_⟩
    · simp only [uv, List.getElem?_map, List.getElem?_take] at hj
      split at hj
      · rename_i hlt
        have hlz : j < zs.length := by omega
        have hcj := hcell j hlz
        simp only [List.getElem?_eq_getElem hlz, Option.map_some, Option.some.injEq] at hj
        subst hj
        refine ⟨a, rfl, ?_, by rw [hcj]; simp [List.getD, List.getElem?_eq_getElem hlz]⟩
        have := World.block_lt_of_cell? W _ hcj
        rwa [blk_add] at this
      · cases hj
    · subst hd
      have h2 := sized_slice hsz hj hdj Try.underlying37
      rw [show Try.prog.bytesOf 26 = 8 from by kernel_rfl] at h2
      have hr := reachBytes_lt
      simp [lits] at h2
      rw [ht]
      omega
end
theorem lifted (os : Os) (started : os.Started) (H : Type) (enc : TypeId × Value → H) :
    ReturnsInHanded {} Try.checked os 4 .any (Rows.directRanksSpec.pre6 enc Try.prog Try.f4 Rows.directRanksRow.domain false) (Rows.directRanksSpec.post enc Try.prog Try.f4 false true false false) := by
  refine lift (C := Try.checked) (by kernel_rfl) started (by kernel_rfl) Try.func4 rfl (by kernel_rfl) (by kernel_rfl) rfl Try.underlying4
    (fun ds hd => by match ds, hd with | [_], _ => exact ⟨rfl, rfl, rfl⟩)
    (ChangeSpec.witness6 (enc := enc) (C := Try.checked) false ⟨#[], #[.slice none 0 0], []⟩ 8 (by kernel_rfl) (by kernel_rfl) (by kernel_rfl) (by kernel_rfl)) ?_
  intro W base args ds before hval0 hA0 hfz hsz0
  have hval : ∀ (j : Nat) t v, Try.f4.params[j]? = some t → args[j]? = some v → Value.okWide Try.prog W .any base t v := hval0
  have hA : DataW.TrodAll enc Try.prog W 0 (fun _ => true) true Try.f4.params.toList args.toList ds before := hA0
  have hsz : (DataW.weightsEach Try.prog Try.f4.params.toList ds).all (· ≤ reachBytes) = true := hsz0
  rw [Try.params4] at hA hval hsz
  obtain ⟨v0, vs0, d0, ds0, p0, q0, hargs, rfl, rfl, h0, r0⟩ := trodAll_cons hA
  obtain ⟨rfl, rfl, rfl⟩ := trodAll_nil r0
  obtain rfl : args = #[v0] := by cases args; simp_all
  obtain ⟨A, c, l, rfl, hr, hm⟩ := open_u64s (hval 0 37 v0 rfl rfl) h0 hsz (j := 0) rfl rfl
  exact walk A c l (by omega) W hr

theorem proved : Rows.DirectRanksSaid :=
  OpenClaim.holds_of_wide 4 Try.f4 rfl rfl rfl rfl rfl rfl rfl ⟨rfl, rfl, rfl, rfl, rfl⟩ rfl rfl rfl rfl rfl (by kernel_rfl) Try.func4 (by kernel_rfl)
    (of_decide_eq_true (by kernel_rfl)) (by unfold Func.isWrapper; first | (rw [if_pos (by decide +kernel)]; kernel_rfl) | (rw [if_neg (by decide +kernel)]; exact ⟨rfl, rfl⟩))
    (fun os started H enc _ => lifted os started H enc)
#print axioms proved
end Go.Proofs.Ythcdppfnejfgeaa.directRanks
