/-
  The document's own tree: Depth.
-/
import Derived.Test.YtaamlidflfdjkaaBkC
import Derived.Test.YtaamlidflfdjkaaBkI
namespace Go.Proofs.Ytaamlidflfdjkaa.bk
open Go.RowKit Go.WideShapes law bytes only flat nums ord obj metric tab
open aro (Kept)
open Go.Maps Go.ChangeAt
set_option linter.unusedVariables false
set_option maxRecDepth 100000
def dp (L : List Bn) (i : Nat) : Nat := (deps L).getD i 0
theorem deps_app (A B : List Bn) : ∃ R, deps (A ++ B) = deps A ++ R := by
  have key : ∀ (B : List Bn) (ds : List Nat), ∃ R, B.foldl (fun ds b => ds ++ [dstep ds b]) ds = ds ++ R := by
    intro B
    induction B with
    | nil => intro ds; exact ⟨[], by simp⟩
    | cons b B ih =>
      intro ds
      obtain ⟨R, hR⟩ := ih (ds ++ [dstep ds b])
      exact ⟨dstep ds b :: R, by rw [List.foldl_cons, hR]; simp⟩
  obtain ⟨R, hR⟩ := key B (deps A)
  refine ⟨R, ?_⟩
  rw [← hR]
  unfold deps
  rw [List.foldl_append]
theorem dp_at {L : List Bn} {i : Nat} {b : Bn} (hb : L[i]? = some b) : dp L i = dstep (deps (L.take i)) b ∧ L.take (i + 1) = L.take i ++ [b] := by
  have hi := (List.getElem?_eq_some_iff.1 hb).1
  have e : L.take (i + 1) = L.take i ++ [b] := by rw [List.take_add_one, hb]; rfl
  refine ⟨?_, e⟩
  obtain ⟨R, hR⟩ := deps_app (L.take (i + 1)) (L.drop (i + 1))
  rw [List.take_append_drop, e, deps_snoc] at hR
  have hl : (deps (L.take i)).length = i := by rw [deps_length, List.length_take]; omega
  unfold dp
  rw [hR, List.getD_eq_getElem?_getD, List.append_assoc, List.getElem?_append_right (by omega), hl]
  simp
theorem dp_low {L : List Bn} {i p : Nat} (hp : p < i) (hi : i ≤ L.length) : (deps (L.take i)).getD p 0 = dp L p := by
  obtain ⟨R, hR⟩ := deps_app (L.take i) (L.drop i)
  rw [List.take_append_drop] at hR
  have hl : (deps (L.take i)).length = i := by rw [deps_length, List.length_take]; omega
  unfold dp
  rw [hR, List.getD_eq_getElem?_getD, List.getD_eq_getElem?_getD, List.getElem?_append_left (by omega)]
theorem dp_root {L : List Bn} {i : Nat} {b : Bn} (hb : L[i]? = some b) (hp : b.par < 0) : dp L i = 1 := by
  rw [(dp_at hb).1]
  unfold dstep
  rw [if_neg (by omega)]
theorem dp_step {L : List Bn} {i p : Nat} {b : Bn} (hb : L[i]? = some b) (hp : b.par = (p : Int)) (hpi : p < i) : dp L i = dp L p + 1 := by
  have hi := (List.getElem?_eq_some_iff.1 hb).1
  rw [(dp_at hb).1]
  unfold dstep
  rw [if_pos (by omega), hp]
  show 1 + (deps (L.take i)).getD p 0 = _
  rw [dp_low hpi (by omega)]
  omega
theorem depth_next {L : List Bn} {i : Nat} {b : Bn} (hb : L[i]? = some b) : depth (L.take (i + 1)) = max (depth (L.take i)) (dp L i) := by
  rw [(dp_at hb).2, depth_snoc, (dp_at hb).1]
theorem dp_le {L : List Bn} {i : Nat} (hi : i < L.length) : dp L i ≤ L.length := by
  unfold dp
  rw [List.getD_eq_getElem?_getD, List.getElem?_eq_getElem (by rw [deps_length]; exact hi)]
  exact deps_le L _ (List.getElem_mem _)
section
variable {w w' w1 W W' : World} {i k : Nat} {n id : Int} {l l' : List Nd} {A A' : Option Addr} {c c' g : Nat}
set_option maxHeartbeats 3200000 in
theorem rbdepth_any (hT : Tree n (l.map bn)) (hs : Sl w w.heap.size A (l.flatMap bkE)) (hl : l.length ≤ 1048577) :
    Calls Try.prog 19 #[.slice A l.length c] w fun e w' => e = .returned (.int .i64 ((depth (l.map bn) : Nat) : Int)) ∧ w = w' := by
  obtain ⟨L, hL⟩ : ∃ L, L = l.map bn := ⟨_, rfl⟩
  rw [← hL] at hT ⊢
  have hLl : L.length = l.length := by rw [hL, List.length_map]
  have hat : ∀ k (hk : k < l.length), L[k]? = some (bn l[k]) := fun k hk => by rw [hL, List.getElem?_map, List.getElem?_eq_getElem hk]; rfl
  have hd0 : depth (L.take 0) = 0 := rfl
  have HS := Lib.hid hs
  have HT := Lib.hid (And.intro hT (And.intro hLl hat))
  have HD0 := Lib.hid hd0
  have hl63 : (l.length : Int) < 9223372036854775807 := by omega
  clear hs hT hL hLl hat hd0
  go_enter Try.func19, Try.ntmps19
  go_wp2_with (fail)
  go_loopg [3, 4] l.length (fun gk s3 s4 wr => ∃ i : Nat, gk = l.length - i ∧ i ≤ l.length ∧ s3 = .int .i64 ((depth (L.take i) : Nat) : Int) ∧ s4 = .int .i64 i ∧ w = wr)
  case atStart => exact ⟨0, rfl, Nat.zero_le _, by rw [HD0.out]; rfl, rfl, rfl⟩
  case round =>
    clear HD0
    obtain ⟨i, rfl, hi, rfl, rfl, rfl⟩ := hrel
    by_cases hlt : i < l.length
    · have i1 : (i : Int) < (l.length : Int) := by omega
      have hde := depth_le (L.take i)
      rw [List.length_take] at hde
      have hde2 : depth (L.take i) ≤ i := by omega
      have hdl := dp_le (L := L) (i := i) (by rw [HT.out.2.1]; exact hlt)
      rw [HT.out.2.1] at hdl
      have HNX := Lib.hid (depth_next (HT.out.2.2 i hlt))
      obtain ⟨d0, hd0⟩ : ∃ d0, d0 = depth (L.take i) := ⟨_, rfl⟩
      rw [← hd0] at hde2 HNX ⊢
      obtain ⟨di, hdi⟩ : ∃ di, di = dp L i := ⟨_, rfl⟩
      rw [← hdi] at hdl HNX
      have HDI := Lib.hid hdi
      clear hde hd0 hdi
      go_wp2_with (fail)
      go_loopg [5, 6] i (fun gk s5 s6 wr => ∃ n k : Nat, gk = k ∧ k < l.length ∧ s5 = .int .i64 n ∧ s6 = .int .i64 k ∧ n + dp L k = 1 + di ∧ w = wr)
      case atStart => exact ⟨1, i, rfl, by omega, rfl, rfl, by rw [HDI.out], rfl⟩
      case round =>
        obtain ⟨n, k, hgk, hk, rfl, rfl, hn, rfl⟩ := hrel
        obtain ⟨b, o, rfl, hb, hc⟩ := bkAt HS.out hk
        have c5 : w.cell? ⟨b, o + k * 7 + 5, none⟩ = some (.int .i64 l[k].par) := hc 5 (by omega)
        have hkL := HT.out.2.2 k hk
        obtain ⟨hp1, hp2⟩ := HT.out.1.par k _ hkL
        have hpe : (bn l[k]).par = l[k].par := rfl
        have k1 : (k : Int) < (l.length : Int) := by omega
        have hst : ∀ p : Nat, l[k].par = (p : Int) → dp L k = dp L p + 1 ∧ p < k := fun p hp => by
          have h0 : p < k := by rw [hpe, hp] at hp1; omega
          exact ⟨dp_step hkL (by rw [hpe, hp]) h0, h0⟩
        have hst2 : l[k].par < 0 → dp L k = 1 := fun hp => dp_root hkL (by rw [hpe]; exact hp)
        rw [hpe] at hp1 hp2
        clear hc hkL hpe
        generalize l[k].par = q at c5 hp1 hp2 hst hst2
        by_cases hp : 0 ≤ q
        · obtain ⟨p, rfl⟩ : ∃ p : Nat, q = (p : Int) := ⟨q.toNat, by omega⟩
          obtain ⟨h5, h6⟩ := hst p rfl
          rw [h5] at hn
          have HNN : Hid (n + 1 + dp L p = 1 + di) := Lib.hid (by omega)
          have hn2 : n ≤ di := by omega
          have p0 : (0 : Int) ≤ (p : Int) := by omega
          clear hst hst2 h5 hn hp hp1 hp2
          go_wp2_with (fail)
          go_roundg p
          case measure => omega
          case rel => exact ⟨n + 1, p, rfl, by omega, by go_num, rfl, HNN.out, rfl⟩
        · have hp0 : q < 0 := by omega
          have hpd : decide (0 ≤ q) = false := by simpa using hp0
          have hn2 : n = di := by have := hst2 hp0; omega
          subst hn2
          clear hst hst2 hn hp hp1 hp2
          go_wp2_with (fail)
          go_roundg (l.length - (i + 1))
          case measure => omega
          case rel => exact ⟨i + 1, rfl, by omega, by rw [HNX.out, show ((max d0 n : Nat) : Int) = max (d0 : Int) (n : Int) by omega], by go_num, rfl⟩
    · obtain rfl : i = l.length := by omega
      have i1 : ¬ (l.length : Int) < (l.length : Int) := by omega
      have HE : Hid (depth (L.take l.length) = depth L) := Lib.hid (by rw [List.take_of_length_le (by have := HT.out.2.1; omega)])
      go_wp2_with (fail)
      go_ret
      exact ⟨by rw [← HE.out]; rfl, rfl⟩
end
end Go.Proofs.Ytaamlidflfdjkaa.bk
