/-
  The contracts of the document's own order of things, and of object.Clone.
-/
import Derived.Test.YtaickhhbdbbmjaaCmp
namespace Go.Proofs.Ytaickhhbdbbmjaa.obj
open Go.RowKit law bytes nums ord
set_option linter.unusedVariables false

theorem less_str (a b : ByteArray) : Op.bytesLess a.toList b.toList = decide (cmpL cmpC (tl a) (tl b) < 0) := by
  rw [less_lib, Lib.toList_data, Lib.toList_data]
  rfl
set_option maxHeartbeats 1600000 in
theorem less_any (A A' : Option Addr) (c c' B B' : Nat) (x y : Thing) (w : World) (hx : x.vec.length ≤ 281474976710656) (hB : B ≤ w.heap.size) (hB' : B' ≤ w.heap.size) (hs : Sl w B A (iv x.vec)) (hs' : Sl w B' A' (iv y.vec)) :
    Calls Try.prog 30 #[.agg #[.int .i64 x.tag, .slice A x.vec.length c, .string x.str], .agg #[.int .i64 y.tag, .slice A' y.vec.length c', .string y.str]] w (Gives (.bool (lessO x y)) w) := by
  have hO : cmpO x y = thn (cmpI x.tag y.tag) (thn (cmpN x.vec.length y.vec.length) (thn (cmpL cmpI x.vec y.vec) (cmpL cmpC (tl x.str) (tl y.str)))) := rfl
  have hI : ∀ a b : Int, cmpI a b = if a < b then -1 else if a > b then 1 else 0 := fun _ _ => rfl
  obtain ⟨hb, hba, hbb⟩ := two_box w 29 #[.int .i64 x.tag, .slice A x.vec.length c, .string x.str] #[.int .i64 y.tag, .slice A' y.vec.length c', .string y.str]
  by_cases z1 : x.tag = y.tag
  case neg =>
    have hR : lessO x y = decide (x.tag < y.tag) := by
      unfold lessO
      rw [hO]; unfold thn
      rw [if_neg (fun h => z1 ((cmpI_tot.zero _ _).1 h)), hI]
      by_cases h : x.tag < y.tag
      · simp [h]
      · have : x.tag > y.tag := by omega
        simp [h, this]
    have d : (x.tag == y.tag) = false := by simpa using z1
    have d' : (x.tag != y.tag) = true := by simpa using z1
    have HR := Lib.hid hR
    clear hR hO z1 hba hbb
    go_enter Try.func30, Try.ntmps30
    go_wp2_with (fail)
    go_ret
    rw [HR.out]
    exact ⟨rfl, hb⟩
  rw [(cmpI_tot.zero _ _).2 z1] at hO
  have e1 : (x.tag == y.tag) = true := by simpa using z1
  have e1' : (x.tag != y.tag) = false := by simpa using z1
  clear z1
  by_cases z2 : x.vec.length = y.vec.length
  case neg =>
    have hR : lessO x y = decide (x.vec.length < y.vec.length) := by
      unfold lessO
      rw [hO]; unfold thn
      rw [if_pos rfl, if_neg (fun h => z2 ((cmpN_tot.zero _ _).1 h))]
      unfold cmpN
      rw [hI]
      by_cases h : x.vec.length < y.vec.length
      · have : (x.vec.length : Int) < (y.vec.length : Int) := by omega
        simp [h]
      · have : (x.vec.length : Int) > (y.vec.length : Int) := by omega
        simp [h]
        omega
    have hR' : lessO x y = decide ((x.vec.length : Int) < (y.vec.length : Int)) := by rw [hR]; simp
    have d : ((x.vec.length : Int) == (y.vec.length : Int)) = false := by simp; omega
    have d' : ((x.vec.length : Int) != (y.vec.length : Int)) = true := by simp; omega
    have HR := Lib.hid hR
    have HR' := Lib.hid hR'
    clear hR hR' hO z2 hba hbb
    go_enter Try.func30, Try.ntmps30
    go_wp2_with (fail)
    go_ret
    exact ⟨by first | (rw [HR'.out]; rfl) | (rw [HR.out]; rfl), hb⟩
  rw [(cmpN_tot.zero _ _).2 z2] at hO
  have hO : cmpO x y = thn (cmpL cmpI x.vec y.vec) (cmpL cmpC (tl x.str) (tl y.str)) := by rw [hO]; unfold thn; rw [if_pos rfl, if_pos rfl]
  rw [← z2] at hb hba hbb ⊢
  have HL := Lib.hid z2
  clear z2
  have hls := less_str x.str y.str
  have HLS := Lib.hid hls
  clear hls
  have hs1 : Sl ((w.alloc (.cells #[.int .i64 x.tag, .slice A x.vec.length c, .string x.str] 29)).alloc (.cells #[.int .i64 y.tag, .slice A' x.vec.length c', .string y.str] 29)) B A (iv x.vec) := (hs.alloc hB _).alloc (by simp; omega) _
  have hs2 : Sl ((w.alloc (.cells #[.int .i64 x.tag, .slice A x.vec.length c, .string x.str] 29)).alloc (.cells #[.int .i64 y.tag, .slice A' x.vec.length c', .string y.str] 29)) B' A' (iv y.vec) := (hs'.alloc hB' _).alloc (by simp; omega) _
  have HO := Lib.hid hO
  clear hO
  go_enter Try.func30, Try.ntmps30
  go_wp2_with (fail)
  obtain ⟨V, hV⟩ : ∃ V, V = ((w.alloc (.cells #[.int .i64 x.tag, .slice A x.vec.length c, .string x.str] 29)).alloc (.cells #[.int .i64 y.tag, .slice A' x.vec.length c', .string y.str] 29)) := ⟨_, rfl⟩
  rw [← hV] at hs1 hs2 hb hba hbb ⊢
  have HB := Lib.hid hb
  clear hV hs hs' hB hB' hb
  obtain ⟨c0, c1, c2, cf⟩ := cells3 hba
  obtain ⟨d0, d1, d2, df⟩ := cells3 hbb
  generalize w.heap.size = g at hba hbb c0 c1 c2 cf d0 d1 d2 df ⊢
  go_loopw [5] (fun i wr => ∃ k j : Nat, k ≤ x.vec.length ∧ i = .int .i64 k ∧ Alike x.vec y.vec k ∧ wr = V.drewN j) (fun i _ => x.vec.length - (intOf i).toNat)
  case atStart => exact ⟨0, 0, Nat.zero_le _, rfl, Alike.zero, rfl⟩
  case round =>
    obtain ⟨k, j, hk, rfl, HT, rfl⟩ := hrel
    by_cases hlt : k < x.vec.length
    · have hlm : k < y.vec.length := by have := HL.out; omega
      obtain ⟨ad, rfl, -, hc⟩ := Sl.num hs1 hlt
      obtain ⟨ad', rfl, -, hc'⟩ := Sl.num hs2 hlm
      by_cases he : x.vec[k] = y.vec[k]
      · have HE := Lib.hid he
        rw [← he] at hc'
        clear he hs1 hs2
        go_wp2
        go_quiet (fail)
        go_wp2
        go_roundw
        case rel => exact ⟨k + 1, _, by omega, by go_num, HT.step hlt hlm HE.out, rfl⟩
        case measure => simp [intOf]; omega
      · have hne : cmpI x.vec[k] y.vec[k] ≠ 0 := fun h => he ((cmpI_tot.zero _ _).1 h)
        have hR : lessO x y = decide (x.vec[k] < y.vec[k]) := by
          unfold lessO
          rw [HO.out]; unfold thn
          rw [cmpL_at cmpI_tot _ _ k hlt hlm HT hne, if_neg hne, hI]
          by_cases h : x.vec[k] < y.vec[k]
          · simp [h]
          · have : x.vec[k] > y.vec[k] := by omega
            simp [h, this]
        have h1 : (x.vec[k] == y.vec[k]) = false := by simpa using he
        have h2 : (x.vec[k] != y.vec[k]) = true := by simpa using he
        have HR := Lib.hid hR
        clear he hs1 hs2 hne hR
        go_wp2
        go_quiet (fail)
        go_wp2
        go_quiet (fail)
        go_wp2
        go_ret
        rw [HR.out]
        exact ⟨rfl, below_drewN' (below_drewN' (below_drewN' HB.out _) _) _⟩
    · have hR : lessO x y = decide (cmpL cmpC (tl x.str) (tl y.str) < 0) := by
        unfold lessO
        rw [HO.out]; unfold thn
        rw [if_pos (((cmpL_tot cmpI_tot).zero _ _).2 (HT.all HL.out.symm (by omega)))]
      have HR := Lib.hid hR
      clear hR
      go_wp2
      go_ret
      rw [HR.out, HLS.out]
      exact ⟨rfl, below_drewN' HB.out _⟩
end Go.Proofs.Ytaickhhbdbbmjaa.obj
