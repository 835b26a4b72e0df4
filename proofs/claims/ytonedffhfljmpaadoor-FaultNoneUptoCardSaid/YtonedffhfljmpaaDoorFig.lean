/-
  The document's numbers as figures: waywiserref04.Num is the library's numeral.
-/
import Derived.Test.YtonedffhfljmpaaDoorStrc
namespace Go.Proofs.YtonedffhfljmpaaDoor.strc
open Go.RowKit Go.Lib Go.Sort law bytes
set_option linter.unusedVariables false

theorem ret_str {a b : ByteArray} (h : a = b) : Ending.returned (.string a) = .returned (.string b) := by rw [h]
theorem run_cat (a b : ByteArray) (h : a.size + b.size ≤ 9223372036854775807) (W : World) : (Op.stringOp .add a b).run Tryd.prog W = .ok (.string (a ++ b)) W := by
  have h' : ¬ ((a.size + b.size : Nat) : Int) > IntKind.i64.max := by simp [IntKind.max, IntKind.signed, IntKind.bits]; omega
  simp only [Op.stringOp]
  rw [if_neg h']
  rfl
theorem str_app (l m : List UInt8) : (⟨l.toArray⟩ : ByteArray) ++ ⟨m.toArray⟩ = ⟨(l ++ m).toArray⟩ := by
  apply ByteArray.ext
  rw [ByteArray.data_append]
  simp
/-- the last figure -/
def fig (u : Nat) : UInt8 := UInt8.ofNat (48 + u % 10)
theorem fig_val (u : Nat) : ((fig u).toNat : Int) = 48 + (u : Int) % 10 := by unfold fig; rw [UInt8.toNat_ofNat']; omega
theorem digit_text (w : World) (u : Nat) : (convert 59 9 (.slice (some ⟨w.heap.size, 0, none⟩) 1 1)).run Tryd.prog (w.alloc (.cells #[.int .u8 (48 + (u : Int) % 10)] 5)) = .ok (.string ⟨[fig u].toArray⟩) (w.alloc (.cells #[.int .u8 (48 + (u : Int) % 10)] 5)) :=
  run_convert_bytes_back (P := Tryd.prog) _ 59 9 5 ⟨w.heap.size, 0, none⟩ 1 [fig u] Tryd.underlying59 Tryd.underlying5 Tryd.underlying9 (fun j hj => by
    have hj0 : j = 0 := by simpa using hj
    subst hj0
    rw [add_plain, World.cell?_alloc_new, List.getElem_singleton, fig_val]
    rfl)
theorem dec_lo {u : Nat} (h : u < 10) : decDigits u = [fig u] := by rw [decDigits, dif_pos h]; unfold fig; rw [Nat.mod_eq_of_lt h]
theorem dec_hi {u : Nat} (h : ¬ u < 10) : decDigits u = decDigits (u / 10) ++ [fig u] := by rw [decDigits, dif_neg h]; rfl
theorem dec_len {u : Nat} (h : u < 18446744073709551616) : (decDigits u).length ≤ 20 := by
  rw [decDigits_length]
  by_cases h0 : u = 0
  · subst h0; rw [nDigits_small (by decide)]; decide
  · have := numDigits_eq u (by omega) h; split at this <;> omega
theorem itoa_len {n : Int} (h0 : -9223372036854775808 ≤ n) (h1 : n ≤ 9223372036854775807) : (itoa n).length ≤ 21 := by
  unfold itoa
  by_cases hn : n < 0
  · rw [if_pos hn]; have := dec_len (u := n.natAbs) (by omega); simp only [List.length_cons]; omega
  · rw [if_neg hn]; have := dec_len (u := n.toNat) (by omega); omega
set_option maxRecDepth 100000 in
theorem figures_any (u : Nat) : u < 18446744073709551616 → ∀ w : World, Calls Tryd.prog 19 #[.int .u64 u] w (Text (decDigits u) w) := by
  induction u using Nat.strongRecOn with
  | _ u ih =>
  intro hu w
  have hcv := digit_text w u
  by_cases hs : u < 10
  · have HL := Lib.hid (dec_lo hs)
    clear ih hu
    go_enter Tryd.func19, Tryd.ntmps19
    go_wp2_with (fail)
    go_ret
    exact ⟨ret_str (by rw [HL.out]), (Below.refl _ _).alloc (Nat.le_refl _) _⟩
  · have HD := Lib.hid (dec_hi hs)
    have hq : ∀ w : World, Calls Tryd.prog 19 #[.int .u64 ((u : Int) / 10)] w (Text (decDigits (u / 10)) w) := fun w => by
      have h := ih (u / 10) (by omega) (by omega) w
      rwa [show ((u / 10 : Nat) : Int) = (u : Int) / 10 from by omega] at h
    have HQ := Lib.hid hq
    have hwr : IntKind.u64.wrap ((u : Int) / 10) = (u : Int) / 10 := by rw [IntKind.wrap_u64]; omega
    have hl := dec_len (u := u / 10) (by omega)
    clear hq ih hu
    go_enter Tryd.func19, Tryd.ntmps19
    go_wp2_with (fail)
    refine (HQ.out _).mono ?_
    rintro e w' ⟨rfl, hb⟩
    go_wp2_with (fail)
    go_ret
    exact ⟨ret_str (by rw [HD.out]; exact str_app _ _), ((Below.refl _ _).alloc (Nat.le_refl _) _).trans (hb.mono (by simp))⟩
set_option maxRecDepth 100000 in
theorem num_any (n : Int) (h0 : -9223372036854775808 ≤ n) (h1 : n ≤ 9223372036854775807) (w : World) : Calls Tryd.prog 15 #[.int .i64 n] w (Text (itoa n) w) := by
  by_cases hn : n < 0
  · obtain ⟨u, rfl⟩ : ∃ u : Nat, n = -(u : Int) := ⟨n.natAbs, by omega⟩
    have hu1 : 1 ≤ u := by omega
    have HT := Lib.hid (itoa_neg u hu1)
    have hl := dec_len (u := u) (by omega)
    have hf : ∀ w : World, Calls Tryd.prog 19 #[.int .u64 (-(-(u : Int) + 1) + 1)] w (Text (decDigits u) w) := fun w => by
      have h := figures_any u (by omega) w
      rwa [show (u : Int) = (-(-(u : Int) + 1) + 1) from by omega] at h
    have HF := Lib.hid hf
    clear hf
    go_enter Tryd.func15, Tryd.ntmps15
    go_wp2_with (fail)
    refine (HF.out _).mono ?_
    rintro e w' ⟨rfl, hb⟩
    go_wp2_with (fail)
    go_ret
    exact ⟨ret_str (by rw [HT.out]; exact str_app [45] _), hb⟩
  · obtain ⟨u, rfl⟩ : ∃ u : Nat, n = (u : Int) := ⟨n.toNat, by omega⟩
    have HT := Lib.hid (itoa_nonneg u)
    have HF := Lib.hid (figures_any u (by omega))
    go_enter Tryd.func15, Tryd.ntmps15
    go_wp2_with (fail)
    refine (HF.out _).mono ?_
    rintro e w' ⟨rfl, hb⟩
    go_wp2_with (fail)
    refine bodyPost_ret (v := .string ⟨(decDigits u).toArray⟩) ?_ ?_ ?_
    · simp [results, Tryd.results15, go_sem]
    · rfl
    exact ⟨ret_str (by rw [HT.out]), hb⟩
end Go.Proofs.YtonedffhfljmpaaDoor.strc
