/-
  The contract of the climber's start.
-/
import Derived.Test.YtdfakjpchgomdaaStep
import Derived.Deep.WholeRow
import Derived.BigRegion
namespace Go.Proofs.Ytdfakjpchgomdaa.lev
open Go.RowKit law bytes
set_option linter.unusedVariables false

def zcl : Array Value := (Array.replicate 259 (.int .u64 0)).push (.int .i64 0)
theorem zero_cl : (Try.prog.info? 78).map (fun i => (i.zero, i.size)) = some (some (.agg zcl), 260) := by kernel_rfl
theorem zcl_size : zcl.size = 260 := by simp [zcl]

/-- the places of a byte in the first n of a text; the last place is bit 0 -/
def pls (text : ByteArray) (top : Nat) : Nat → Nat → BitVec 64
  | 0, _ => 0#64
  | n + 1, c => if text.data.toList[n]?.map (·.toNat) = some c then pls text top n c ||| 1#64 <<< (top - n) else pls text top n c
theorem pls_bit (text : ByteArray) (top c : Nat) (h64 : top < 64) (n : Nat) (hn : n ≤ top + 1) (k : Nat) (hk : k ≤ top) :
    (pls text top n c).getLsbD k = decide (top - k < n ∧ text.data.toList[top - k]?.map (·.toNat) = some c) := by
  induction n with
  | zero => simp [pls]
  | succ n ih =>
    have ih := ih (by omega)
    have hb : (1#64 <<< (top - n)).getLsbD k = decide (k = top - n) := by
      rw [BitVec.getLsbD_shiftLeft, BitVec.getLsbD_one]
      simp only [show k < 64 by omega, decide_true, Bool.true_and]
      rw [Bool.eq_iff_iff]; simp; omega
    rw [pls]
    by_cases h : text.data.toList[n]?.map (·.toNat) = some c
    · rw [if_pos h, BitVec.getLsbD_or, ih, hb, ← Bool.decide_or, decide_eq_decide]
      by_cases e : k = top - n
      · obtain rfl : n = top - k := by omega
        exact ⟨fun _ => ⟨by omega, h⟩, fun _ => .inr e⟩
      · exact ⟨fun h => h.elim (fun h => ⟨by omega, h.2⟩) (fun h => absurd h e), fun h => .inl ⟨by omega, h.2⟩⟩
    · rw [if_neg h, ih, decide_eq_decide]
      constructor
      · exact fun h => ⟨by omega, h.2⟩
      · intro h'
        refine ⟨?_, h'.2⟩
        by_cases e : top - k = n
        · rw [e] at h'; exact absurd h'.2 h
        · omega

theorem pls_succ (text : ByteArray) (top n : Nat) (hn : n < text.size) (c : Nat) : pls text top (n + 1) c = if (text[n]'hn).toNat = c then pls text top n c ||| 1#64 <<< (top - n) else pls text top n c := by
  have e : text.data.toList[n]?.map (·.toNat) = some (text[n]'hn).toNat := by
    rw [List.getElem?_eq_getElem (by simpa using hn)]; rfl
  rw [pls, e]
  by_cases h : (text[n]'hn).toNat = c
  · rw [if_pos h, if_pos (by rw [h])]
  · rw [if_neg h, if_neg (fun e => h (by injection e))]
theorem U_put (text : ByteArray) (k : Nat) (hk : k < text.size) (h64 : text.size ≤ 64) :
    bits .or .u64 (U (pls text (text.size - 1) k (text[k]'hk).toNat)) (IntKind.u64.wrap (2 ^ (text.size - 1 - k))) = U (pls text (text.size - 1) (k + 1) (text[k]'hk).toNat) := by
  have h : IntKind.u64.wrap (2 ^ (text.size - 1 - k)) = U (1#64 <<< (text.size - 1 - k)) := by
    unfold U
    rw [IntKind.wrap_u64, BitVec.toNat_shiftLeft, Nat.shiftLeft_eq, show (1#64).toNat = 1 from rfl, Nat.one_mul, Int.natCast_emod, Int.natCast_pow]
    rfl
  rw [h, U_or, pls_succ text _ k hk, if_pos rfl]
theorem Cl.place {w : World} {g : Nat} {s m l : BitVec 64} {pl pl' : Nat → BitVec 64} {top c : Nat} (h : Cl w g s m l pl top) (hc : c < 256) (hpl : ∀ d, d ≠ c → pl' d = pl d) (n : Nat) :
    Cl ((w.setCell ⟨g, 3 + c, none⟩ (.int .u64 (U (pl' c)))).drewN n) g s m l pl' top := by
  obtain ⟨cs, hb, hsz, h0, h1, h2, hp, ht⟩ := h
  refine ⟨_, (hb.set_ (3 + c) _).drewN n, by simpa using hsz, ?_, ?_, ?_, fun d hd => ?_, ?_⟩
  · rw [Array.getElem?_setIfInBounds, if_neg (by omega)]; exact h0
  · rw [Array.getElem?_setIfInBounds, if_neg (by omega)]; exact h1
  · rw [Array.getElem?_setIfInBounds, if_neg (by omega)]; exact h2
  · rw [Array.getElem?_setIfInBounds]
    by_cases e : d = c
    · subst e; rw [if_pos rfl, if_pos (by omega)]
    · rw [if_neg (by omega), hpl d e]; exact hp d hd
  · rw [Array.getElem?_setIfInBounds, if_neg (by omega)]; exact ht

/-- a climber was put at the end -/
def Started (g : Nat) (text : ByteArray) (w : World) (e : Ending) (w' : World) : Prop :=
  e = .returned (.tuple #[]) ∧ w.grownBy w' (some g) ∧ Cl w' g 0#64 (BitVec.allOnes 64) 0#64 (pls text (text.size - 1) text.size) (text.size - 1)
def st0 (zc : Array Value) (v : Value) : List Value := (((zc.toList.set 0 (Value.int IntKind.u64 0)).set 1 (Value.int IntKind.u64 18446744073709551615)).set 2 (Value.int IntKind.u64 0)).set 259 v
theorem zcl_at (i : Nat) (hi : i < 259) : zcl[i]? = some (.int .u64 0) := by
  unfold zcl
  rw [Array.getElem?_push_lt (by simpa using hi)]
  simp
theorem st0_one (v : Value) (hv : v.oneCell' = true) : ∀ u ∈ st0 zcl v, u.oneCell' = true := by
  have hz : ∀ u ∈ zcl.toList, u.oneCell' = true := by
    intro u hu
    unfold zcl at hu
    rw [Array.mem_toList_iff, Array.mem_push, Array.mem_replicate] at hu
    rcases hu with ⟨_, h⟩ | h <;> subst h <;> rfl
  intro u hu
  unfold st0 at hu
  rcases List.mem_or_eq_of_mem_set hu with h | h
  · rcases List.mem_or_eq_of_mem_set h with h | h
    · rcases List.mem_or_eq_of_mem_set h with h | h
      · rcases List.mem_or_eq_of_mem_set h with h | h
        · exact hz u h
        · subst h; rfl
      · subst h; rfl
    · subst h; rfl
  · subst h; exact hv
theorem st0_cl {w : World} {g : Nat} {cs : Array Value} (hb : Blk w g 78 cs) (text : ByteArray) (h1 : 0 < text.size) :
    Cl (w.setRow g (st0 zcl (.int .i64 (text.size - 1))).toArray) g 0#64 (BitVec.allOnes 64) 0#64 (pls text (text.size - 1) 0) (text.size - 1) := by
  have hsz := zcl_size
  have hsz2 : zcl.toList.length = 260 := by simpa using hsz
  have hU : U 0#64 = 0 := by unfold U; rfl
  have hU1 : U (BitVec.allOnes 64) = 18446744073709551615 := by unfold U; rfl
  refine ⟨_, setRow_heap w g cs _ _ _ hb, by simp [st0, hsz], ?_, ?_, ?_, fun c hc => ?_, ?_⟩
  · simp [st0, hsz, hU]
  · rw [hU1]; simp [st0, hsz]
  · simp [st0, hsz, hU]
  · rw [show U (pls text (text.size - 1) 0 c) = 0 from hU]
    simp only [st0, List.getElem?_toArray]
    rw [List.getElem?_set, if_neg (by omega), List.getElem?_set, if_neg (by omega), List.getElem?_set, if_neg (by omega), List.getElem?_set, if_neg (by omega), Array.getElem?_toList]
    exact zcl_at _ (by omega)
  · simp [st0, hsz]; omega
theorem only_setRow {w : World} {g : Nat} (cs : Array Value) : w.grownBy (w.setRow g cs) (some g) :=
  only_step (only_refl w _) rfl rfl rfl (by simp [World.setRow]) fun i hi hne => by
    show (w.setRow g cs).heap[i]? = _
    simp only [World.setRow, Array.getElem?_modify]
    rw [if_neg (fun e => hne (by rw [e]))]

set_option maxHeartbeats 1600000 in
set_option maxRecDepth 100000 in
theorem start_any (g : Nat) (text : ByteArray) (h1 : 0 < text.size) (h64 : text.size ≤ 64) (cs : Array Value) (w : World) (hb : Blk w g 78 cs) (hsz : cs.size = 260) :
    Calls Try.prog 49 #[.pointer (some ⟨g, 0, none⟩), .string text] w (Started g text w) := by
  have hst0 : Sem.run Try.prog (storeCells { block := g, off := 0 } (st0 zcl (.int .i64 (text.size - 1)))) w = .ok () (w.setRow g (st0 zcl (.int .i64 (text.size - 1))).toArray) := by
    have := run_storeCells_from (P := Try.prog) g _ (st0 zcl (.int .i64 (text.size - 1))) 0 cs w hb (by rw [hsz]; simp [st0, zcl_size]) (st0_one _ rfl)
    rwa [List.take_zero, List.nil_append] at this
  have hcl := st0_cl hb text h1
  have hgr := only_setRow (w := w) (g := g) (st0 zcl (.int .i64 (text.size - 1))).toArray
  obtain ⟨W1, hW1⟩ : ∃ W1, W1 = w.setRow g (st0 zcl (.int .i64 (text.size - 1))).toArray := ⟨_, rfl⟩
  obtain ⟨zc, hzc⟩ : ∃ zc, zc = zcl := ⟨_, rfl⟩
  have hz := (zero_of_info zero_cl).1
  have hs := zcl_size
  rw [← hW1] at hst0 hcl hgr
  rw [← hzc] at hz hs hst0
  have hst : Sem.run Try.prog (storeCells { block := g, off := 0 } ((((zc.toList.set 0 (Value.int IntKind.u64 0)).set 1 (Value.int IntKind.u64 18446744073709551615)).set 2 (Value.int IntKind.u64 0)).set 259 (Value.int IntKind.i64 (↑text.size - 1)))) w = .ok () W1 := hst0
  clear hW1 hb hzc hst0
  go_enter Try.func49, Try.ntmps49
  go_wp2_with (fail)
  go_loopw [14] (fun i wr => ∃ k : Nat, k ≤ text.size ∧ i = .int .i64 k ∧ Cl wr g 0#64 (BitVec.allOnes 64) 0#64 (pls text (text.size - 1) k) (text.size - 1) ∧ w.grownBy wr (some g)) (fun i _ => text.size - (intOf i).toNat)
  case atStart => exact ⟨0, Nat.zero_le _, rfl, hcl, hgr⟩
  case round =>
    obtain ⟨k, hk, rfl, hcl, hgr⟩ := hrel
    by_cases hlt : k < text.size
    · have HC := Lib.hid hcl
      obtain ⟨cs, hblk, hsz, h0, h1, h2, hp, htop⟩ := hcl
      have hc : (text[k]'hlt).toNat < 256 := (text[k]'hlt).toNat_lt
      have cp : wr.cell? ⟨g, 3 + (text[k]'hlt).toNat, none⟩ = some (.int .u64 (U (pls text (text.size - 1) k (text[k]'hlt).toNat))) := (hblk.cell _).trans (hp _ hc)
      have ct : wr.cell? ⟨g, 259, none⟩ = some (.int .i64 (text.size - 1)) := (hblk.cell 259).trans (htop.trans (by simp; omega))
      have fr : ∀ i, wr.frozen? ⟨g, i, none⟩ = false := fun i => hblk.frozen i
      have ep := U_put text k hlt h64
      clear hblk h0 h1 h2 hp htop hz hst hs
      go_wp2_with (fail)
      go_region
      go_wp2_with (fail)
      go_roundw
      case rel =>
        refine ⟨k + 1, by omega, by go_num, Cl.place (pl' := pls text (text.size - 1) (k + 1)) HC.out hc (fun d hd => ?_) 1, only_drewN (only_setCell (g := g) hgr (p := ⟨g, 3 + (text[k]'hlt).toNat, none⟩) (.inl rfl) _) 1⟩
        rw [pls_succ text _ k hlt, if_neg (fun e => hd e.symm)]
      case measure => simp [intOf]; omega
    · obtain rfl : k = text.size := by omega
      go_wp2_with (fail)
      refine bodyPost_end (results_none rfl _ _ _) rfl ?_
      exact ⟨rfl, hgr, hcl⟩
end Go.Proofs.Ytdfakjpchgomdaa.lev
