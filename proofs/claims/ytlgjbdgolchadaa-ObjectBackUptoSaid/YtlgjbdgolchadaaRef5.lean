/-
  The document's own bytes of parts.
-/
import Derived.Test.YtlgjbdgolchadaaWrite5
namespace Go.Proofs.Ytlgjbdgolchadaa.code
open Go.RowKit law bytes nums
set_option linter.unusedVariables false

theorem own_base {w : World} {base base' : Nat} {e : TypeId} {size n : Nat} {v : Value} {xs : List Value} (h : w.ownsRow base' e size v n xs) (hb : base ≤ base') : w.ownsRow base e size v n xs := by
  refine ⟨h.1, ?_⟩
  rcases h.2 with hn | ⟨g, cap, cur, hv, hg, rest⟩
  · exact .inl hn
  · exact .inr ⟨g, cap, cur, hv, Nat.le_trans hb hg, rest⟩
def Row (xs : List UInt8) (B : Nat) (v : Value) (w w' : World) : Prop := ∃ A c, v = .slice A xs.length c ∧ w'.ownsRow B 5 1 v xs.length (bv xs) ∧ Below B w w'
def RowMade (xs : List UInt8) (w : World) (e : Ending) (w' : World) : Prop := ∃ v, e = .returned v ∧ Row xs w.heap.size v w w'

set_option maxHeartbeats 600000 in
theorem rnum_any (A : Option Addr) (l : List UInt8) (c n : Nat) (w : World) (hn : U64 n) (hl : l.length + 10 ≤ 140737488355328) (hs : Sl w w.heap.size A (bv l)) :
    Calls Try.prog 44 #[.slice A l.length c, .int .u64 n] w (RowMade (l ++ encB n) w) := by
  have hnl := encB_len hn
  go_enter Try.func44, Try.ntmps44
  go_wp2_with (at_builtin
               refine wpList_append_sl _ rfl (.const (.slice none 0 0)) (.tmp 6) _ rfl w.heap.size 5 _ 1 Try.underlying32 byteE (.slice none 0 0) 0 [] rfl (World.ownsRow_nil _ _ _ _) _ A l.length c (bv l) rfl hs (bv_length _) (bv_one _) (by omega) (by unfold maxLen; omega) (Nat.le_refl _) ?_
               intro v1 w1 hown1 hg1 hat1
               have hb1 : Below w.heap.size w w1 := (Below.refl _ w).grown hg1 (Nat.le_refl _) (by simp [Value.ownBlock])
               simp only [Nat.zero_add, List.nil_append] at hown1
               obtain ⟨A1, c1, rfl, hc1⟩ := own_slice hown1)
  go_loopw [1, 5] (fun x o wr => ∃ (m : Nat) (out : List UInt8) (A2 : Option Addr) (c2 : Nat), U64 m ∧ x = .int .u64 m ∧ out ++ encB m = encB n ∧ o = .slice A2 (l.length + out.length) c2 ∧ wr.ownsRow w.heap.size 5 1 (.slice A2 (l.length + out.length) c2) (l.length + out.length) (bv (l ++ out)) ∧ Below w.heap.size w wr) (fun x _ _ => (intOf x).toNat)
  case atStart => exact ⟨n, [], A1, c1, hn, rfl, rfl, rfl, by simpa using hown1, hb1⟩
  case round =>
    clear hown1 hb1
    obtain ⟨m, out, A2, c2, hm, rfl, he, rfl, hown, hb⟩ := hrel
    have HE := Lib.hid he
    have hpos := encB_pos m
    have hol2 : out.length + (encB m).length ≤ 10 := by have := congrArg List.length he; rw [List.length_append] at this; omega
    clear he
    have hw0 : IntKind.u64.wrap ((m : Int) / 128) = (m : Int) / 128 := by rw [IntKind.wrap_u64]; unfold U64 at hm; omega
    by_cases hlt : m < 128
    · have hd : decide ((0 : Int) < (m : Int) / 128) = false := decide_eq_false (by omega)
      go_wp2_with (at_builtin
                   refine wpList_append_sl _ rfl (.tmp 20) (.tmp 23) _ rfl w.heap.size 5 _ 1 Try.underlying32 byteE (.slice A2 (l.length + out.length) c2) (l.length + out.length) (bv (l ++ out)) rfl (hown.alloc _) _ _ 1 1 [.int .u8 _] rfl (Sl.one wr _ _) rfl (by simp [Value.oneCell']) (by omega) (by unfold maxLen; omega) (by have := hb.size; simp; omega) ?_
                   intro v3 w3 hown3 hg3 hat3
                   obtain ⟨A3, c3, rfl, hc3⟩ := own_slice hown3)
      go_ret
      have e : l.length + out.length + 1 = (l ++ encB n).length := by
        rw [← HE.out, encB_lo hlt]; simp; omega
      rw [e] at hown3 ⊢
      refine ⟨_, rfl, A3, c3, rfl, ?_, below_append hb hb.size _ hown (Nat.le_refl _) hg3⟩
      have e2 : bv (l ++ out) ++ [.int .u8 (m : Int)] = bv (l ++ encB n) := by
        rw [← HE.out, encB_lo hlt, ← List.append_assoc, bv_append (l ++ out)]
        simp [bv]
        omega
      rw [e2] at hown3
      exact hown3
    · have hm' : m / 128 < m := by omega
      have HN := Lib.hid (encB_hi (n := m) (by omega))
      have hd : decide ((0 : Int) < (m : Int) / 128) = true := decide_eq_true (by omega)
      go_wp2_with (at_builtin
                   refine wpList_append_sl _ rfl (.tmp 11) (.tmp 16) _ rfl w.heap.size 5 _ 1 Try.underlying32 byteE (.slice A2 (l.length + out.length) c2) (l.length + out.length) (bv (l ++ out)) rfl (hown.alloc _) _ _ 1 1 [.int .u8 _] rfl (Sl.one wr _ _) rfl (by simp [Value.oneCell']) (by omega) (by unfold maxLen; omega) (by have := hb.size; simp; omega) ?_
                   intro v3 w3 hown3 hg3 hat3
                   obtain ⟨A3, c3, rfl, hc3⟩ := own_slice hown3)
      go_roundw
      case rel =>
        refine ⟨m / 128, out ++ [UInt8.ofNat (m % 128 + 128)], A3, c3, ?_, ?_, ?_, ?_, ?_, below_append hb hb.size _ hown (Nat.le_refl _) hg3⟩
        · unfold U64 at *; omega
        · rfl
        · rw [← HE.out, HN.out, List.append_assoc]; rfl
        · simp; omega
        · have e2 : bv (l ++ out) ++ [.int .u8 (128 + (m : Int) % 128)] = bv (l ++ (out ++ [UInt8.ofNat (m % 128 + 128)])) := by
            rw [← List.append_assoc, bv_append (l ++ out)]
            simp [bv]
            omega
          rw [e2] at hown3
          rw [List.length_append, List.length_singleton, ← Nat.add_assoc]
          exact hown3
      case measure => simp [intOf]; omega

theorem RowMade.keep {xs : List UInt8} {B : Nat} {w wr w' : World} {v : Value} (h : Row xs wr.heap.size v wr w') (hb : Below B w wr) (hB : B ≤ wr.heap.size) : Row xs B v w w' := by
  obtain ⟨A, c, rfl, h1, h2⟩ := h
  exact ⟨A, c, rfl, own_base h1 hB, hb.trans (h2.mono hB)⟩
set_option maxHeartbeats 1000000 in
theorem rwrite_any (A : Option Addr) (l : List Part) (c : Nat) (w : World) (hs : Sl w w.heap.size A (pcl l)) (hok : ∀ q ∈ l, Ok q) (hlen : ∀ k, k ≤ l.length → (encL (l.take k)).length + 20 ≤ 140737488355000)
    (hll : l.length ≤ 140737488355328) (htx : ∀ k (h : k < l.length), (encL (l.take k)).length + 20 + l[k].t.size ≤ 140737488355000) :
    Calls Try.prog 22 #[.slice A l.length c] w (RowMade (encL l) w) := by
  obtain ⟨i0, hi, hz0, hz1, hz2, _⟩ := byteE
  go_enter Try.func22, Try.ntmps22
  go_wp2
  go_loopw [3, 4] (fun b i wr => ∃ k : Nat, k ≤ l.length ∧ i = .int .i64 k ∧ Row (encL (l.take k)) w.heap.size b w wr) (fun _ i _ => l.length - (intOf i).toNat)
  case atStart => exact ⟨0, Nat.zero_le _, rfl, none, 0, rfl, World.ownsRow_nil _ _ _ _, Below.refl _ _⟩
  case round =>
    obtain ⟨k, hk, rfl, A1, c1, rfl, hown, hb⟩ := hrel
    by_cases hlt : k < l.length
    · obtain ⟨ad, rfl, had, f0, f1, f2, f3, f4, -, -, -⟩ := Sl.part (hs.below hb) hlt
      obtain ⟨ho1, ho2, ho3⟩ := hok l[k] (List.getElem_mem hlt)
      have hle := hlen k hk
      have hte := htx k hlt
      have HS := Lib.hid (encL_snoc l k hlt)
      generalize hp : l[k] = p at *
      have hx := fun n hn => rnum_any A1 (encL (l.take k)) c1 n wr hn (by omega) (Sl.of_own hown)
      have hsz := hb.size
      clear hp hlen htx hok
      by_cases k0 : p.kind = 0
      · rw [k0] at f0
        have hE : encP p = encB p.n := by unfold encP; rw [if_pos k0]
        have HE := Lib.hid hE
        clear hE k0
        go_wp2_with (fail)
        refine (hx p.n ho1).mono ?_
        rintro e w1 ⟨v1, rfl, hr1⟩
        go_wp2_with (fail)
        go_roundw
        case rel => exact ⟨k + 1, by omega, by go_num, by rw [HS.out, HE.out]; exact RowMade.keep hr1 hb hsz⟩
        case measure => simp [intOf]; omega
      have n0 : (p.kind == 0) = false := by simpa using k0
      by_cases k1 : p.kind = 1
      · rw [k1] at f0
        have hE : encP p = encB (encI p.i) := by unfold encP; rw [if_neg k0, if_pos k1]
        have HE := Lib.hid hE
        clear hE k0 k1 n0
        go_wp2_with (fail)
        refine (signed_any p.i ho2 ho3 _).mono ?_
        rintro e w1 ⟨rfl, rfl⟩
        go_wp2_with (fail)
        refine (hx (encI p.i) (encI_lt ho2 ho3)).mono ?_
        rintro e w1 ⟨v1, rfl, hr1⟩
        go_wp2_with (fail)
        go_roundw
        case rel => exact ⟨k + 1, by omega, by go_num, by rw [HS.out, HE.out]; exact RowMade.keep hr1 hb hsz⟩
        case measure => simp [intOf]; omega
      have n1 : (p.kind == 1) = false := by simpa using k1
      by_cases k2 : p.kind = 2
      · rw [k2] at f0
        have hE : encP p = encB (bit p.f) := by unfold encP; rw [if_neg k0, if_neg k1, if_pos k2]
        have HE := Lib.hid hE
        clear hE k0 k1 n0 n1 k2
        have h0 := hx 0 (by unfold U64; omega)
        have h1 := hx 1 (by unfold U64; omega)
        rw [show ((0 : Nat) : Int) = 0 from rfl] at h0
        rw [show ((1 : Nat) : Int) = 1 from rfl] at h1
        cases hf : p.f
        · rw [hf] at f3 HE
          go_wp2_with (fail)
          refine h0.mono ?_
          rintro e w1 ⟨v1, rfl, hr1⟩
          go_wp2_with (fail)
          go_roundw
          case rel => exact ⟨k + 1, by omega, by go_num, by rw [HS.out, HE.out]; exact RowMade.keep hr1 hb hsz⟩
          case measure => simp [intOf]; omega
        · rw [hf] at f3 HE
          go_wp2_with (fail)
          refine h1.mono ?_
          rintro e w1 ⟨v1, rfl, hr1⟩
          go_wp2_with (fail)
          go_roundw
          case rel => exact ⟨k + 1, by omega, by go_num, by rw [HS.out, HE.out]; exact RowMade.keep hr1 hb hsz⟩
          case measure => simp [intOf]; omega
      have n2 : (p.kind == 2) = false := by simpa using k2
      have hE : encP p = encB p.t.size ++ tl p.t := by unfold encP; rw [if_neg k0, if_neg k1, if_neg k2]
      have HE := Lib.hid hE
      clear hE k0 k1 k2
      have hu : U64 p.t.size := by unfold U64; omega
      have hel := encB_len hu
      go_wp2_with (fail)
      refine (hx p.t.size hu).mono ?_
      rintro e w1 ⟨v1, rfl, A2, c2, rfl, hown2, hb2⟩
      have f4' : w1.cell? ⟨(ad.add (k * 8)).block, (ad.add (k * 8)).off + 4, none⟩ = some (.string p.t) := by
        rw [← f4]
        refine hb2.cell ?_
        have := hb.size
        rw [show (⟨(ad.add (k * 8)).block, (ad.add (k * 8)).off + 4, none⟩ : Addr).block = (ad.add (k * 8)).block from rfl, blk_add]
        omega
      have hxl : (encL (l.take k) ++ encB p.t.size).length = (encL (l.take k)).length + (encB p.t.size).length := List.length_append
      rw [hxl] at hown2
      rw [hxl]
      clear hxl
      have hsz2 := hb2.size
      go_wp2_with (at_builtin
                   refine Lib.wpList_append_own_string _ rfl (.tmp 26) (.tmp 31) _ _ rfl wr.heap.size 5 i0 Try.underlying32 Try.underlying9 hi hz0 hz1 hz2 (.slice A2 ((encL (l.take k)).length + (encB p.t.size).length) c2) ((encL (l.take k)).length + (encB p.t.size).length) (bv (encL (l.take k) ++ encB p.t.size)) rfl hown2 p.t rfl (by unfold maxLen; omega) (by omega) hsz2 ?_
                   intro v3 w3 hown3 hg3 hat3
                   obtain ⟨A3, c3, rfl, hc3⟩ := own_slice hown3)
      go_roundw
      case rel =>
        have e2 : bv (encL (l.take k) ++ encB p.t.size) ++ Lib.strCells p.t = bv (encL (l.take k) ++ (encB p.t.size ++ tl p.t)) := by rw [str_bv, ← List.append_assoc, bv_append (encL (l.take k) ++ encB p.t.size)]
        have e3 : (encL (l.take k)).length + (encB p.t.size).length + p.t.size = (encL (l.take (k + 1))).length := by rw [HS.out, HE.out]; simp only [List.length_append, tl_len]; omega
        rw [e2, ← HE.out, ← HS.out, e3] at hown3
        refine ⟨k + 1, by omega, by go_num, A3, c3, by rw [e3], by rw [e3]; exact own_base hown3 hsz, ?_⟩
        exact hb.trans ((hb2.grown hg3 hsz2 (fun j hj => (hown2.lt j hj).1)).mono hsz)
      case measure => simp [intOf]; omega
    · go_wp2
      go_ret
      have e : l.take k = l := List.take_of_length_le (by omega)
      rw [e] at hown ⊢
      exact ⟨_, rfl, A1, c1, rfl, hown, hb⟩
end Go.Proofs.Ytlgjbdgolchadaa.code
