/-
  The law CodeBack walked.
-/
import Derived.Test.YtmaebebckbfjpaaOpenParts
import Derived.Test.YtmaebebckbfjpaaRef
import Derived.Test.YtmaebebckbfjpaaLives
import Derived.Deep.LoopGhost
namespace Go.Proofs.Ytmaebebckbfjpaa.codeBack
open Go.RowKit law bytes nums same code
set_option linter.unusedVariables false

theorem encL_drop (l : List Part) (k : Nat) (h : k < l.length) : encL (l.drop k) = encP l[k] ++ encL (l.drop (k + 1)) := by
  unfold encL
  rw [List.drop_eq_getElem_cons h, List.flatMap_cons]
theorem encL_drop_len (l : List Part) (k : Nat) : (encL (l.drop k)).length ≤ (encL l).length := by
  have e : encL l = encL (l.take k) ++ encL (l.drop k) := by rw [← encL_append, List.take_append_drop]
  rw [e, List.length_append]
  omega
/-- a row of parts of the call's own reads as them -/
theorem Sl.of_row {w : World} {A : Option Addr} {base n c : Nat} {l : List Part} (h : w.ownsRow base 38 8 (.slice A n c) n (pcl l)) : Sl w w.heap.size A (pcl l) := fun j u hj => by
  rcases h.2 with ⟨_, hx⟩ | ⟨g, cap, cur, hv, _, hh, _⟩
  · have h1 := h.1
    rw [hx] at h1
    have : pcl l = [] := List.eq_nil_of_length_eq_zero (by omega)
    rw [this] at hj
    simp at hj
  · injection hv with hA
    subst hA
    exact ⟨_, rfl, (Array.getElem?_eq_some_iff.1 hh).1, h.cells (g := g) rfl j u hj⟩

theorem pcl_one (q : Part) : pcl [q] = pcs q := by simp [pcl]
theorem pcs_one (q : Part) : ∀ u ∈ pcs q, u.oneCell' = true := by
  intro u hu
  simp only [pcs, List.mem_cons, List.not_mem_nil, or_false] at hu
  rcases hu with rfl | rfl | rfl | rfl | rfl | rfl | rfl | rfl <;> rfl
theorem new_cells (w : World) (q : Part) {t : Nat} : ∀ j u, (pcs q)[j]? = some u → (w.alloc (.cells (pcs q).toArray t)).cell? ((⟨w.heap.size, 0, none⟩ : Addr).add j) = some u := fun j u hu => by
  obtain ⟨ad, e, _, hc⟩ := Sl.of_blk (Blk.new w t (pcs q).toArray) j u hu
  injection e with e
  subst e
  exact hc
theorem partI : (Try.prog.info? 38).map (fun i => (i.zero, i.size, i.bytes)) = some (some (.agg #[.int .i64 0, .int .u64 0, .int .i64 0, .bool false, .string ⟨#[]⟩, .int .i64 0, .int .i64 0, .int .i64 0]), 8, 72) := by kernel_rfl
set_option maxHeartbeats 1600000 in
set_option maxRecDepth 100000 in
theorem walk (A A0 : Option Addr) (l : List Part) (b : List UInt8) (c c0 : Nat) (w : World) (hs : Sl w w.heap.size A (pcl l)) (hok : ∀ q ∈ l, Fit q) (hs0 : Sl w w.heap.size A0 (bv b)) (hsm : l.length + (l.map fun q => q.t.size).sum + b.length ≤ 1048576) :
    Calls Try.prog 5 #[.slice A l.length c, .slice A0 b.length c0] w fun e w' => e = .returned (.bool true) ∧ Below w.heap.size w w' := by
  obtain ⟨b1, b2, b3⟩ := small (fun q hq => (hok q hq).1) (by omega)
  have b4 : (encL l).length ≤ 140737488355000 := by have := b1 l.length (Nat.le_refl _); rw [List.take_length] at this; omega
  have b5 : ∀ k (h : k < l.length), l[k].t.size ≤ 140737488355000 := fun k h => by have := b3 k h; omega
  have HOK := Lib.hid hok
  have B5 := Lib.hid b5
  go_enter Try.func5, Try.ntmps5
  go_wp2_with (fail)
  refine (new_any w).mono ?_
  rintro e w1 ⟨rfl, hb1, hw1⟩
  go_wp2_with (fail)
  refine (write_any w.heap.size A l c w.heap.size w1 hw1 (Nat.le_refl _) (hs.below hb1) (fun q hq => (HOK.out q hq).1) b1 b2 b3).mono ?_
  rintro e w2 ⟨rfl, hb2, hw2⟩
  have hB2 := hb1.trans hb2
  clear hb1 hw1 hb2 b1 b3 hok b5
  go_wp2_with (fail)
  refine (bytes_any w.heap.size (encL l) w2 hw2 (by omega)).mono ?_
  rintro e w3 ⟨A3, c3, rfl, hc3, hs3, hb3⟩
  have hB3 := hB2.trans (hb3.mono hB2.size)
  clear hB2 hb3 hw2
  go_wp2_with (fail)
  refine (newr_any A3 (encL l) _ c3 w3.heap.size w3 rfl (by omega) (Nat.le_refl _) hs3).mono ?_
  rintro e w4 ⟨g, rfl, hg, hr4, hb4⟩
  have hB4 := hB3.trans (hb4.mono hB3.size)
  have hwg : w.heap.size ≤ g := Nat.le_trans hB3.size hg
  clear hB3 hb4 hg hs3 hc3
  go_wp2_with (fail)
  go_loopg [7] l.length (fun gk i wr => ∃ k : Nat, k ≤ l.length ∧ gk = l.length - k ∧ i = .int .i64 k ∧ Rd wr g ⟨encL (l.drop k), 0⟩ ∧ Below w.heap.size w wr)
  case atStart => exact ⟨0, Nat.zero_le _, rfl, rfl, hr4, hB4⟩
  case round =>
    clear hr4 hB4
    obtain ⟨k, hk, rfl, rfl, hrd, hbel⟩ := hrel
    by_cases hlt : k < l.length
    · obtain ⟨ad, rfl, had, f0, f1, f2, f3, f4, f5, f6, f7⟩ := Sl.part (hs.below hbel) hlt
      have hf := HOK.out l[k] (List.getElem_mem hlt)
      have hts := B5.out k hlt
      have hed := encL_drop l k hlt
      have hel := encL_drop_len l k
      rw [hed] at hrd hel
      obtain ⟨p, hp⟩ : ∃ p, p = l[k] := ⟨_, rfl⟩
      rw [← hp] at f0 f1 f2 f3 f4 f5 f6 f7 hf hts hrd hel
      have hte := take_enc p hf.1 (by omega) (encL (l.drop (k + 1)))
      obtain ⟨q, hq⟩ : ∃ q, q = (takeP ⟨encP p ++ encL (l.drop (k + 1)), 0⟩ (narrow p)).1 := ⟨_, rfl⟩
      have hgl := hrd.lt
      have hz := hbel.size
      have hT := fun o => take_any g _ (narrow p) (wr.alloc o) (by simp only [narrow]; omega) (hrd.alloc o) (by simp only; omega)
      rw [← hq, hte.1] at hT
      rw [← hq] at hte
      have HG := Lib.hid hte.2
      clear hte
      dsimp only [narrow] at hT
      have HT := Lib.hid hT
      clear hT hp hq hed
      go_wp2_with (fail)
      refine (HT.out _).mono ?_
      rintro e w5 ⟨rfl, hg5, hr5⟩
      have hb8 := (Blk.new wr 38 #[.int .i64 p.kind, .int .u64 p.n, .int .i64 p.i, .bool p.f, .string p.t, .int .i64 p.low, .int .i64 p.high, .int .i64 p.most]).grown hg5 (by intro e; injection e; omega)
      have hbel5 : Below w.heap.size w w5 := (hbel.alloc hz _).grown hg5 (by simp; omega) (fun j hj => by injection hj; omega)
      have q0 := fun o => (hb8.alloc o).cell 0
      have q1 := fun o => (hb8.alloc o).cell 1
      have q2 := fun o => (hb8.alloc o).cell 2
      have q3 := fun o => (hb8.alloc o).cell 3
      have q4 := fun o => (hb8.alloc o).cell 4
      have hr5' := fun o => hr5.alloc o
      have hbel5' := fun o => hbel5.alloc hbel5.size o
      have HR := Lib.hid hr5'
      have HBE := Lib.hid hbel5'
      clear hb8 hr5 hbel5 hg5 hr5' hbel5'
      by_cases k0 : p.kind = 0
      · rw [HG.out.1 k0]
        have n0 : (p.kind == 0) = true := by simpa using k0
        have n1 : (p.kind == 1) = false := by simp; omega
        have n2 : (p.kind == 2) = false := by simp; omega
        have n3 : decide (p.kind < 0) = false := decide_eq_false (by omega)
        have n4 : decide (2 < p.kind) = false := decide_eq_false (by omega)
        clear k0
        go_wp2_with (fail)
        go_roundg (l.length - (k + 1))
        case measure => omega
        case rel => exact ⟨k + 1, by omega, rfl, by go_num, HR.out _, HBE.out _⟩
      by_cases k1 : p.kind = 1
      · rw [HG.out.2.1 k1]
        have n0 : (p.kind == 0) = false := by simp; omega
        have n1 : (p.kind == 1) = true := by simpa using k1
        have n2 : (p.kind == 2) = false := by simp; omega
        have n3 : decide (p.kind < 0) = false := decide_eq_false (by omega)
        have n4 : decide (2 < p.kind) = false := decide_eq_false (by omega)
        clear k0 k1
        go_wp2_with (fail)
        go_roundg (l.length - (k + 1))
        case measure => omega
        case rel => exact ⟨k + 1, by omega, rfl, by go_num, HR.out _, HBE.out _⟩
      by_cases k2 : p.kind = 2
      · rw [HG.out.2.2.1 k2]
        have n0 : (p.kind == 0) = false := by simp; omega
        have n1 : (p.kind == 1) = false := by simp; omega
        have n2 : (p.kind == 2) = true := by simpa using k2
        have n3 : decide (p.kind < 0) = false := decide_eq_false (by omega)
        have n4 : decide (2 < p.kind) = false := decide_eq_false (by omega)
        clear k0 k1 k2
        go_wp2_with (fail)
        go_roundg (l.length - (k + 1))
        case measure => omega
        case rel => exact ⟨k + 1, by omega, rfl, by go_num, HR.out _, HBE.out _⟩
      have n0 : (p.kind == 0) = false := by simpa using k0
      have n1 : (p.kind == 1) = false := by simpa using k1
      have n2 : (p.kind == 2) = false := by simpa using k2
      rw [HG.out.2.2.2 (by omega)]
      by_cases k3 : p.kind < 0
      · have n3 : decide (p.kind < 0) = true := decide_eq_true k3
        clear k0 k1 k2 k3
        go_wp2_with (fail)
        go_roundg (l.length - (k + 1))
        case measure => omega
        case rel => exact ⟨k + 1, by omega, rfl, by go_num, HR.out _, HBE.out _⟩
      · have n3 : decide (p.kind < 0) = false := decide_eq_false k3
        have n4 : decide (2 < p.kind) = true := decide_eq_true (by omega)
        clear k0 k1 k2 k3
        go_wp2_with (fail)
        go_roundg (l.length - (k + 1))
        case measure => omega
        case rel => exact ⟨k + 1, by omega, rfl, by go_num, HR.out _, HBE.out _⟩
    · have e1 : k = l.length := by omega
      have hdn : encL (l.drop k) = [] := by rw [e1, List.drop_length]; rfl
      rw [hdn] at hrd
      have hA : decide (k < l.length) = false := decide_eq_false hlt
      have hE := end_any g ⟨[], 0⟩ wr hrd (by simp)
      rw [show endP ⟨[], 0⟩ = 0 from rfl] at hE
      have HE := Lib.hid hE
      clear hdn hE hlt e1
      go_wp2_with (fail)
      refine HE.out.mono ?_
      rintro e w5 ⟨rfl, rfl⟩
      clear hA HE hrd
      go_wp2_with (fail)
      refine (newr_any A0 b _ c0 w.heap.size wr rfl (by omega) hbel.size (hs0.below hbel)).mono ?_
      rintro e w6 ⟨g2, rfl, hg2, hr6, hb6⟩
      have hB6 := hbel.trans (hb6.mono hbel.size)
      have hwg2 : w.heap.size ≤ g2 := Nat.le_trans hbel.size hg2
      have hg2l := hr6.lt
      clear hb6 hg2
      go_wp2_with (fail)
      go_loopg [11, 12] l.length (fun gk v i wr2 => ∃ j : Nat, j ≤ l.length ∧ gk = l.length - j ∧ i = .int .i64 j ∧ Rd wr2 g2 (takes ⟨b, 0⟩ (l.take j)).2 ∧ wr2.ownsRow (g2 + 1) 38 8 v j (pcl (takes ⟨b, 0⟩ (l.take j)).1) ∧ Below w.heap.size w wr2)
      case atStart => exact ⟨0, Nat.zero_le _, rfl, rfl, hr6, World.ownsRow_nil _ _ _ _, hB6⟩
      case round =>
        clear hr6 hB6 hbel hg2l
        obtain ⟨j, hj, rfl, rfl, hrd, hown, hbel⟩ := hrel
        obtain ⟨A9, c9, rfl, hc9⟩ := own_slice hown
        have hta := takes_all ⟨b, 0⟩ l j hj
        by_cases hlt : j < l.length
        · obtain ⟨ad, rfl, had, f0, f1, f2, f3, f4, f5, f6, f7⟩ := Sl.part (hs.below hbel) hlt
          have hf := HOK.out l[j] (List.getElem_mem hlt)
          have hsn := takes_snoc ⟨b, 0⟩ l j hlt
          obtain ⟨p, hp⟩ : ∃ p, p = l[j] := ⟨_, rfl⟩
          rw [← hp] at f0 f1 f2 f3 f4 f5 f6 f7 hf hsn
          obtain ⟨X, hX⟩ : ∃ X, X = takes ⟨b, 0⟩ (l.take j) := ⟨_, rfl⟩
          rw [← hX] at hrd hown hta hsn
          have hT := take_any g2 X.2 p wr hf.2.2.2 hrd (by have := hta.2.2.2.2; simp only at this; omega)
          obtain ⟨q, hq⟩ : ∃ q, q = (takeP X.2 p).1 := ⟨_, rfl⟩
          rw [← hq] at hT hsn
          have HT := Lib.hid hT
          have HSN := Lib.hid hsn
          have hgl := hrd.lt
          clear hT hsn hp hX hq hta
          go_wp2_with (fail)
          refine HT.out.mono ?_
          rintro e w7 ⟨rfl, hg7, hr7⟩
          have hown7 := hown.kept hg7 (by
            by_cases h : (Value.slice A9 j c9).ownBlock = none
            · exact .inl h
            · refine .inr (fun e => ?_)
              have := (hown.lt g2 e).1
              omega)
          have hbel7 : Below w.heap.size w w7 := hbel.grown hg7 hbel.size (fun j hj => by injection hj; omega)
          have hnl : j + 1 ≤ 1048576 := by omega
          have hz7 : g2 < w7.heap.size := hr7.lt
          clear hown hbel hg7
          obtain ⟨i0, hi, hz0, hz1, hz2⟩ := info_parts partI
          go_wp2_with (first
            | (at_builtin
               refine wpList_append_own _ rfl (.tmp 107) (.tmp 114) _ rfl (g2 + 1) 38 i0 _ 8 72 Try.underlying22 hi hz0 hz1 hz2 rfl (by omega) (.slice A9 j c9) j (pcl X.1) rfl (hown7.alloc _) ⟨w7.heap.size, 0, none⟩ 1 1 (pcs q) rfl rfl (new_cells w7 q) (pcs_one q) (by unfold maxLen; omega) (by omega) (by simp; omega) ?_
               intro v8 w8 hown8 hg8 hnil8
               have hr8 := (hr7.alloc _).grown hg8 (fun k hk => by have := (hown7.lt k hk).1; omega)
               have hbel8 := (hbel7.alloc hbel7.size _).grown hg8 (by have := hbel7.size; simp; omega) (fun k hk => by have := (hown7.lt k hk).1; omega)
               clear hnil8 hg8 hr7 hbel7 hown7))
          go_roundg (l.length - (j + 1))
          case measure => omega
          case rel =>
            refine ⟨j + 1, by omega, rfl, by go_num, ?_, ?_, hbel8⟩
            · rw [HSN.out]; exact hr8
            · rw [HSN.out, pcl_append, pcl_one]; exact hown8
        · have ej : j = l.length := by omega
          have hbk := back b l
          have etk : l.take j = l := by rw [ej]; exact List.take_length
          rw [etk] at hrd hown hta
          obtain ⟨X, hX⟩ : ∃ X, X = takes ⟨b, 0⟩ l := ⟨_, rfl⟩
          rw [← hX] at hrd hown hta hbk
          obtain ⟨t1, t2, -, -, t5⟩ := hta
          simp only at t5
          have hA : decide (j < l.length) = false := decide_eq_false hlt
          obtain ⟨d1, d2, d3⟩ := small t2 (by omega)
          have d4 : (encL X.1).length ≤ 140737488355000 := by have := d1 X.1.length (Nat.le_refl _); rw [List.take_length] at this; omega
          have hbz := hbel.size
          subst t1
          have hsX := Sl.of_row hown
          have HBK := Lib.hid hbk
          have D1 := Lib.hid d1
          have D3 := Lib.hid d3
          have T2 := Lib.hid t2
          clear hX ej etk hlt hown hbk d1 d3 t2
          go_wp2_with (fail)
          refine (new_any wr).mono ?_
          rintro e w7 ⟨rfl, hb7, hw7⟩
          clear hA
          go_wp2_with (fail)
          refine (write_any wr.heap.size A9 X.1 c9 wr.heap.size w7 hw7 (Nat.le_refl _) (hsX.below hb7) T2.out D1.out d2 D3.out).mono ?_
          rintro e w8 ⟨rfl, hb8, hw8⟩
          have hB8 := hb7.trans hb8
          have hbel8 := hbel.trans (hB8.mono hbz)
          have hrd8 := hrd.below hB8 hrd.lt
          have hE := end_any g2 X.2 w8 hrd8 (by omega)
          clear hb7 hb8 hw7 hsX
          go_wp2_with (fail)
          refine hE.mono ?_
          rintro e w9 ⟨rfl, rfl⟩
          clear hE hrd hrd8
          by_cases he : endP X.2 = 0
          · have n0 : (endP X.2 == 0) = true := by simpa using he
            have n1 : (endP X.2 != 0) = false := by simpa using he
            have heq := HBK.out he
            have HEQ := Lib.hid heq
            clear he heq
            go_wp2_with (fail)
            refine (bytes_any wr.heap.size (encL X.1) w8 hw8 (by omega)).mono ?_
            rintro e w10 ⟨A10, c10, rfl, hc10, hs10, hb10⟩
            have hbel10 := hbel8.trans (hb10.mono hbel8.size)
            have h11 := same_any A10 A0 (encL X.1) b _ _ c10 c0 _ _ w10 rfl rfl (by omega) hs10 (hs0.below hbel10)
            rw [decide_eq_true HEQ.out] at h11
            go_wp2_with (fail)
            refine h11.mono ?_
            rintro e w11 ⟨rfl, jj, rfl⟩
            clear h11
            go_wp2_with (fail)
            refine (lives_any _).mono ?_
            rintro e w12 ⟨rfl, hb12⟩
            go_wp2_with (fail)
            go_ret
            exact ⟨rfl, (below_drewN' hbel10 jj).trans (hb12.mono hbel10.size)⟩
          · have n0 : (endP X.2 == 0) = false := by simpa using he
            have n1 : (endP X.2 != 0) = true := by simpa using he
            clear he
            go_wp2_with (fail)
            refine (lives_any _).mono ?_
            rintro e w12 ⟨rfl, hb12⟩
            go_wp2_with (fail)
            go_ret
            exact ⟨rfl, hbel8.trans (hb12.mono hbel8.size)⟩
end Go.Proofs.Ytmaebebckbfjpaa.codeBack
