/-
  The contract of choose: pivots of things that are put in at once.
-/
import Derived.Test.YtgbjpobgjmkjgaaGreatTbS
namespace Go.Proofs.YtgbjpobgjmkjgaaGreat.tab
open Go.RowKit Go.WideShapes law bytes only flat nums ord obj metric pv lae Go.Maps
open aro (Kept)
open store (iE iE_len itemAt)
open told (own_types blk_types)
set_option linter.unusedVariables false

/-- things of items -/
def tho (p : Int × Kept) : At := ⟨p.2.A, p.2.c, p.2.x⟩
def ths (l : List (Int × Kept)) : List At := l.map tho
theorem ths_length (l : List (Int × Kept)) : (ths l).length = l.length := by simp [ths]
theorem ths_take (l : List (Int × Kept)) {k : Nat} (h : k < l.length) : ocs ((ths l).take (k + 1)) = ocs ((ths l).take k) ++ oc (tho l[k]) := by
  have e : (ths l).take (k + 1) = (ths l).take k ++ [tho l[k]] := by
    rw [List.take_succ_eq_append_getElem (by rw [ths_length]; exact h)]
    simp [ths]
  rw [e]
  simp [ocs]
/-- items that no turn of T's blocks reaches -/
structure Its (w : World) (T : Nat → Prop) (A : Option Addr) (l : List (Int × Kept)) : Prop where
  row : Away w T A (l.flatMap iE)
  vec : ∀ p ∈ l, Away w T p.2.A (iv p.2.x.vec)
theorem Its.step {w w' : World} {T T2 : Nat → Prop} {A : Option Addr} {l : List (Int × Kept)} (h : Its w T A l) (o : Only T w w') (hT : ∀ i, i < w.heap.size → ¬ T i → ¬ T2 i) : Its w' T2 A l := ⟨h.row.step o hT, fun p hp => (h.vec p hp).step o hT⟩
theorem Its.below {w w' : World} {T : Nat → Prop} {A : Option Addr} {l : List (Int × Kept)} (h : Its w T A l) (o : Below w.heap.size w w') : Its w' T A l := h.step (Only.of_below o (Nat.le_refl _) _) fun _ _ e => e
/-- a source of draws: what it picks of n, which blocks it turns -/
structure Dr (dv : Value) (DS : Nat → Prop) (Dk : World → Prop) (n p : Int) : Prop where
  keep : ∀ S W W', Dk W → Only S W W' → (∀ i, DS i → ¬ S i) → Dk W'
  pick : ∀ W, Dk W → Calls Tryz.prog 90 #[dv, .int .i64 n] W fun e w' => e = .returned (.int .i64 p) ∧ Only DS W w'
  form : ∃ a, dv = .pointer a
theorem make_objs (n : Nat) (hn : n ≤ 2199023255552) (u : World) : ∃ Z : Array Value, Z.size = n * 3 ∧ (Instr.makeSlice 42 (.int .i64 0) (.int .i64 (n : Int))).run Tryz.prog u =
    .ok (.slice (some ⟨u.heap.size, 0, none⟩) 0 n) (u.alloc (.cells Z 35)) := by
  obtain ⟨i, z, hi, hz, hsz, hby, hzs⟩ := objK
  have h := run_make (P := Tryz.prog) u 42 35 i z Tryz.underlying42 hi hz .i64 .i64 0 (n : Int) (by omega) (by omega) (by rw [hby]; omega) (by omega)
  simp only [Int.toNat_zero, Int.toNat_natCast] at h
  exact ⟨_, by rw [size_madeCells, hsz], h⟩
/-- the things of some places -/
def att (l : List (Int × Kept)) (cs : List Int) : List Thing := cs.map fun c => ((ths l).getD c.toNat ⟨none, 0, zeroO⟩).x
/-- what choose leaves -/
def Chose (w : World) (base tb g mb : Nat) (n k most : Int) (T DS : Nat → Prop) (vR : Value) (P : List At) (R : List Ro) (l : List (Int × Kept)) (cs : List Int) (e : Ending) (w' : World) : Prop :=
  e = .returned (.tuple #[]) ∧ ∃ vP' T' P' R', Tx w' base tb g mb n (k + (cs.length * l.length + cs.length * R.length : Nat)) most T' vP' vR P' R' ∧ P'.map At.x = P.map At.x ++ att l cs ∧ R'.map kk = R.map kk ∧
    Only (fun i => i = g ∨ T i ∨ DS i) w w' ∧ ∀ i, T' i → T i ∨ w.heap.size ≤ i
section
variable {w w' : World} {base tb g mb B i : Nat} {n k most : Int} {T S X DS : Nat → Prop} {vP vR : Value} {P : List At} {R D : List Ro} {r : Ro} {A : Option Addr} {xs : List Value}
/-- behind i of the chosen ones -/
def ChS (w w4 : World) (base tb g mb : Nat) (n k most : Int) (T DS : Nat → Prop) (vR : Value) (P : List At) (R : List Ro) (l : List (Int × Kept)) (cs : List Int) (A5 A1 : Option Addr) (c5 c1 i : Nat) (wr : World) : Prop :=
  ∃ vP' T' P' R', Tx wr base tb g mb n (k + (cs.length * l.length + i * R.length : Nat)) most T' vP' vR P' R' ∧ P'.map At.x = P.map At.x ++ att l (cs.take i) ∧ R'.map kk = R.map kk ∧ Only (fun i => i = g ∨ T i ∨ DS i) w wr ∧ (∀ j, T' j → T j ∨ w4.heap.size ≤ j) ∧ w4.heap.size ≤ wr.heap.size ∧
    wr.ownsRow w.heap.size 3 1 (.slice A5 cs.length c5) cs.length (nv cs) ∧ wr.ownsRow w.heap.size 35 3 (.slice A1 l.length c1) l.length (ocs (ths l))
theorem att_take {l : List (Int × Kept)} {cs : List Int} {i j : Nat} (hi : i < cs.length) (hj : cs[i] = (j : Int)) (hjl : j < l.length) : att l (cs.take (i + 1)) = att l (cs.take i) ++ [l[j].2.x] := by
  unfold att
  rw [List.take_succ_eq_append_getElem hi, List.map_append, hj]
  simp [ths, tho, List.getD, hjl]
set_option maxHeartbeats 1600000 in
theorem ChS.round {w4 wr : World} {A : Option Addr} {l : List (Int × Kept)} {cs : List Int} {A5 A1 : Option Addr} {c5 c1 i j : Nat} (h : ChS w w4 base tb g mb n k most T DS vR P R l cs A5 A1 c5 c1 i wr) (hl : Its w (fun i => i = g ∨ T i ∨ DS i) A l) (hbf : ∀ q ∈ l, Bf q.2.x) (hgb : g < base)
    (hT : ∀ i, T i → base ≤ i ∧ i < w.heap.size) (hbw : base ≤ w.heap.size) (h5 : ∀ j, (Value.slice A5 cs.length c5).ownBlock = some j → j < w4.heap.size) (h1 : ∀ j, (Value.slice A1 l.length c1).ownBlock = some j → j < w4.heap.size)
    (hi : i < cs.length) (hj : cs[i] = (j : Int)) (hjl : j < l.length) (hP : P.length + l.length ≤ 1048576) (hR : R.length ≤ 1048576) (hk : 0 ≤ k ∧ k ≤ 1152921504606846976) (hcl : cs.length ≤ l.length) :
    (∃ b, A5 = some ⟨b, 0, none⟩ ∧ wr.cell? ⟨b, i, none⟩ = some (.int .i64 (j : Int))) ∧ (∃ b, A1 = some ⟨b, 0, none⟩ ∧ wr.cell? ⟨b, j * 3, none⟩ = some (.int .i64 l[j].2.x.tag) ∧ wr.cell? ⟨b, j * 3 + 1, none⟩ = some (.slice l[j].2.A l[j].2.x.vec.length l[j].2.c) ∧ wr.cell? ⟨b, j * 3 + 2, none⟩ = some (.string l[j].2.x.str)) ∧
    Calls Tryz.prog 52 #[.agg #[.int .i64 l[j].2.x.tag, .slice l[j].2.A l[j].2.x.vec.length l[j].2.c, .string l[j].2.x.str]] wr fun e w5 => ∃ A2 k2, e = .returned (.agg #[.int .i64 l[j].2.x.tag, .slice A2 l[j].2.x.vec.length k2, .string l[j].2.x.str]) ∧
      Hid (Calls Tryz.prog 91 #[.pointer (some ⟨tb, 0, none⟩), .agg #[.int .i64 l[j].2.x.tag, .slice A2 l[j].2.x.vec.length k2, .string l[j].2.x.str]] w5 fun e w6 => e = .returned (.tuple #[]) ∧ ChS w w4 base tb g mb n k most T DS vR P R l cs A5 A1 c5 c1 (i + 1) w6) := by
  obtain ⟨vP', T', P', R', hT1, hPm, hRk, hO, hT', hs4, ho5, ho1⟩ := h
  obtain ⟨b5, d5, e5, -, -, -⟩ := own_form ho5 (by omega)
  injection e5 with e5 _ e5'
  subst e5 e5'
  obtain ⟨b1, d1, e1, -, -, -⟩ := own_form ho1 (by omega)
  injection e1 with e1 _ e1'
  subst e1 e1'
  have hw4 : w.heap.size ≤ w4.heap.size := by
    have h9 := (own_lt ho5 (g := b5) rfl).1
    have := h5 b5 rfl
    omega
  have hRl : R'.length = R.length := by simpa using congrArg List.length hRk
  have hPl : P'.length = P.length + i := by
    have := congrArg List.length hPm
    simp [att] at this
    omega
  have hcell : ∀ q, q < 3 → wr.cell? ⟨b1, j * 3 + q, none⟩ = (oc (tho l[j]))[q]? := fun q hq => by
    have hjl2 : j < (ths l).length := by rw [ths_length]; exact hjl
    rw [own_cellK (E := oc) ho1 oc_len (by rw [ths_length]; exact Nat.le_refl _) j q hjl2 hq]
    simp [ths]
  have hmem : l[j] ∈ l := List.getElem_mem hjl
  have hbq := hbf _ hmem
  have hvec := ((hl.vec _ hmem).step (T2 := fun i => i = g ∨ T i ∨ DS i) hO fun i _ e => e).sl
  obtain ⟨q, hq⟩ : ∃ q, l[j] = q := ⟨_, rfl⟩
  have hatt := att_take hi hj hjl
  rw [hq] at hbq hvec hcell hatt ⊢
  refine ⟨⟨b5, rfl, ?_⟩, ⟨b1, rfl, hcell 0 (by omega), hcell 1 (by omega), hcell 2 (by omega)⟩, ?_⟩
  · rw [World.ownsRow.cellAt ho5 i (by omega)]
    simp [nv, hi, hj]
  refine (cloneO_any q.2.A q.2.c wr.heap.size q.2.x wr (by have := hbq.2.1; omega) (by have := hbq.2.2; omega) (Nat.le_refl _) hvec).mono fun e w5 ⟨A2, k2, he, hown, hb⟩ => ⟨A2, k2, he, Lib.hid ?_⟩
  have hTw := hT1.below hb
  have hbase := hT1.base_le
  refine (addPivot_any (x := ⟨A2, k2, q.2.x⟩) hTw hbq hown hbase (by omega) (by omega) ⟨by omega, ?_⟩).mono fun e w6 ⟨he, vP2, D2, hT2, hk2, hO2⟩ => ⟨he, vP2, Mr w5.heap.size T' (Xv ⟨A2, k2, q.2.x⟩) w6, P' ++ [⟨A2, k2, q.2.x⟩], D2, ?_, ?_, hk2.trans hRk, ?_, ?_, ?_, ?_, ?_⟩
  · have h1 : cs.length * l.length ≤ 1048576 * 1048576 := Nat.mul_le_mul (by omega) (by omega)
    have h2 : i * R.length ≤ 1048576 * 1048576 := Nat.mul_le_mul (by omega) (by omega)
    omega
  · have e : k + ((cs.length * l.length + i * R.length : Nat) : Int) + (R'.length : Int) = k + ((cs.length * l.length + (i + 1) * R.length : Nat) : Int) := by rw [hRl, Nat.succ_mul]; push_cast; omega
    rw [← e]
    exact hT2
  · rw [List.map_append, hPm, hatt, List.append_assoc]
    rfl
  · refine (hO.on hb).trans hO2 fun i e => ?_
    rcases e with e | e
    · exact .inl (.inl e)
    · exact (hT' i e).imp (fun e => .inr (.inl e)) fun e => by omega
  · intro j' e
    rcases e with e | e | e
    · exact hT' j' e
    · exact .inr (by have := (own_lt hown e).1; omega)
    · exact .inr (by have := e.1; have := hb.size; omega)
  · have := hO2.size; have := hb.size; omega
  · refine own_only (own_below ho5 hb (Nat.le_refl _)) hO2 fun i e e2 => ?_
    have h9 := (own_lt ho5 e).1
    have h10 := h5 i e
    rcases e2 with e2 | e2
    · omega
    · rcases hT' i e2 with e3 | e3
      · have := (hT i e3).2; omega
      · omega
  · refine own_only (own_below ho1 hb (Nat.le_refl _)) hO2 fun i e e2 => ?_
    have h9 := (own_lt ho1 e).1
    have h10 := h1 i e
    rcases e2 with e2 | e2
    · omega
    · rcases hT' i e2 with e3 | e3
      · have := (hT i e3).2; omega
      · omega
set_option maxRecDepth 100000 in
set_option maxHeartbeats 3200000 in
theorem choose_tb {A : Option Addr} {c : Nat} {l : List (Int × Kept)} {dv : Value} {Dk : World → Prop} {p : Int} (h : Tx w base tb g mb n k most T vP vR P R) (hl : Its w (fun i => i = g ∨ T i ∨ DS i) A l) (hbf : ∀ q ∈ l, Bf q.2.x)
    (hd : Dr dv DS Dk l.length p) (hdk : Dk w) (hDS : ∀ i, DS i → ¬ (i = g ∨ T i) ∧ i < w.heap.size) (hP : P.length + l.length ≤ 1048576) (hR : R.length ≤ 1048576) (hk : 0 ≤ k ∧ k ≤ 1152921504606846976) :
    Calls Tryz.prog 58 #[.pointer (some ⟨tb, 0, none⟩), .slice A l.length c, dv] w (Chose w base tb g mb n k most T DS vR P R l (chs (dt n (ths l)) U63 (ths l) most p)) := by
  obtain ⟨cs, hcs⟩ : ∃ cs, chs (dt n (ths l)) U63 (ths l) most p = cs := ⟨_, rfl⟩
  have hon : Once (dt n (ths l)) (ths l) cs := by rw [← hcs]; exact chs_once (fun k hk => dt_self n _ k hk) _ _
  have hcl := hon.len
  rw [ths_length] at hcl
  obtain ⟨Z, hZ, hmk⟩ := make_objs l.length (by omega) w
  obtain ⟨V, hV⟩ : ∃ V, V = w.alloc (.cells Z 35) := ⟨_, rfl⟩
  have hbV : Below w.heap.size w V := by rw [hV]; exact (Below.refl _ _).alloc (Nat.le_refl _) _
  have hoV : V.ownsRow w.heap.size 35 3 (.slice (some ⟨w.heap.size, 0, none⟩) 0 l.length) 0 (ocs ((ths l).take 0)) := by
    rw [hV]; exact World.ownsRow_made w Z _ (Nat.le_refl _) (by unfold maxLen; omega) hZ
  have HSL := Lib.hid hl.row.sl
  have HH := Lib.hid (And.intro h (And.intro hl (And.intro hbf (And.intro hd (And.intro hdk hDS)))))
  have HK := Lib.hid (And.intro hP (And.intro hR (And.intro hk hcl)))
  have HON := Lib.hid hon
  have HOV := Lib.hid (And.intro hoV (And.intro hbV (show w.heap.size + 1 ≤ V.heap.size by rw [hV]; simp)))
  have HV := Lib.hid hV
  have HCS := Lib.hid hcs
  rw [hcs]
  have hl63 : (l.length : Int) < 9223372036854775807 := by omega
  have hll : l.length ≤ 1048576 := by omega
  clear h hl hbf hd hdk hDS hP hR hk hon hoV hbV hV hcs hZ
  go_enter Tryz.func58, Tryz.ntmps58
  go_wp2_with (fail)
  rw [← HV.out]
  clear hmk HV
  go_loopg [6, 16] l.length (fun gk s6 s16 wr => ∃ (i c1 : Nat) (A1 : Option Addr), gk = l.length - i ∧ i ≤ l.length ∧ s6 = .slice A1 i c1 ∧ s16 = .int .i64 i ∧ wr.ownsRow w.heap.size 35 3 (.slice A1 i c1) i (ocs ((ths l).take i)) ∧ Below w.heap.size w wr)
  case atStart => exact ⟨0, _, _, rfl, Nat.zero_le _, rfl, rfl, HOV.out.1, HOV.out.2.1⟩
  case round =>
    clear HOV
    obtain ⟨i, c1, A1, rfl, hi, rfl, rfl, hown, hb⟩ := hrel
    by_cases hlt : i < l.length
    · have i1 : (i : Int) < (l.length : Int) := by omega
      obtain ⟨b, o, rfl, hb1, d0, d1, d2, d3⟩ := itemAt (HSL.out.below hb) hlt
      have htk := ths_take l hlt
      obtain ⟨q, hq⟩ : ∃ q, l[i] = q := ⟨_, rfl⟩
      rw [hq] at d0 d1 d2 d3 htk
      have HT : Hid (ocs ((ths l).take (i + 1)) = ocs ((ths l).take i) ++ [.int .i64 q.2.x.tag, .slice q.2.A q.2.x.vec.length q.2.c, .string q.2.x.str]) := Lib.hid htk
      have hsz := hb.size
      have HBK := Lib.hid (And.intro hown (And.intro hb hsz))
      have q1 : (wr.alloc (.cells #[.int .u64 q.1, .int .i64 q.2.x.tag, .slice q.2.A q.2.x.vec.length q.2.c, .string q.2.x.str] 37)).cell? ⟨wr.heap.size, 1, none⟩ = some (.int .i64 q.2.x.tag) := (Blk.new wr 37 #[.int .u64 q.1, .int .i64 q.2.x.tag, .slice q.2.A q.2.x.vec.length q.2.c, .string q.2.x.str]).cell 1
      have q2 : (wr.alloc (.cells #[.int .u64 q.1, .int .i64 q.2.x.tag, .slice q.2.A q.2.x.vec.length q.2.c, .string q.2.x.str] 37)).cell? ⟨wr.heap.size, 2, none⟩ = some (.slice q.2.A q.2.x.vec.length q.2.c) := (Blk.new wr 37 #[.int .u64 q.1, .int .i64 q.2.x.tag, .slice q.2.A q.2.x.vec.length q.2.c, .string q.2.x.str]).cell 2
      have q3 : (wr.alloc (.cells #[.int .u64 q.1, .int .i64 q.2.x.tag, .slice q.2.A q.2.x.vec.length q.2.c, .string q.2.x.str] 37)).cell? ⟨wr.heap.size, 3, none⟩ = some (.string q.2.x.str) := (Blk.new wr 37 #[.int .u64 q.1, .int .i64 q.2.x.tag, .slice q.2.A q.2.x.vec.length q.2.c, .string q.2.x.str]).cell 3
      have hsl := Sl.lit (wr.alloc (.cells #[.int .u64 q.1, .int .i64 q.2.x.tag, .slice q.2.A q.2.x.vec.length q.2.c, .string q.2.x.str] 37)) [.int .i64 q.2.x.tag, .slice q.2.A q.2.x.vec.length q.2.c, .string q.2.x.str] 35
      rw [show (wr.alloc (.cells #[.int .u64 q.1, .int .i64 q.2.x.tag, .slice q.2.A q.2.x.vec.length q.2.c, .string q.2.x.str] 37)).heap.size = wr.heap.size + 1 by simp] at hsl
      have HSQ := Lib.hid hsl
      clear hown hb htk hq hsl
      go_wp2_with (at_builtin
                   refine wpList_append_slk _ rfl (.tmp 20) (.tmp 23) _ rfl w.heap.size 35 3 48 Tryz.underlying42 objK (by omega) (.slice A1 i c1) i (ocs ((ths l).take i)) rfl (World.ownsRow.alloc (World.ownsRow.alloc (w := wr) HBK.out.1 _) _) _ _ 1 1 [.int .i64 q.2.x.tag, .slice q.2.A q.2.x.vec.length q.2.c, .string q.2.x.str] rfl HSQ.out rfl (by simp [Value.oneCell']) (by omega) (by unfold maxLen; omega) (by simp; omega) ?_
                   intro v4 w4 hown4 hg4 hat4
                   obtain ⟨A4, c4, rfl, hc4⟩ := own_slice hown4)
      go_roundg (l.length - (i + 1))
      case measure => omega
      case rel => exact ⟨i + 1, c4, A4, rfl, by omega, rfl, by go_num, by rw [HT.out]; exact hown4, below_appendK1 (HBK.out.2.1.alloc hsz _) (by simp; omega) _ (HBK.out.1.alloc _) (Nat.le_refl _) hg4⟩
    · obtain rfl : i = l.length := by omega
      have i1 : ¬ (l.length : Int) < (l.length : Int) := by omega
      rw [List.take_of_length_le (by rw [ths_length]; exact Nat.le_refl _)] at hown
      have hsz := hb.size
      -- what Pick and Choose find
      obtain ⟨hgb0, htt0⟩ : g < w.heap.size ∧ tb < w.heap.size := ⟨HH.out.1.mt.lt, (HH.out.1.low _ HH.out.1.tt).2⟩
      have HST : Hid (∀ W, Below wr.heap.size wr W → W.cell? ⟨tb, 0, none⟩ = some (.pointer (some ⟨g, 0, none⟩)) ∧ W.cell? ⟨tb, 1, none⟩ = some (.int .i64 most)) := Lib.hid fun W hW => by
        obtain ⟨t0, t1, -⟩ := ((HH.out.1.below hb).below hW).cells
        exact ⟨t0, t1⟩
      have HPK : Hid (∀ W, Below wr.heap.size wr W → Calls Tryz.prog 90 #[dv, .int .i64 l.length] W fun e w2 => e = .returned (.int .i64 p) ∧ (w2.cell? ⟨tb, 0, none⟩ = some (.pointer (some ⟨g, 0, none⟩)) ∧ w2.cell? ⟨tb, 1, none⟩ = some (.int .i64 most)) ∧
          Hid (∀ W3, Below w2.heap.size w2 W3 → Calls Tryz.prog 89 #[.pointer (some ⟨g, 0, none⟩), .slice A1 l.length c1, .int .i64 most, .int .i64 p] W3 fun e w4 => ∃ A5 c5, e = .returned (.slice A5 cs.length c5) ∧ (w4.cell? ⟨tb, 0, none⟩ = some (.pointer (some ⟨g, 0, none⟩)) ∧ w4.cell? ⟨tb, 1, none⟩ = some (.int .i64 most)) ∧
            Hid (Tx w4 base tb g mb n (k + (cs.length * l.length : Nat)) most T vP vR P R ∧ w4.ownsRow w.heap.size 3 1 (.slice A5 cs.length c5) cs.length (nv cs) ∧ w4.ownsRow w.heap.size 35 3 (.slice A1 l.length c1) l.length (ocs (ths l)) ∧ Only (fun i => i = g ∨ T i ∨ DS i) w w4 ∧ w.heap.size ≤ w4.heap.size))) := Lib.hid fun W hW => by
        obtain ⟨h, hl, hbf, hd, hdk, hDS⟩ := HH.out
        obtain ⟨hP, hR, hk, hcl⟩ := HK.out
        have hbW : Below w.heap.size w W := hb.trans (hW.mono hsz)
        refine (hd.pick W (hd.keep (fun _ => False) w W hdk (Only.of_below hbW (Nat.le_refl _) _) fun _ _ e => e)).mono fun e w2 ⟨he, ho⟩ => ?_
        have h2 := (h.below hbW).only ho fun i e e2 => (hDS i e2).1 e
        have ho2 : Only DS w w2 := (Only.of_below hbW (Nat.le_refl _) _).trans ho fun i e => .inl e
        obtain ⟨t0, t1, -⟩ := h2.cells
        have own2 := own_only (own_below hown hW (Nat.le_refl _)) ho fun i e e2 => by have := (own_lt hown e).1; have := (hDS i e2).2; omega
        have s2 := ho2.size
        refine ⟨he, ⟨t0, t1⟩, Lib.hid fun W3 hW3 => ?_⟩
        have h3 := h2.below hW3
        have own3 := own_below own2 hW3 (Nat.le_refl _)
        have ho3 : Only DS w W3 := ho2.on hW3
        have hF : Fit W3 g n k A1 (ths l) := ⟨⟨Away.made (by decide) own3 fun i e => by rw [e]; omega, fun q hq j u hj => by
          obtain ⟨q0, hq0, rfl⟩ := List.mem_map.1 hq
          have h1 := (hl.vec q0 hq0).step (T2 := fun i => i = g ∨ T i ∨ DS i) (ho3.mono fun i e => .inl (.inr (.inr e))) fun i _ e => e
          obtain ⟨ad, e, hb1, hn1, hc1⟩ := h1 j u hj
          exact ⟨ad, e, hb1, fun e => hn1 (.inl e), hc1⟩⟩, h3.mt, fun q hq => by
          obtain ⟨q0, hq0, rfl⟩ := List.mem_map.1 hq
          exact hbf q0 hq0⟩
        have hC := choose_any W3 g n k A1 c1 (ths l) most p hF ⟨hk.1, by omega⟩ (by rw [ths_length]; omega)
        rw [ths_length, HCS.out] at hC
        refine hC.mono fun e w4 ⟨A5, c5, he, own5, ho5, hm5⟩ => ?_
        have h4 := h3.asked ho5 hm5
        obtain ⟨t0, t1, -⟩ := h4.cells
        have s3 := hW3.size
        refine ⟨A5, c5, he, ⟨t0, t1⟩, Lib.hid ⟨h4, pv.own_base own5 (by omega), own_only own3 ho5 fun i e e2 => by have := (own_lt own3 e).1; omega, (ho3.mono fun i e => .inl (.inr (.inr e))).trans ho5 fun i e => .inl (.inl e), by have := ho5.size; omega⟩⟩
      obtain ⟨t0, t1⟩ := HST.out wr (Below.refl _ _)
      clear hown hb HCS
      go_wp2_with (fail)
      go_region_held3 (fun W => W.cell? ⟨tb, 0, none⟩ = some (.pointer (some ⟨g, 0, none⟩)) ∧ W.cell? ⟨tb, 1, none⟩ = some (.int .i64 most))
        ((first | (with_reducible assumption) | (refine HST.out _ ?_; repeat' (first | (with_reducible assumption) | (with_reducible exact Below.refl _ _) | (with_reducible refine Below.drew ?_) | (with_reducible refine below_drewN' ?_ _)))))
        (first
          | (go_at_call 90; (with_reducible refine (HPK.out _ (by repeat' (first | (with_reducible exact Below.refl _ _) | (with_reducible assumption) | (with_reducible refine Below.drew ?_) | (with_reducible refine below_drewN' ?_ _)))).mono ?_); rintro e w2 ⟨rfl, hs2, hx2⟩)
          | (go_at_call 89; (with_reducible refine (hx2.out _ (by repeat' (first | (with_reducible exact Below.refl _ _) | (with_reducible assumption) | (with_reducible refine Below.drew ?_) | (with_reducible refine below_drewN' ?_ _)))).mono ?_); rintro e w4 ⟨A5, c5, rfl, hs4, hx4⟩))
      all_goals
        have HR : Hid ((∀ j, (Value.slice A5 cs.length c5).ownBlock = some j → j < w4.heap.size) ∧ (∀ j, (Value.slice A1 l.length c1).ownBlock = some j → j < w4.heap.size) ∧ ChS w w4 base tb g mb n k most T DS vR P R l cs A5 A1 c5 c1 0 w4) := Lib.hid (by
          obtain ⟨x1, x2, x3, x4, x5⟩ := hx4.out
          refine ⟨fun j e => (own_lt x2 e).2, fun j e => (own_lt x3 e).2, vP, T, P, R, ?_, ?_, rfl, x4, fun j e => .inl e, Nat.le_refl _, x2, x3⟩
          · simpa using x1
          · simp [att])
        clear hx2 hs2 hx4 hs4 HPK HST t0 t1 HSL
        have hcs63 : (cs.length : Int) < 9223372036854775807 := by have := HK.out.2.2.2; omega
        go_wp2_with (fail)
        go_loopg [41] cs.length (fun gk s41 wr => ∃ i : Nat, gk = cs.length - i ∧ i ≤ cs.length ∧ s41 = .int .i64 i ∧ ChS w w4 base tb g mb n k most T DS vR P R l cs A5 A1 c5 c1 i wr)
        case atStart => exact ⟨0, rfl, Nat.zero_le _, rfl, HR.out.2.2⟩
        case round =>
          obtain ⟨i, rfl, hi, rfl, hch⟩ := hrel
          by_cases hlt : i < cs.length
          · have i1 : (i : Int) < (cs.length : Int) := by omega
            obtain ⟨hc0, hc1⟩ := HON.out.low cs[i] (List.getElem_mem hlt)
            rw [ths_length] at hc1
            obtain ⟨j, hj⟩ : ∃ j : Nat, cs[i] = (j : Int) := ⟨cs[i].toNat, by omega⟩
            rw [hj] at hc1
            have hjl : j < l.length := by omega
            obtain ⟨h, hl, hbf, hd, hdk, hDS⟩ := HH.out
            obtain ⟨hP, hR, hk, hcl⟩ := HK.out
            obtain ⟨⟨b5, rfl, e5⟩, ⟨b1, rfl, d0, d1, d2⟩, hC⟩ := hch.round hl hbf h.gb h.low h.base_le HR.out.1 HR.out.2.1 hlt hj hjl hP hR hk hcl
            have HC := Lib.hid hC
            have i2 : (j : Int) < (l.length : Int) := by omega
            clear hC hch h hl hbf hd hdk hDS hP hR hk hcl hc0 hj
            generalize l[j] = q at d0 d1 d2 HC
            go_wp2_with (fail)
            refine HC.out.mono ?_
            rintro e w5 ⟨A2, k2, rfl, hA⟩
            clear HC d0 d1 d2 e5
            go_wp2_with (fail)
            refine hA.out.mono ?_
            rintro e w6 ⟨rfl, hch⟩
            have HCH := Lib.hid hch
            clear hA hch
            go_wp2_with (fail)
            go_roundg (cs.length - (i + 1))
            case measure => omega
            case rel => exact ⟨i + 1, rfl, by omega, by go_num, HCH.out⟩
          · obtain rfl : i = cs.length := by omega
            have i1 : ¬ (cs.length : Int) < (cs.length : Int) := by omega
            have HE : Hid (Chose w base tb g mb n k most T DS vR P R l cs (.returned (.tuple #[])) wr) := Lib.hid (by
              obtain ⟨vP', T', P', R', h1, h2, h3, h4, h5, h6, -, -⟩ := hch
              rw [List.take_length] at h2
              exact ⟨rfl, vP', T', P', R', h1, h2, h3, h4, fun i e => (h5 i e).imp (fun e => e) fun e => by
                obtain ⟨x1, x2, x3, x4, x5⟩ : _ ∧ _ ∧ _ ∧ _ ∧ w.heap.size ≤ w4.heap.size := ⟨trivial, trivial, trivial, trivial, by
                  obtain ⟨_, _, _, _, _, _, _, h9, _⟩ := HR.out.2.2
                  exact h9.size⟩
                omega⟩)
            clear hch
            go_wp2_with (fail)
            refine bodyPost_ret (v := .tuple #[]) (by simp [results, Tryz.results58, go_sem]) rfl ?_
            exact HE.out
end
end Go.Proofs.YtgbjpobgjmkjgaaGreat.tab
