/-
  The contract of Bulk.
-/
import Derived.Test.YtaamlidflfdjkaaBkN
namespace Go.Proofs.Ytaamlidflfdjkaa.bk
open Go.RowKit Go.WideShapes law bytes only flat nums ord obj metric tab
open aro (Kept)
open store (iE iE_len itemAt rM)
open told (own_types blk_types)
open Go.Maps Go.ChangeAt
set_option linter.unusedVariables false
set_option maxRecDepth 100000

theorem fe_zero {p : Int → Bool} {l : List Int} (h : idx.fe p l = 0) : ∀ j, j < l.length → idx.dup p l j = false := fun j hj => by
  unfold idx.fe at h
  split at h
  · cases h
  · rename_i hn
    unfold idx.fr at hn
    cases hf : (List.range l.length).find? (idx.dup p l) with
    | some q =>
      rw [hf] at hn
      have := List.find?_some hf
      have hm := List.mem_of_find?_eq_some hf
      simp at hm
      exact absurd hm hn
    | none =>
      have := List.find?_eq_none.1 hf j (by simpa using hj)
      simpa using this
/-- behind some of the things that are put in -/
def BuS (w : World) (base tb g : Nat) (n k : Int) (T : Nat → Prop) (L : List Bn) (l : List (Int × Kept)) (i : Nat) (wr : World) : Prop :=
  ∃ (k' : Int) (T' : Nat → Prop) (N' : List Nd), Bx wr base tb g n k' T' N' ∧ N'.map bn = puts n L (rM (l.take i)) ∧ k ≤ k' ∧ k' ≤ k + (i * 2097152 : Nat) ∧ Only (fun i => i = g ∨ T i) w wr ∧ ∀ j, T' j → T j ∨ w.heap.size ≤ j
/-- what Bulk leaves -/
def Bulked (w : World) (base tb g : Nat) (n k : Int) (T : Nat → Prop) (L : List Bn) (l : List (Int × Kept)) (e : Ending) (w' : World) : Prop :=
  e = .returned (.int .i64 (idx.fe (live L) (idx.ids l))) ∧ ∃ (k' : Int) (T' : Nat → Prop) (N' : List Nd), Bx w' base tb g n k' T' N' ∧ k ≤ k' ∧ k' ≤ k + (l.length * 2097152 : Nat) ∧ N'.map bn = (if idx.fe (live L) (idx.ids l) = 0 then puts n L (rM l) else L) ∧ Only (fun i => i = g ∨ T i) w w' ∧ ∀ j, T' j → T j ∨ w.heap.size ≤ j
section
variable {w w' w1 W W' : World} {base tb g hb pb mh mp B i : Nat} {n k : Int} {T S : Nat → Prop} {vN v4 : Value} {N : List Nd} {DH DP D1 : DataW Unit} {d : Nd} {t t' : TypeId} {A : Option Addr} {xs : List Value} {id : Int} {x : At} {gone : Bool} {par edge : Int}
set_option maxHeartbeats 1600000 in
theorem BuS.round {wr : World} {A : Option Addr} {L : List Bn} {l : List (Int × Kept)} (h : BuS w base tb g n k T L l i wr) (hl : Its w (fun i => i = g ∨ T i) A l) (hbf : ∀ q ∈ l, Bf q.2.x) (hw : idx.Wf l) (hi : i < l.length)
    (hd : ∀ j, j < (idx.ids l).length → idx.dup (live L) (idx.ids l) j = false) (hL : L.length + l.length ≤ 1048576) (hk : 0 ≤ k ∧ k + (l.length * 2097152 : Nat) ≤ 4611686018427387904) :
    Its wr (fun i => i = g ∨ T i) A l ∧ ∀ W, Below wr.heap.size wr W → Calls Try.prog 25 #[.pointer (some ⟨tb, 0, none⟩), .agg #[.int .u64 l[i].1, .int .i64 l[i].2.x.tag, .slice l[i].2.A l[i].2.x.vec.length l[i].2.c, .string l[i].2.x.str]] W fun e w' => e = .returned (.tuple #[]) ∧ BuS w base tb g n k T L l (i + 1) w' := by
  obtain ⟨k', T', N', hX, hN, hk1, hk2, hO, hT'⟩ := h
  have hI : Its wr (fun i => i = g ∨ T i) A l := hl.step hO fun i _ e => e
  refine ⟨hI, fun W hW => ?_⟩
  have hmem : l[i] ∈ l := List.getElem_mem hi
  have hlen : i < (idx.ids l).length := by rw [idx.ids_length]; exact hi
  have hNl : N'.length = L.length + i := by
    have := congrArg List.length hN
    rw [puts_len, List.length_map, store.rM_length, List.length_take] at this
    omega
  have hnew : live (N'.map bn) l[i].1 = false := by
    have h1 := hd i hlen
    rw [idx.dup_at (idx.ids_at hi)] at h1
    simp only [Bool.or_eq_false_iff] at h1
    rw [hN, live_puts, h1.2, Bool.false_or]
    have e : (rM (l.take i)).map (·.1) = (idx.ids l).take i := by simp [rM, idx.ids, Function.comp_def, List.map_take]
    rw [e]
    exact h1.1
  have hO2 := hO.on hW
  have hvec := (hI.vec _ hmem).sl
  obtain ⟨q, hq⟩ : ∃ q, l[i] = q := ⟨_, rfl⟩
  have hbq := hbf _ hmem
  have hwq := hw _ hmem
  have htk : rM (l.take (i + 1)) = rM (l.take i) ++ [(q.1, q.2.x)] := by rw [List.take_succ_eq_append_getElem hi, hq]; simp [rM]
  rw [hq] at hbq hwq hnew hvec ⊢
  refine (put_any (hX.below hW) q.1 ⟨q.2.A, q.2.c, q.2.x⟩ ((hvec.below hW).more hW.size) hbq hwq (live_none hnew) (by omega) ⟨by omega, by omega⟩).mono fun e w' hP => ⟨hP.1, ?_⟩
  obtain ⟨-, k2, T2, N2, h1, h2, h3, h4, h5, h6, -⟩ := hP
  have hLl : (N'.map bn).length = N'.length := List.length_map _
  rw [hLl] at h2
  refine ⟨k2, T2, N2, h3, ?_, by omega, ?_, ?_, ?_⟩
  · rw [h4, htk, puts_snoc, hN]
  · have : (i + 1) * 2097152 = i * 2097152 + 2097152 := by omega
    omega
  · refine hO2.trans h5 fun i e => ?_
    rcases e with e | e
    · exact .inl (.inl e)
    · exact (hT' i e).imp (fun e => .inr e) fun e => e
  · intro j e
    rcases h6 j e with e | e
    · exact hT' j e
    · exact .inr (by have := hW.size; have := hO.size; omega)
set_option maxHeartbeats 3200000 in
theorem bulk_any {A : Option Addr} {c : Nat} {l : List (Int × Kept)} {a : Option Addr} (h : Bx w base tb g n k T N) (hl : Its w (fun i => i = g ∨ T i) A l) (hbf : ∀ q ∈ l, Bf q.2.x) (hw : idx.Wf l) (hN : N.length + l.length ≤ 1048576) (hk : 0 ≤ k ∧ k ≤ 1152921504606846976) :
    Calls Try.prog 14 #[.pointer (some ⟨tb, 0, none⟩), .slice A l.length c, .pointer a] w (Bulked w base tb g n k T (N.map bn) l) := by
  have HF : Hid (Calls Try.prog 30 #[.slice A l.length c, .func (.func 24) #[.pointer (some ⟨tb, 0, none⟩)] #[]] w fun e w' => e = .returned (.tuple #[.int .i64 (idx.fr (live (N.map bn)) (idx.ids l)), .int .i64 (idx.fe (live (N.map bn)) (idx.ids l))]) ∧ Below w.heap.size w w') :=
    Lib.hid (idx.freshv_any (has_V h) A c w.heap.size l w ⟨h, Nat.le_refl _⟩ (Nat.le_refl _) (Nat.le_refl _) hl.row.sl hw (by omega))
  have hmf : ∀ (fn : Fn) (first cap : Array Value) (w : World), (Instr.makeFunc fn first cap).run Try.prog w = .ok (.func fn first cap) w := fun _ _ _ _ => rfl
  have hl63 : (l.length : Int) < 9223372036854775807 := by omega
  have hfe : idx.fe (live (N.map bn)) (idx.ids l) = 0 ∨ idx.fe (live (N.map bn)) (idx.ids l) = 4 := by
    unfold idx.fe
    split <;> simp
  rcases hfe with hf | hf
  · have hdup := fe_zero hf
    have HC : Hid (∀ w0, Below w.heap.size w w0 → BuS w0 base tb g n k T (N.map bn) l 0 w0 ∧ (∀ i wr, (hi : i < l.length) → BuS w0 base tb g n k T (N.map bn) l i wr → Its wr (fun i => i = g ∨ T i) A l ∧ ∀ W, Below wr.heap.size wr W → Calls Try.prog 25 #[.pointer (some ⟨tb, 0, none⟩), .agg #[.int .u64 l[i].1, .int .i64 l[i].2.x.tag, .slice l[i].2.A l[i].2.x.vec.length l[i].2.c, .string l[i].2.x.str]] W fun e w' => e = .returned (.tuple #[]) ∧ BuS w0 base tb g n k T (N.map bn) l (i + 1) w') ∧
        ∀ wr, BuS w0 base tb g n k T (N.map bn) l l.length wr → Bulked w base tb g n k T (N.map bn) l (.returned (.int .i64 0)) wr) := Lib.hid fun w0 hb => by
      refine ⟨⟨k, T, N, h.below hb, by simp [puts, rM], Int.le_refl _, by omega, Only.refl _ _, fun j e => .inl e⟩, fun i wr hi hS => hS.round (hl.below hb) hbf hw hi hdup (by rw [List.length_map]; exact hN) ⟨hk.1, by omega⟩, fun wr hS => ?_⟩
      obtain ⟨k', T', N', h1, h2, h3, h4, h5, h6⟩ := hS
      rw [List.take_length] at h2
      exact ⟨by rw [hf], k', T', N', h1, h3, h4, by rw [if_pos hf]; exact h2, (Only.of_below hb (Nat.le_refl _) _).trans h5 fun i e => .inl e, fun j e => (h6 j e).imp (fun e => e) fun e => by have := hb.size; omega⟩
    rw [hf] at HF
    clear h hl hbf hw hN hk hf hdup
    go_enter Try.func14, Try.ntmps14
    go_wp2_with (fail)
    refine HF.out.mono ?_
    rintro e w0 ⟨rfl, hb⟩
    have HC0 := Lib.hid (HC.out w0 hb)
    clear HC HF hb
    go_wp2_with (fail)
    go_loopg [25] l.length (fun gk s25 wr => ∃ i : Nat, gk = l.length - i ∧ i ≤ l.length ∧ s25 = .int .i64 i ∧ BuS w0 base tb g n k T (N.map bn) l i wr)
    case atStart => exact ⟨0, rfl, Nat.zero_le _, rfl, HC0.out.1⟩
    case round =>
      obtain ⟨i, rfl, hi, rfl, hbu⟩ := hrel
      by_cases hlt : i < l.length
      · have i1 : (i : Int) < (l.length : Int) := by omega
        obtain ⟨hI, hput⟩ := HC0.out.2.1 i wr hlt hbu
        obtain ⟨b, o, rfl, hb1, d0, d1, d2, d3⟩ := itemAt hI.row.sl hlt
        generalize l[i] = q at d0 d1 d2 d3 hput
        have HP := Lib.hid hput
        have hb0 : Below wr.heap.size wr (wr.alloc (.cells #[.int .u64 q.1, .int .i64 q.2.x.tag, .slice q.2.A q.2.x.vec.length q.2.c, .string q.2.x.str] 38)) := (Below.refl _ _).alloc (Nat.le_refl _) _
        obtain ⟨r0, r1, r2, r3, -⟩ := cells4' (Blk.new wr 38 #[.int .u64 q.1, .int .i64 q.2.x.tag, .slice q.2.A q.2.x.vec.length q.2.c, .string q.2.x.str])
        have HP1 := Lib.hid (HP.out _ hb0)
        clear hput hI hbu HP hb0 hb1
        go_wp2_with (fail)
        refine HP1.out.mono ?_
        rintro e w5 ⟨rfl, hbu⟩
        have HBU := Lib.hid hbu
        clear hbu HP1
        go_wp2_with (fail)
        go_roundg (l.length - (i + 1))
        case measure => omega
        case rel => exact ⟨i + 1, rfl, by omega, by go_num, HBU.out⟩
      · obtain rfl : i = l.length := by omega
        have i1 : ¬ (l.length : Int) < (l.length : Int) := by omega
        have HE := Lib.hid (HC0.out.2.2 wr hbu)
        clear hbu HC0
        go_wp2_with (fail)
        go_ret
        exact HE.out
  · have HE : Hid (∀ w1, Below w.heap.size w w1 → Bulked w base tb g n k T (N.map bn) l (.returned (.int .i64 4)) w1) := Lib.hid fun w1 hb =>
      ⟨by rw [hf], k, T, N, h.below hb, Int.le_refl _, by omega, by rw [hf]; rfl, Only.of_below hb (Nat.le_refl _) _, fun j e => .inl e⟩
    rw [hf] at HF
    clear hf h hl hbf hw hN hk
    go_enter Try.func14, Try.ntmps14
    go_wp2_with (fail)
    refine HF.out.mono ?_
    rintro e w1 ⟨rfl, hb⟩
    have HE1 := Lib.hid (HE.out w1 hb)
    clear HE hb HF
    go_wp2_with (fail)
    go_ret
    exact HE1.out
end
end Go.Proofs.Ytaamlidflfdjkaa.bk
