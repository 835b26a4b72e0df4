/-
  Rows of ints of the call's own; things that no turn reaches; the contracts of beyond, farthest, inside.
-/
import Derived.Test.YthbohedkagjohaaPvM
import Derived.Test.YthbohedkagjohaaGLib
import Derived.Deep.LoopGhost
import Derived.Deep.RegionHeld3
import Derived.Lib.MinMax
namespace Go.Proofs.Ythbohedkagjohaa.pv
open Go.RowKit law bytes only flat nums ord obj metric
set_option linter.unusedVariables false

/-! ### rows of ints -/
def nv (l : List Int) : List Value := l.map fun n => Value.int .i64 n
theorem nv_length (l : List Int) : (nv l).length = l.length := by simp [nv]
theorem nv_snoc (l : List Int) (x : Int) : nv (l ++ [x]) = nv l ++ [.int .i64 x] := by simp [nv]
theorem nv_set (l : List Int) (i : Nat) (x : Int) : nv (l.set i x) = (nv l).set i (.int .i64 x) := by simp [nv, List.map_set]
theorem nv_get (l : List Int) (i : Nat) (h : i < l.length) : (nv l)[i]? = some (.int .i64 l[i]) := by simp [nv, h]
theorem intE : Elem Try.prog 3 (.int .i64 0) 8 := elem_mk (by kernel_rfl) rfl
/-- where a row's ints stand -/
theorem Sl.num {w : World} {B : Nat} {A : Option Addr} {l : List Int} {k : Nat} (h : Sl w B A (nv l)) (hk : k < l.length) : ∃ ad, A = some ad ∧ ad.block < B ∧ w.cell? (ad.add k) = some (.int .i64 l[k]) := by
  have := h.at_ (k := k) (by rw [nv_length]; exact hk)
  simpa [nv] using this
/-- a row of ints of the call's own, of which there is a block -/
def Rw (w : World) (base b c : Nat) (l : List Int) : Prop := w.ownsRow base 3 1 (.slice (some ⟨b, 0, none⟩) l.length c) l.length (nv l)
section
variable {w w' : World} {base b c : Nat} {l : List Int}
theorem Rw.lt (h : Rw w base b c l) : b < w.heap.size := (own_lt h (g := b) rfl).2
theorem Rw.ge (h : Rw w base b c l) : base ≤ b := (own_lt h (g := b) rfl).1
theorem Rw.cell (h : Rw w base b c l) {i : Nat} (hi : i < l.length) : w.cell? ⟨b, i, none⟩ = some (.int .i64 l[i]) := by
  have := h.cellAt i (by omega)
  rw [this, nv_get l i hi]
theorem Rw.frozen (h : Rw w base b c l) (i : Nat) : w.frozen? ⟨b, i, none⟩ = false := h.frozenAt i
theorem Rw.only {S : Nat → Prop} (h : Rw w base b c l) (k : Only S w w') (hb : ¬ S b) : Rw w' base b c l := own_only h k fun g' e => by
  simp only [Value.ownBlock, Option.some.injEq] at e
  rwa [← e]
theorem Rw.below {B : Nat} (h : Rw w base b c l) (k : Below B w w') (hB : w.heap.size ≤ B) : Rw w' base b c l := own_below h k hB
theorem Rw.on (h : Rw w base b c l) (k : Below w.heap.size w w') : Rw w' base b c l := h.below k (Nat.le_refl _)
theorem Rw.set (h : Rw w base b c l) (i : Nat) (x : Int) : Rw (w.setCell ⟨b, i, none⟩ (.int .i64 x)) base b c (l.set i x) := by
  unfold Rw
  rw [List.length_set, nv_set]
  exact own_set h i _
theorem Rw.sl (h : Rw w base b c l) : Sl w w.heap.size (some ⟨b, 0, none⟩) (nv l) := Sl.of_ownK h
end
/-! ### things that no turn of T's blocks reaches -/
theorem oc_len (p : At) : (oc p).length = 3 := rfl
/-- a thing by value -/
def oW (p : At) : Value := .agg #[.int .i64 p.x.tag, .slice p.a p.x.vec.length p.c, .string p.x.str]
structure Ts (w : World) (T : Nat → Prop) (A : Option Addr) (l : List At) : Prop where
  row : Away w T A (ocs l)
  vec : ∀ p ∈ l, Away w T p.a (iv p.x.vec)
section
variable {w w' : World} {T T2 : Nat → Prop} {A : Option Addr} {l : List At}
theorem Ts.step (h : Ts w T A l) (o : Only T w w') (hT : ∀ i, i < w.heap.size → ¬ T i → ¬ T2 i) : Ts w' T2 A l := ⟨h.row.step o hT, fun p hp => (h.vec p hp).step o hT⟩
theorem Ts.only (h : Ts w T A l) (o : Only T w w') : Ts w' T A l := h.step o fun _ _ e => e
theorem Ts.on (h : Ts w T A l) (o : Below w.heap.size w w') : Ts w' T A l := h.only (Only.of_below o (Nat.le_refl _) _)
/-- where the things of a row stand -/
theorem Ts.place (h : Ts w T A l) (h0 : 0 < l.length) : ∃ b o, A = some ⟨b, o, none⟩ ∧ b < w.heap.size ∧ ¬ T b ∧ ∀ k (hk : k < l.length),
    w.cell? ⟨b, o + k * 3, none⟩ = some (.int .i64 l[k].x.tag) ∧ w.cell? ⟨b, o + k * 3 + 1, none⟩ = some (.slice l[k].a l[k].x.vec.length l[k].c) ∧ w.cell? ⟨b, o + k * 3 + 2, none⟩ = some (.string l[k].x.str) := by
  have hlen : (ocs l).length = l.length * 3 := flat_length oc_len l
  obtain ⟨b, o, rfl, hb, hc⟩ := Sl.place h.row.sl (by omega)
  have hT : ¬ T b := by
    obtain ⟨ad, e, _, hn, _⟩ := h.row 0 _ (List.getElem?_eq_getElem (by omega))
    injection e with e
    rw [← e] at hn
    exact hn
  refine ⟨b, o, rfl, hb, hT, fun k hk => ?_⟩
  have g : ∀ j, j < 3 → w.cell? ⟨b, o + (k * 3 + j), none⟩ = (oc l[k])[j]? := fun j hj => by
    have h1 := flat_get oc_len l k j hk hj
    have hlt : k * 3 + j < (ocs l).length := by omega
    rw [show l.flatMap oc = ocs l from rfl, List.getElem?_eq_getElem hlt] at h1
    rw [hc _ hlt, h1]
  exact ⟨g 0 (by omega), g 1 (by omega), g 2 (by omega)⟩
end
/-! ### beyond -/
def U63 : Int := 9223372036854775807
theorem make_full (n : Nat) (hn : n ≤ 8796093022208) (u : World) : ∃ Z : Array Value, Z.toList = nv (List.replicate n 0) ∧ Z.size = n * 1 ∧ (Instr.makeSlice 29 (.int .i64 (n : Int)) (.int .i64 (n : Int))).run Try.prog u =
    .ok (.slice (some ⟨u.heap.size, 0, none⟩) n n) (u.alloc (.cells Z 3)) := by
  obtain ⟨i, hi, hz, hsz, hby, hzs⟩ := intE
  have h := run_make (P := Try.prog) u 29 3 i (.int .i64 0) Try.underlying29 hi hz .i64 .i64 n n (by omega) (by omega) (by rw [hby]; omega) (by omega)
  simp only [Int.toNat_natCast] at h
  rw [hsz] at h
  refine ⟨_, ?_, by rw [size_madeCells], h⟩
  apply List.ext_getElem?
  intro j
  by_cases hj : j < n
  · have e : (Value.int IntKind.i64 0).cells = #[.int .i64 0] := rfl
    simp [madeCells, nv, hj, e, Nat.mod_one]
  · rw [List.getElem?_eq_none (by simp [madeCells]; omega), List.getElem?_eq_none (by simp [nv]; omega)]
/-- the first k numbers are those, the others 0 -/
def bk (n k : Nat) : List Int := List.replicate k U63 ++ List.replicate (n - k) 0
theorem bk_length {n k : Nat} (h : k ≤ n) : (bk n k).length = n := by simp [bk]; omega
theorem bk_set {n k : Nat} (h : k < n) : (bk n k).set k U63 = bk n (k + 1) := by
  unfold bk
  rw [List.set_append_right _ _ (by simp), List.length_replicate, Nat.sub_self]
  obtain ⟨m, hm⟩ : ∃ m, n - k = m + 1 := ⟨n - k - 1, by omega⟩
  rw [hm, List.replicate_succ, List.set_cons_zero, show n - (k + 1) = m by omega, show List.replicate (k + 1) U63 = List.replicate k U63 ++ [U63] from List.replicate_succ', List.append_assoc]
  rfl
set_option maxRecDepth 100000 in
set_option maxHeartbeats 1600000 in
theorem beyond_any (n : Nat) (h0 : 0 < n) (hn : n ≤ 8796093022208) (w : World) :
    Calls Try.prog 17 #[.int .i64 n] w fun e w' => e = .returned (.slice (some ⟨w.heap.size, 0, none⟩) n n) ∧ Rw w' w.heap.size w.heap.size n (List.replicate n U63) ∧ Below w.heap.size w w' := by
  obtain ⟨Z, hZ, hZs, hmk⟩ := make_full n hn w
  have hO : Rw (w.alloc (.cells Z 3)) w.heap.size w.heap.size n (bk n 0) := by
    have h1 : (w.alloc (.cells Z 3)).ownsRow w.heap.size 3 1 (.slice (some ⟨w.heap.size, 0, none⟩) n n) n Z.toList := World.ownsRow_lit w Z n (Nat.le_refl _) (by unfold maxLen; omega) hZs
    rw [hZ] at h1
    unfold Rw
    rw [bk_length (Nat.zero_le _)]
    exact h1
  have HO := Lib.hid hO
  have HB : Hid (Below w.heap.size w (w.alloc (.cells Z 3))) := Lib.hid ((Below.refl _ w).alloc (Nat.le_refl _) _)
  clear hO hZ hZs
  go_enter Try.func17, Try.ntmps17
  go_wp2_with (fail)
  go_loopg [9] n (fun gk s9 wr => ∃ k : Nat, gk = n - k ∧ k ≤ n ∧ s9 = .int .i64 k ∧ Rw wr w.heap.size w.heap.size n (bk n k) ∧ Below w.heap.size w wr)
  case atStart => exact ⟨0, rfl, Nat.zero_le _, rfl, HO.out, HB.out⟩
  case round =>
    clear HO HB hmk
    obtain ⟨k, rfl, hk, rfl, hr, hb⟩ := hrel
    by_cases hlt : k < n
    · have i1 : (k : Int) < (n : Int) := by omega
      have c0 := hr.cell (i := k) (by rw [bk_length hk]; exact hlt)
      have f0 := hr.frozen k
      have hx : (bk n k)[k]'(by rw [bk_length hk]; exact hlt) = 0 := by simp [bk]
      rw [hx] at c0
      have HR := Lib.hid (hr.set k U63)
      have HB := Lib.hid (hb.setCell (p := ⟨w.heap.size, k, none⟩) (Nat.le_refl _) (.int .i64 U63))
      have HK := Lib.hid (bk_set hlt)
      clear hr hb hx
      unfold U63 at HR HB
      go_wp2_with (fail)
      go_roundg (n - (k + 1))
      case measure => omega
      case rel => exact ⟨k + 1, rfl, by omega, by go_num, by rw [← HK.out]; exact HR.out, HB.out⟩
    · obtain rfl : k = n := by omega
      have i1 : ¬ (k : Int) < (k : Int) := by omega
      have HR : Hid (Rw wr w.heap.size w.heap.size k (List.replicate k U63)) := Lib.hid (by
        have e : bk k k = List.replicate k U63 := by simp [bk]
        rw [e] at hr
        exact hr)
      have HB := Lib.hid hb
      clear hr hb
      go_wp2_with (fail)
      go_ret
      exact ⟨rfl, HR.out, HB.out⟩
/-! ### farthest -/
set_option maxRecDepth 100000 in
set_option maxHeartbeats 1600000 in
theorem farthest_any (b c base : Nat) (l : List Int) (h0 : 0 < l.length) (w : World) (hr : Rw w base b c l) (hm : l.length ≤ 8796093022208) :
    Calls Try.prog 19 #[.slice (some ⟨b, 0, none⟩) l.length c] w fun e w' => e = .returned (.int .i64 (mp l)) ∧ w = w' := by
  have HR := Lib.hid hr
  clear hr
  go_enter Try.func19, Try.ntmps19
  go_wp2_with (fail)
  go_loopg [3, 8] l.length (fun gk s3 s8 wr => ∃ k : Nat, gk = l.length - k ∧ k ≤ l.length ∧ s3 = .int .i64 (mpk l k) ∧ s8 = .int .i64 k ∧ w = wr)
  case atStart => exact ⟨0, rfl, Nat.zero_le _, rfl, rfl, rfl⟩
  case round =>
    obtain ⟨k, rfl, hk, rfl, rfl, rfl⟩ := hrel
    by_cases hlt : k < l.length
    · have hpl : mpk l k < l.length := by
        rcases Nat.eq_zero_or_pos k with rfl | h2
        · exact h0
        · have := mpk_lt l h2; omega
      have c0 := HR.out.cell hlt
      have c1 := HR.out.cell hpl
      have i1 : (k : Int) < (l.length : Int) := by omega
      have i2 : ((mpk l k : Nat) : Int) < (l.length : Int) := by omega
      have hs : mpk l (k + 1) = if l[mpk l k] < l[k] then k else mpk l k := by
        show (if l.getD (mpk l k) 0 < l.getD k 0 then k else mpk l k) = _
        simp [List.getD, hlt, hpl]
      have HS := Lib.hid hs
      clear hs
      generalize l[k] = y at c0 HS
      generalize l[mpk l k] = x at c1 HS
      generalize mpk l k = p at *
      by_cases hc : x < y
      · have HT : Hid (mpk l (k + 1) = k) := Lib.hid (by rw [HS.out, if_pos hc])
        have d0 : decide (y > x) = true := decide_eq_true hc
        clear HS hc
        go_wp2_with (fail)
        go_roundg (l.length - (k + 1))
        case measure => omega
        case rel => exact ⟨k + 1, rfl, by omega, by rw [HT.out], by go_num, rfl⟩
      · have HT : Hid (mpk l (k + 1) = p) := Lib.hid (by rw [HS.out, if_neg hc])
        have d0 : decide (y > x) = false := decide_eq_false hc
        clear HS hc
        go_wp2_with (fail)
        go_roundg (l.length - (k + 1))
        case measure => omega
        case rel => exact ⟨k + 1, rfl, by omega, by rw [HT.out], by go_num, rfl⟩
    · obtain rfl : k = l.length := by omega
      have i1 : ¬ (l.length : Int) < (l.length : Int) := by omega
      go_wp2_with (fail)
      go_ret
      exact ⟨rfl, rfl⟩
/-! ### inside -/
def isIn (n : Nat) (c : Int) : Bool := decide (0 ≤ c) && decide (c < (n : Int))
def ins (n : Nat) (l : List Int) : List Int := l.filter (isIn n)
theorem ins_length (n : Nat) (l : List Int) : (ins n l).length ≤ l.length := List.length_filter_le _ _
theorem ins_yes {n : Nat} {l : List Int} {k : Nat} (hk : k < l.length) (h : isIn n l[k] = true) : ins n (l.take (k + 1)) = ins n (l.take k) ++ [l[k]] := by
  unfold ins
  rw [List.take_succ_eq_append_getElem hk, List.filter_append]
  simp [h]
theorem ins_no {n : Nat} {l : List Int} {k : Nat} (hk : k < l.length) (h : isIn n l[k] = false) : ins n (l.take (k + 1)) = ins n (l.take k) := by
  unfold ins
  rw [List.take_succ_eq_append_getElem hk, List.filter_append]
  simp [h]
theorem ins_low {n : Nat} {l : List Int} {c : Int} (h : c ∈ ins n l) : 0 ≤ c ∧ c < (n : Int) := by
  have := (List.mem_filter.1 h).2
  simpa [isIn] using this
theorem isIn_cases (n : Nat) (c : Int) : (decide (c ≥ 0) = false ∧ isIn n c = false) ∨ (decide (c ≥ 0) = true ∧ decide (c < (n : Int)) = false ∧ isIn n c = false) ∨ (decide (c ≥ 0) = true ∧ decide (c < (n : Int)) = true ∧ isIn n c = true) := by
  unfold isIn
  by_cases h1 : c ≥ 0
  · by_cases h2 : c < (n : Int)
    · exact .inr (.inr ⟨decide_eq_true h1, decide_eq_true h2, by simp [h2]; omega⟩)
    · exact .inr (.inl ⟨decide_eq_true h1, decide_eq_false h2, by simp [h2]⟩)
  · exact .inl ⟨decide_eq_false h1, by simp; omega⟩
/-- a row of ints of the call's own, and what there was is as it was -/
def OwnI (l : List Int) (w : World) (e : Ending) (w' : World) : Prop := ∃ A c, e = .returned (.slice A l.length c) ∧ w'.ownsRow w.heap.size 3 1 (.slice A l.length c) l.length (nv l) ∧ Below w.heap.size w w'
theorem OwnI.mk {l : List Int} {w w' : World} {A : Option Addr} {m c : Nat} (ho : w'.ownsRow w.heap.size 3 1 (.slice A m c) m (nv l)) (hb : Below w.heap.size w w') : OwnI l w (.returned (.slice A m c)) w' := by
  have : m = l.length := by have := ho.1; rw [nv_length] at this; omega
  subst this
  exact ⟨A, c, rfl, ho, hb⟩
set_option maxRecDepth 100000 in
set_option maxHeartbeats 1600000 in
theorem inside_any (A : Option Addr) (c B n : Nat) (l : List Int) (w : World) (hB : B ≤ w.heap.size) (hs : Sl w B A (nv l)) (hm : l.length ≤ 8796093022208) :
    Calls Try.prog 20 #[.slice A l.length c, .int .i64 n] w (OwnI (ins n l) w) := by
  have HS := Lib.hid hs
  clear hs
  go_enter Try.func20, Try.ntmps20
  go_wp2_with (fail)
  go_loopg [5, 10] l.length (fun gk s5 s10 wr => ∃ (k m c' : Nat) (A' : Option Addr), gk = l.length - k ∧ k ≤ l.length ∧ m ≤ k ∧ s5 = .slice A' m c' ∧ s10 = .int .i64 k ∧ wr.ownsRow w.heap.size 3 1 (.slice A' m c') m (nv (ins n (l.take k))) ∧ Below w.heap.size w wr)
  case atStart => exact ⟨0, 0, 0, none, rfl, Nat.zero_le _, Nat.le_refl _, rfl, rfl, World.ownsRow_nil _ _ _ _, Below.refl _ _⟩
  case round =>
    obtain ⟨k, m, c', A', rfl, hk, hmk, rfl, rfl, hown, hb⟩ := hrel
    by_cases hlt : k < l.length
    · obtain ⟨ad, rfl, -, hc⟩ := Sl.num (HS.out.below (hb.mono hB)) hlt
      have i1 : (k : Int) < (l.length : Int) := by omega
      have hsz := hb.size
      have hyes := ins_yes (n := n) hlt
      have hno := ins_no (n := n) hlt
      generalize l[k] = y at hc hyes hno
      rcases isIn_cases n y with ⟨d0, hi⟩ | ⟨d0, d1, hi⟩ | ⟨d0, d1, hi⟩
      · have HT := Lib.hid (hno hi)
        clear hyes hno hi
        go_wp2_with (fail)
        go_roundg (l.length - (k + 1))
        case measure => omega
        case rel => exact ⟨k + 1, m, c', A', rfl, by omega, by omega, rfl, by go_num, by rw [HT.out]; exact hown, hb⟩
      · have HT := Lib.hid (hno hi)
        clear hyes hno hi
        go_wp2_with (fail)
        go_roundg (l.length - (k + 1))
        case measure => omega
        case rel => exact ⟨k + 1, m, c', A', rfl, by omega, by omega, rfl, by go_num, by rw [HT.out]; exact hown, hb⟩
      · have HT : Hid (nv (ins n (l.take (k + 1))) = nv (ins n (l.take k)) ++ [.int .i64 y]) := Lib.hid (by rw [hyes hi, nv_snoc])
        clear hyes hno hi
        go_wp2_with (at_builtin
                     refine wpList_append_sl _ rfl (.tmp 21) (.tmp 23) _ rfl w.heap.size 3 _ 8 Try.underlying29 intE (.slice A' m c') m (nv (ins n (l.take k))) rfl (World.ownsRow.alloc (w := wr) hown _) _ _ 1 1 [.int .i64 y] rfl (Sl.one wr _ _) rfl (by simp [Value.oneCell']) (by omega) (by unfold maxLen; omega) (by simp; omega) ?_
                     intro v4 w4 hown4 hg4 hat4
                     obtain ⟨A4, c4, rfl, hc4⟩ := own_slice hown4)
        go_roundg (l.length - (k + 1))
        case measure => omega
        case rel => exact ⟨k + 1, m + 1, c4, A4, rfl, by omega, by omega, rfl, by go_num, by rw [HT.out]; exact hown4, below_append hb hsz _ hown (Nat.le_refl _) hg4⟩
    · obtain rfl : k = l.length := by omega
      have i1 : ¬ (l.length : Int) < (l.length : Int) := by omega
      rw [List.take_length] at hown
      have HE : Hid (OwnI (ins n l) w (.returned (.slice A' m c')) wr) := Lib.hid (OwnI.mk hown hb)
      clear hown hb
      go_wp2_with (fail)
      go_ret
      exact HE.out
end Go.Proofs.Ythbohedkagjohaa.pv
