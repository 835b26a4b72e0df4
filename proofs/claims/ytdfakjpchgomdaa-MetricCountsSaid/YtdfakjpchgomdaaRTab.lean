/-
  The contract of the document's own Dist: cell by cell of the whole table.
-/
import Derived.Test.YtdfakjpchgomdaaRLeast
namespace Go.Proofs.Ytdfakjpchgomdaa.lev
open Go.RowKit law bytes
set_option linter.unusedVariables false

theorem intE : Elem Try.prog 3 (.int .i64 0) 8 := elem_mk (by kernel_rfl) (by decide)
theorem rowE : Elem Try.prog 54 (.slice none 0 0) 24 := elem_mk (by kernel_rfl) (by decide)
def nv (l : List Nat) : List Value := l.map fun (n : Nat) => Value.int .i64 (n : Int)
theorem nv_length (l : List Nat) : (nv l).length = l.length := by simp [nv]
theorem nv_append (l m : List Nat) : nv (l ++ m) = nv l ++ nv m := by simp [nv]
theorem nv_one (n : Nat) : nv [n] = [.int .i64 (n : Int)] := rfl
theorem own_alloc' {w w' : World} {base : Nat} {e : TypeId} {size n : Nat} {v : Value} {xs : List Value} (h : w.ownsRow base e size v n xs) (hh : w'.heap = w.heap) (o : Obj) : (w'.alloc o).ownsRow base e size v n xs := by
  have h2 : w'.ownsRow base e size v n xs := by
    refine ⟨h.1, ?_⟩
    rw [hh]
    exact h.2
  exact h2.alloc o

theorem min3 {Q : Program} (W : World) (ts : Array TypeId) (t : TypeId) (x y z : Int) : (Builtin.min_ ts t #[.int .i64 x, .int .i64 y, .int .i64 z]).run Q W = .ok (.int .i64 (min x (min y z))) W := by
  have e : (if z < (if y < x then y else x) then z else (if y < x then y else x)) = min x (min y z) := by
    split <;> split <;> omega
  rw [run_min_int3, e]
/-- the table: prefix by prefix -/
def P (a b : List UInt8) (i k : Nat) : Nat := L (a.take i).reverse (b.take k).reverse
theorem P_row (a b : List UInt8) (i : Nat) (hi : i ≤ a.length) : P a b i 0 = i := by unfold P; rw [List.take_zero, List.reverse_nil, L_nil', List.length_reverse, List.length_take]; omega
theorem P_col (a b : List UInt8) (k : Nat) (hk : k ≤ b.length) : P a b 0 k = k := by unfold P; rw [List.take_zero, List.reverse_nil, L_nil, List.length_reverse, List.length_take]; omega
theorem P_rec (a b : List UInt8) (i k : Nat) (hi : i < a.length) (hk : k < b.length) :
    P a b (i + 1) (k + 1) = min (P a b i k + ne a[i] b[k]) (min (P a b i (k + 1) + 1) (P a b (i + 1) k + 1)) := by
  unfold P
  rw [List.take_succ_eq_append_getElem hi, List.take_succ_eq_append_getElem hk, List.reverse_append, List.reverse_append]
  exact L_cons _ _ _ _
theorem P_all (a b : List UInt8) : P a b a.length b.length = L a b := by unfold P; rw [List.take_length, List.take_length, L_reverse]
theorem P_bd (a b : List UInt8) (i k : Nat) : P a b i k ≤ max i k := by
  unfold P
  have := L_max (a.take i).reverse (b.take k).reverse
  rw [List.length_reverse, List.length_reverse] at this
  have h1 := List.length_take_le i a
  have h2 := List.length_take_le k b
  omega
/-- the first k of a row -/
def pr (a b : List UInt8) (i k : Nat) : List Nat := (List.range k).map (P a b i)
theorem pr_succ (a b : List UInt8) (i k : Nat) : nv (pr a b i (k + 1)) = nv (pr a b i k) ++ [.int .i64 (P a b i k : Int)] := by
  unfold pr; rw [List.range_succ, List.map_append, nv_append]; rfl
theorem pr_at (a b : List UInt8) (i k j : Nat) (hj : j < k) : (nv (pr a b i k))[j]? = some (.int .i64 (P a b i j : Int)) := by
  unfold pr nv
  rw [List.getElem?_map, List.getElem?_map, List.getElem?_range hj]
  rfl

/-- block g begins with n ints -/
def ICells (w : World) (g n : Nat) (f : Nat → Nat) : Prop := ∃ (t : TypeId) (cs : Array Value), Blk w g t cs ∧ ∀ i, i < n → cs[i]? = some (.int .i64 (f i : Nat))
section
variable {w w' : World} {g n : Nat} {f : Nat → Nat}
theorem ICells.lt (h : ICells w g n f) : g < w.heap.size := by obtain ⟨t, cs, h, _⟩ := h; exact h.lt
theorem ICells.keep (h : ICells w g n f) (e : w'.heap[g]? = w.heap[g]?) : ICells w' g n f := by obtain ⟨t, cs, h, r⟩ := h; exact ⟨t, cs, h.keep e, r⟩
theorem ICells.cell (h : ICells w g n f) {i : Nat} (hi : i < n) : w.cell? ⟨g, i, none⟩ = some (.int .i64 (f i : Nat)) := by
  obtain ⟨t, cs, h, hc⟩ := h; exact (h.cell i).trans (hc i hi)
end
theorem ICells.of_own {w : World} {base : Nat} {e : TypeId} {n c : Nat} {g : Nat} {a b : List UInt8} {i : Nat} (h : w.ownsRow base e 1 (.slice (some ⟨g, 0, none⟩) n c) n (nv (pr a b i n))) (hn : 0 < n) : ICells w g n (P a b i) := by
  rcases h.2 with ⟨h', _⟩ | ⟨g', cap, cur, hv, hb, hh, hnc, hcm, hcs, ht⟩
  · cases h'
  · injection hv with hg
    injection hg with hg
    injection hg with hg
    subst hg
    refine ⟨e, cur, hh, fun j hj => ?_⟩
    have := pr_at a b i n j hj
    rw [← ht, List.getElem?_take, if_pos (by omega)] at this
    rw [← Array.getElem?_toList]
    exact this
/-- the last row of a table of i rows -/
def Last (w : World) (base : Nat) (v : Value) (ts : List Value) (i m : Nat) (a b : List UInt8) : Prop :=
  i = 0 ∨ ∃ g c i', i = i' + 1 ∧ ts[i']? = some (.slice (some ⟨g, 0, none⟩) m c) ∧ m ≤ c ∧ base ≤ g ∧ ICells w g m (P a b i') ∧ v.ownBlock ≠ some g

theorem last_next {w0 wr w4 : World} {base i c m cr : Nat} {A R : Option Addr} {ts : List Value} {v4 : Value} {e1 e2 : TypeId} {a b : List UInt8} (hown : w0.ownsRow base e1 1 (.slice A i c) i ts) (hbase : base ≤ w0.heap.size)
    (hrow : wr.ownsRow w0.heap.size e2 1 (.slice R m cr) m (nv (pr a b i m))) (hm : 0 < m) (hB : Below w0.heap.size w0 wr) (o : Obj) (hg4 : (wr.alloc o).grownBy w4 (Value.slice A i c).ownBlock)
    (hat4 : v4.ownBlock = (Value.slice A i c).ownBlock ∨ v4.ownBlock = some (wr.alloc o).heap.size) : Last w4 base v4 (ts ++ [.slice R m cr]) (i + 1) m a b := by
  obtain ⟨g, c', hv, hgb, hgl, hmc⟩ := own_form hrow hm
  injection hv with hR _ hc
  subst hR
  subst hc
  have hts : ts.length = i := by have := hown.1; omega
  have hne : (Value.slice A i c).ownBlock ≠ some g := fun e => by have := (hown.lt g e).2; omega
  refine .inr ⟨g, cr, i, rfl, ?_, hmc, by omega, ?_, ?_⟩
  · rw [List.getElem?_append_right (by omega), hts, Nat.sub_self]; rfl
  · refine (ICells.of_own hrow hm).keep ?_
    rw [hg4.block g (by simp; omega) (fun e => hne e.symm), Below.heap_alloc wr o g hgl]
  · rcases hat4 with h | h
    · rw [h]; exact hne
    · rw [h]; simp; omega
set_option maxHeartbeats 3200000 in
set_option maxRecDepth 100000 in
theorem rdist_any (a b : ByteArray) (ha : a.size ≤ 1048576) (hb : b.size ≤ 1048576) (w : World) :
    Calls Try.prog 22 #[.string a, .string b] w (Tells (.int .i64 (L (bl a) (bl b))) w) := by
  obtain ⟨D, hD⟩ : ∃ D, D = L (bl a) (bl b) := ⟨_, rfl⟩
  rw [← hD]
  obtain ⟨m, hm⟩ : ∃ m, m = b.size + 1 := ⟨_, rfl⟩
  have HD := Lib.hid hD
  have HM := Lib.hid hm
  have hm1 : 1 ≤ m := by omega
  have hm2 : m ≤ 1048577 := by omega
  have hmb : b.size < m := by omega
  clear hD hm
  go_enter Try.func22, Try.ntmps22
  go_wp2_with (fail)
  go_loopw [5, 6] (fun t i wr => ∃ (k c : Nat) (A : Option Addr) (ts : List Value), k ≤ a.size + 1 ∧ i = .int .i64 k ∧ t = .slice A k c ∧ wr.ownsRow w.heap.size 54 1 (.slice A k c) k ts ∧ Last wr w.heap.size (.slice A k c) ts k m (bl a) (bl b) ∧ Below w.heap.size w wr) (fun _ i _ => a.size + 1 - (intOf i).toNat)
  case atStart => exact ⟨0, 0, none, [], Nat.zero_le _, rfl, rfl, World.ownsRow_nil _ _ _ _, .inl rfl, Below.refl _ _⟩
  case round =>
    obtain ⟨w0, hw0⟩ : ∃ w0 : World, w0 = wr := ⟨_, rfl⟩
    subst hw0
    obtain ⟨i, c, A, ts, hi, rfl, rfl, hown, hlast, hB⟩ := hrel
    by_cases hlt : i ≤ a.size
    · have HOWN := Lib.hid hown
      have HLAST := Lib.hid hlast
      have HB := Lib.hid hB
      clear hown hlast hB
      rcases Nat.eq_zero_or_pos i with hi0 | hi0
      · have d1 : decide (0 < i) = false := decide_eq_false (by omega)
        have hcol : ∀ k, k ≤ b.size → ((i : Int) + (k : Int)) = (P (bl a) (bl b) i k : Int) := fun k hk => by rw [hi0, P_col _ _ _ (by rw [bl_len]; exact hk)]; simp
        have HCOL := Lib.hid hcol
        have HI0 := Lib.hid hi0
        clear hcol hi0
        go_wp2_with (fail)
        go_loopw [7, 8] (fun v j wi => ∃ (k cr : Nat) (R : Option Addr), k ≤ m ∧ j = .int .i64 k ∧ v = .slice R k cr ∧ wi.ownsRow w0.heap.size 3 1 (.slice R k cr) k (nv (pr (bl a) (bl b) i k)) ∧ Below w0.heap.size w0 wi) (fun _ j _ => m - (intOf j).toNat)
        case atStart => exact ⟨0, 0, none, Nat.zero_le _, rfl, rfl, World.ownsRow_nil _ _ _ _, Below.refl _ _⟩
        case round =>
          obtain ⟨k, cr, R, hk, rfl, rfl, hrown, hBi⟩ := hrel
          by_cases hkm : k ≤ b.size
          · have HVAL := Lib.hid (HCOL.out k hkm)
            go_wp2_with (at_builtin
                         refine wpList_append_sl _ rfl (.tmp 68) (.tmp 70) _ rfl w0.heap.size 3 _ 8 Try.underlying54 intE (.slice R k cr) k (nv (pr (bl a) (bl b) i k)) rfl (own_alloc' hrown rfl _) _ _ 1 1 [.int .i64 ((i : Int) + (k : Int))] rfl (Sl.one _ _ _) rfl (by simp [Value.oneCell']) (by omega) (by unfold maxLen; omega) (by have := hBi.size; simp; omega) ?_
                         intro v4 w4 hown4 hg4 hat4
                         obtain ⟨A4, c4, rfl, hc4⟩ := own_slice hown4)
            go_roundw
            case rel => exact ⟨k + 1, c4, A4, by omega, by go_num, rfl, by rw [pr_succ, ← HVAL.out]; exact hown4, below_append (below_drewN' hBi 0) (by have := hBi.size; exact this) _ hrown (Nat.le_refl _) hg4⟩
            case measure => simp [intOf]; omega

          · obtain rfl : k = m := by rw [HM.out]; rw [HM.out] at hk; omega
            have hownr := own_below HOWN.out hBi (Nat.le_refl _)
            have hBw := HB.out.trans (hBi.mono HB.out.size)
            have hszw := hBw.size
            have hszi := hBi.size
            go_wp2_with (at_builtin
                         refine wpList_append_sl _ rfl (.tmp 72) (.tmp 74) _ rfl w.heap.size 54 _ 24 Try.underlying53 rowE (.slice A i c) i ts rfl (own_alloc' hownr rfl _) _ _ 1 1 [.slice R k cr] rfl (Sl.one _ _ _) rfl (by simp [Value.oneCell']) (by omega) (by unfold maxLen; omega) (by simp; omega) ?_
                         intro v4 w4 hown4 hg4 hat4
                         obtain ⟨A4, c4, rfl, hc4⟩ := own_slice hown4)
            go_roundw
            case rel => exact ⟨i + 1, c4, A4, ts ++ [.slice R k cr], by omega, by go_num, rfl, hown4, last_next HOWN.out HB.out.size hrown hm1 hBi _ hg4 hat4, below_append hBw hszw _ hownr (Nat.le_refl _) hg4⟩
            case measure => simp [intOf]; omega
      · obtain ⟨g, c', i', hi', hts, hmc, hgb, hic, hne⟩ : ∃ g c' i', i = i' + 1 ∧ ts[i']? = some (.slice (some ⟨g, 0, none⟩) m c') ∧ m ≤ c' ∧ w.heap.size ≤ g ∧ ICells w0 g m (P (bl a) (bl b) i') ∧ (Value.slice A i c).ownBlock ≠ some g := by
          rcases HLAST.out with h | h
          · omega
          · exact h
        obtain ⟨gt, ct', htv, hgtb, hgtl, hgtc⟩ := own_form HOWN.out hi0
        injection htv with hA _ hc
        subst hA
        subst hc
        have hia : i' < a.size := by omega
        have hii : i' < i := by omega
        have hct : w0.cell? ⟨gt, i', none⟩ = some (.slice (some ⟨g, 0, none⟩) m c') := (HOWN.out.cellAt i' (by omega)).trans hts
        have hw1 : IntKind.i64.wrap ((i : Int) - 1) = (i' : Int) := by rw [IntKind.wrap_i64]; omega
        have hv1 : (i : Int) - 1 = (i' : Int) := by omega
        have HI := Lib.hid hi'
        have CT := Lib.hid hct
        have HIC := Lib.hid hic
        clear hi' hct hic hts hne
        go_wp2_with (fail)
        go_loopw [7, 8] (fun v j wi => ∃ (k cr : Nat) (R : Option Addr), k ≤ m ∧ j = .int .i64 k ∧ v = .slice R k cr ∧ wi.ownsRow w0.heap.size 3 1 (.slice R k cr) k (nv (pr (bl a) (bl b) i k)) ∧ Below w0.heap.size w0 wi) (fun _ j _ => m - (intOf j).toNat)
        case atStart => exact ⟨0, 0, none, Nat.zero_le _, rfl, rfl, World.ownsRow_nil _ _ _ _, Below.refl _ _⟩
        case round =>
          obtain ⟨k, cr, R, hk, rfl, rfl, hrown, hBi⟩ := hrel
          by_cases hkm : k ≤ b.size
          · rcases Nat.eq_zero_or_pos k with hk0 | hk0
            · have d2 : decide (0 < k) = false := decide_eq_false (by omega)
              have hval : ((i : Int) + (k : Int)) = (P (bl a) (bl b) i k : Int) := by rw [hk0, P_row _ _ _ (by rw [bl_len]; omega)]; simp
              have HVAL := Lib.hid hval
              have HK0 := Lib.hid hk0
              clear hval hk0
              go_wp2_with (at_builtin
                           refine wpList_append_sl _ rfl (.tmp 68) (.tmp 70) _ rfl w0.heap.size 3 _ 8 Try.underlying54 intE (.slice R k cr) k (nv (pr (bl a) (bl b) i k)) rfl (own_alloc' hrown rfl _) _ _ 1 1 [.int .i64 ((i : Int) + (k : Int))] rfl (Sl.one _ _ _) rfl (by simp [Value.oneCell']) (by omega) (by unfold maxLen; omega) (by have := hBi.size; simp; omega) ?_
                           intro v4 w4 hown4 hg4 hat4
                           obtain ⟨A4, c4, rfl, hc4⟩ := own_slice hown4)
              go_roundw
              case rel => exact ⟨k + 1, c4, A4, by omega, by go_num, rfl, by rw [pr_succ, ← HVAL.out]; exact hown4, below_append (below_drewN' hBi 0) (by have := hBi.size; exact this) _ hrown (Nat.le_refl _) hg4⟩
              case measure => simp [intOf]; omega
            · obtain ⟨k', hk'⟩ : ∃ k', k = k' + 1 := ⟨k - 1, by omega⟩
              have hkb : k' < b.size := by omega
              have hkk : k' < k := by omega
              have hkm1 : k' < m := by omega
              have hkm2 : k < m := by omega
              have hw2 : IntKind.i64.wrap ((k : Int) - 1) = (k' : Int) := by rw [IntKind.wrap_i64]; omega
              have hv2 : (k : Int) - 1 = (k' : Int) := by omega
              have hrec : P (bl a) (bl b) i k = min (P (bl a) (bl b) i' k' + ne (a[i']'hia) (b[k']'hkb)) (min (P (bl a) (bl b) i' k + 1) (P (bl a) (bl b) i k' + 1)) := by
                rw [HI.out, hk']; exact P_rec (bl a) (bl b) i' k' (by rw [bl_len]; exact hia) (by rw [bl_len]; exact hkb)
              obtain ⟨gr, cr', hrv, hgrb, hgrl, hgrc⟩ := own_form hrown (by omega)
              injection hrv with hR _ hc
              subst hR
              subst hc
              have cr1 : wr.cell? ⟨gr, k', none⟩ = some (.int .i64 (P (bl a) (bl b) i k' : Int)) := (hrown.cellAt k' (by omega)).trans (pr_at _ _ _ _ _ hkk)
              have ct1 : wr.cell? ⟨gt, i', none⟩ = some (.slice (some ⟨g, 0, none⟩) m c') := (hBi.cell (p := ⟨gt, i', none⟩) hgtl).trans CT.out
              have cg1 : wr.cell? ⟨g, k', none⟩ = some (.int .i64 (P (bl a) (bl b) i' k' : Int)) := (hBi.cell (p := ⟨g, k', none⟩) HIC.out.lt).trans (HIC.out.cell (by omega))
              have cg2 : wr.cell? ⟨g, k, none⟩ = some (.int .i64 (P (bl a) (bl b) i' k : Int)) := (hBi.cell (p := ⟨g, k, none⟩) HIC.out.lt).trans (HIC.out.cell (by omega))
              have bx := P_bd (bl a) (bl b) i' k'
              have by' := P_bd (bl a) (bl b) i' k
              have bz := P_bd (bl a) (bl b) i k'
              have hxb : P (bl a) (bl b) i' k' ≤ 1048577 := by omega
              have hyb : P (bl a) (bl b) i' k ≤ 1048577 := by omega
              have hzb : P (bl a) (bl b) i k' ≤ 1048577 := by omega
              have hrb : P (bl a) (bl b) i k ≤ 1048577 := by have := P_bd (bl a) (bl b) i k; omega
              clear bx by' bz
              obtain ⟨r, hr⟩ : ∃ r, r = P (bl a) (bl b) i k := ⟨_, rfl⟩
              have HVAL : Hid ((r : Int) = (P (bl a) (bl b) i k : Int)) := Lib.hid (by rw [hr])
              rw [← hr] at hrec hrb
              generalize P (bl a) (bl b) i' k' = x at *
              generalize P (bl a) (bl b) i' k = y at *
              generalize P (bl a) (bl b) i k' = z at *
              have hwx : IntKind.i64.wrap ((x : Int) + 1) = (x : Int) + 1 := by rw [IntKind.wrap_i64]; omega
              have hwy : IntKind.i64.wrap ((y : Int) + 1) = (y : Int) + 1 := by rw [IntKind.wrap_i64]; omega
              have hwz : IntKind.i64.wrap ((z : Int) + 1) = (z : Int) + 1 := by rw [IntKind.wrap_i64]; omega
              by_cases he : a[i']'hia = b[k']'hkb
              · obtain ⟨q1, q2⟩ := eq_get hia hkb he
                rw [he, ne_same, Nat.add_zero] at hrec
                have hmin : ∀ W, (Builtin.min_ #[3, 3, 3] 3 #[.int .i64 x, .int .i64 ((y : Int) + 1), .int .i64 ((z : Int) + 1)]).run Try.prog W = .ok (.int .i64 r) W := fun W => by
                  rw [min3]; congr 2; omega
                have HK' := Lib.hid hk'
                clear hk' hrec he hr
                go_wp2_with (fail)
                go_quiet (fail)
                go_wp2_with (fail)
                go_quiet (fail)
                go_wp2_with (at_builtin
                             refine wpList_append_sl _ rfl (.tmp 68) (.tmp 70) _ rfl w0.heap.size 3 _ 8 Try.underlying54 intE (.slice (some ⟨gr, 0, none⟩) k cr) k (nv (pr (bl a) (bl b) i k)) rfl (own_alloc' hrown rfl _) _ _ 1 1 [.int .i64 (r : Int)] rfl (Sl.one _ _ _) rfl (by simp [Value.oneCell']) (by omega) (by unfold maxLen; omega) (by have := hBi.size; simp; omega) ?_
                             intro v4 w4 hown4 hg4 hat4
                             obtain ⟨A4, c4, rfl, hc4⟩ := own_slice hown4)
                go_roundw
                case rel => exact ⟨k + 1, c4, A4, by omega, by go_num, rfl, by rw [pr_succ, ← HVAL.out]; exact hown4, below_append (below_drewN' hBi _) (by have := hBi.size; exact this) _ hrown (Nat.le_refl _) hg4⟩
                case measure => simp [intOf]; omega
              · obtain ⟨q1, q2⟩ := ne_get hia hkb he
                rw [show ne (a[i']'hia) (b[k']'hkb) = 1 from if_neg he] at hrec
                have hmin : ∀ W, (Builtin.min_ #[3, 3, 3] 3 #[.int .i64 ((x : Int) + 1), .int .i64 ((y : Int) + 1), .int .i64 ((z : Int) + 1)]).run Try.prog W = .ok (.int .i64 r) W := fun W => by
                  rw [min3]; congr 2; omega
                have HK' := Lib.hid hk'
                clear hk' hrec he hr
                go_wp2_with (fail)
                go_quiet (fail)
                go_wp2_with (fail)
                go_quiet (fail)
                go_wp2_with (at_builtin
                             refine wpList_append_sl _ rfl (.tmp 68) (.tmp 70) _ rfl w0.heap.size 3 _ 8 Try.underlying54 intE (.slice (some ⟨gr, 0, none⟩) k cr) k (nv (pr (bl a) (bl b) i k)) rfl (own_alloc' hrown rfl _) _ _ 1 1 [.int .i64 (r : Int)] rfl (Sl.one _ _ _) rfl (by simp [Value.oneCell']) (by omega) (by unfold maxLen; omega) (by have := hBi.size; simp; omega) ?_
                             intro v4 w4 hown4 hg4 hat4
                             obtain ⟨A4, c4, rfl, hc4⟩ := own_slice hown4)
                go_roundw
                case rel => exact ⟨k + 1, c4, A4, by omega, by go_num, rfl, by rw [pr_succ, ← HVAL.out]; exact hown4, below_append (below_drewN' hBi _) (by have := hBi.size; exact this) _ hrown (Nat.le_refl _) hg4⟩
                case measure => simp [intOf]; omega
          · obtain rfl : k = m := by rw [HM.out]; rw [HM.out] at hk; omega
            have hownr := own_below HOWN.out hBi (Nat.le_refl _)
            have hBw := HB.out.trans (hBi.mono HB.out.size)
            have hszw := hBw.size
            have hszi := hBi.size
            go_wp2_with (at_builtin
                         refine wpList_append_sl _ rfl (.tmp 72) (.tmp 74) _ rfl w.heap.size 54 _ 24 Try.underlying53 rowE (.slice (some ⟨gt, 0, none⟩) i c) i ts rfl (own_alloc' hownr rfl _) _ _ 1 1 [.slice R k cr] rfl (Sl.one _ _ _) rfl (by simp [Value.oneCell']) (by omega) (by unfold maxLen; omega) (by simp; omega) ?_
                         intro v4 w4 hown4 hg4 hat4
                         obtain ⟨A4, c4, rfl, hc4⟩ := own_slice hown4)
            go_roundw
            case rel => exact ⟨i + 1, c4, A4, ts ++ [.slice R k cr], by omega, by go_num, rfl, hown4, last_next HOWN.out HB.out.size hrown hm1 hBi _ hg4 hat4, below_append hBw hszw _ hownr (Nat.le_refl _) hg4⟩
            case measure => simp [intOf]; omega
    · obtain ⟨g, c', i', hi', hts, hmc, hgb, hic, hne⟩ : ∃ g c' i', i = i' + 1 ∧ ts[i']? = some (.slice (some ⟨g, 0, none⟩) m c') ∧ m ≤ c' ∧ w.heap.size ≤ g ∧ ICells w0 g m (P (bl a) (bl b) i') ∧ (Value.slice A i c).ownBlock ≠ some g := by
        rcases hlast with h | h
        · omega
        · exact h
      obtain ⟨gt, ct', htv, hgtb, hgtl, hgtc⟩ := own_form hown (by omega)
      injection htv with hA _ hc
      subst hA
      subst hc
      obtain rfl : i' = a.size := by omega
      have hct : w0.cell? ⟨gt, a.size, none⟩ = some (.slice (some ⟨g, 0, none⟩) m c') := (hown.cellAt a.size (by omega)).trans hts
      have hall : P (bl a) (bl b) a.size b.size = D := by have := P_all (bl a) (bl b); rw [bl_len, bl_len] at this; rw [this, HD.out]
      have hcg : w0.cell? ⟨g, b.size, none⟩ = some (.int .i64 (D : Int)) := by rw [hic.cell hmb, hall]
      have hii : a.size < i := by omega
      clear hts hlast hown hic hall hi' hne
      go_wp2_with (fail)
      go_ret
      exact ⟨rfl, hB⟩
end Go.Proofs.Ytdfakjpchgomdaa.lev
