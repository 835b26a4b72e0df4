/-
  Rows of texts; the contract of ham.Pairs.
-/
import Derived.Test.YtefpaaklppmkhaaHamS
import Derived.Deep.RegionHeld3
import Derived.Deep.AppendLies
namespace Go.Proofs.Ytefpaaklppmkhaa.ham
open Go.RowKit law bytes
open Go.ChangeShapes Go.WideShapes Go.ChangeAt
set_option linter.unusedVariables false

def sv (l : List ByteArray) : List Value := l.map fun s => Value.string s
theorem sv_length (l : List ByteArray) : (sv l).length = l.length := by simp [sv]
/-- the text at a place -/
def tx (l : List ByteArray) (i : Nat) : ByteArray := l[i]?.getD ⟨#[]⟩
theorem Sl.text {w : World} {B : Nat} {A : Option Addr} {l : List ByteArray} {k : Nat} (h : Sl w B A (sv l)) (hk : k < l.length) : ∃ ad, A = some ad ∧ ad.block < B ∧ w.cell? (ad.add k) = some (.string (tx l k)) := by
  have := h.at_ (k := k) (by rw [sv_length]; exact hk)
  simpa [sv, tx, List.getElem?_eq_getElem hk] using this
/-- how far each of the first k is from the next one -/
def prs (l : List ByteArray) : Nat → List Nat
  | 0 => []
  | k + 1 => prs l k ++ [D (tx l k) (tx l (k + 1))]
theorem prs_length (l : List ByteArray) (k : Nat) : (prs l k).length = k := by
  induction k with
  | zero => rfl
  | succ k ih => simp [prs, ih]
theorem prs_step (l : List ByteArray) (k : Nat) : nv (prs l (k + 1)) = nv (prs l k) ++ [.int .i64 (D (tx l k) (tx l (k + 1)) : Int)] := by
  rw [prs, nv_append, nv_one]
def Fit (l : List ByteArray) : Prop := ∀ s ∈ l, s.size ≤ 9223372036854775807
theorem Fit.tx {l : List ByteArray} (h : Fit l) (i : Nat) : (tx l i).size ≤ 9223372036854775807 := by
  unfold ham.tx
  by_cases hi : i < l.length
  · rw [List.getElem?_eq_getElem hi]; exact h _ (List.getElem_mem hi)
  · rw [List.getElem?_eq_none (by omega)]; exact Nat.zero_le _

section
variable {P : Program}
theorem step_append_sl (w : World) {ops : Array Oper} {o : Oper} {a : Act} {K : Act → World → Prop} {Q : Exit → Act → World → Prop} {E : Prop} (hgd : o.guard = none) (s x : Operand) (t : TypeId)
    (ho : o.op = .call { callee := .builtin .append, args := #[s, x], argTypes := #[t, t] }) (base : Nat) (e : TypeId) (z : Value) (bytes : Nat) (ht : P.underlying t = some (.slice e)) (he : Elem P e z bytes)
    (v : Value) (n : Nat) (xs : List Value) (hs : a.eval s = v) (hown : w.ownsRow base e 1 v n xs) (B : Nat) (A : Option Addr) (m c : Nat) (news : List Value) (hx : a.eval x = .slice A m c) (hr : Sl w B A news) (hl : news.length = m)
    (h1 : ∀ u ∈ news, u.oneCell' = true) (hbytes : (n + m) * bytes ≤ 140737488355328) (h63 : n + m ≤ maxLen) (hbase : base ≤ w.heap.size)
    (h : ∀ v' w', w'.ownsRow base e 1 v' (n + m) (xs ++ news) → w.grownBy w' v.ownBlock → (v'.ownBlock = v.ownBlock ∨ v'.ownBlock = some w.heap.size) → K (a.put o.dst v') w') :
    if Region.wanted o (yielded ops a.tmps) = true then Oper.wp P o a w K Q else E := by
  have hw : Region.wanted o (yielded ops a.tmps) = true := by simp [Region.wanted, hgd]
  rw [if_pos hw]
  exact wp_append_sl w s x t ho base e z bytes ht he v n xs hs hown B A m c news hx hr hl h1 hbytes h63 hbase h
end
/-- a new block of one cell, in whatever world -/
theorem Sl.new {w : World} {b : Nat} {x : Value} {t : TypeId} {fr : Nat × Nat} (h : w.heap[b]? = some (.cells #[x] t fr)) : Sl w w.heap.size (some ⟨b, 0, none⟩) [x] := fun j u hj =>
  ⟨_, rfl, (Array.getElem?_eq_some_iff.1 h).1, World.news_of_block (cs := #[x]) h j u hj⟩

section
variable {H : Type} {enc : TypeId × Value → H} {P : Program} {W : World}
theorem open_texts {r : Reach} {b0 : Nat} {t e : TypeId} {v : Value} {d : DataW H} {p : List MemPlace} (ht : P.underlying t = some (.slice e)) (he : P.underlying e = some .string) (hc : P.cellsOf e = 1)
    (hv : Value.okWide P W r b0 t v) (h : DataW.Trod enc P W 0 (fun _ => true) true t v d p) :
    ∃ A c l, v = .slice A l.length c ∧ l.length ≤ c ∧ Sl W W.heap.size A (sv l) ∧ Fit l ∧ ((A = none ∧ c = 0 ∧ l = [] ∧ d = .nil) ∨ ∃ el sp, d = .slice el sp ∧ el.length + sp.length = c) := by
  obtain ⟨A, len, cap, rfl⟩ := okWide_slice ht hv
  obtain ⟨fuel, hf⟩ := h
  rcases open_strings ht he hc hf with ⟨hcs, hx⟩ | ⟨a, len', cap', ss, hcs, _, hl, hm, hz, hx, hcell, hwz⟩
  · simp [Value.cells] at hcs
    obtain ⟨rfl, rfl, rfl⟩ := hcs
    injection hx with hd hp
    exact ⟨none, 0, [], rfl, Nat.le_refl _, Sl.nil, fun s h => by simp at h, .inl ⟨rfl, rfl, rfl, hd⟩⟩
  · simp [Value.cells] at hcs
    obtain ⟨rfl, rfl, rfl⟩ := hcs
    injection hx with hd hp
    simp only [if_true] at hz
    have ht : (ss.take len).length = len := by simp; omega
    refine ⟨some a, cap, ss.take len, by rw [ht], by omega, fun j u hj => ?_, fun s hs => hwz s (List.mem_of_mem_take hs), .inr ⟨_, _, hd, by simp [strs]; omega⟩⟩
    simp only [sv, List.getElem?_map, List.getElem?_take] at hj
    split at hj
    · rename_i hlt
      have hlz : j < ss.length := by omega
      have hcj := hcell j hlz
      simp only [List.getElem?_eq_getElem hlz, Option.map_some, Option.some.injEq] at hj
      subst hj
      refine ⟨a, rfl, ?_, by rw [hcj]; simp [List.getD, List.getElem?_eq_getElem hlz]⟩
      have := World.block_lt_of_cell? W _ hcj
      rwa [blk_add] at this
    · cases hj
end

set_option maxHeartbeats 1600000 in
theorem pairs_any (A : Option Addr) (c : Nat) (l : List ByteArray) (hf : Fit l) (hl : l.length * 16 ≤ 140737488355328) (w : World) (hs : Sl w w.heap.size A (sv l)) :
    Calls Try.prog 12 #[.slice A l.length c] w (Nums (l.length - 1) (prs l (l.length - 1)) w) := by
  have HF := Lib.hid hf
  have HS0 := Lib.hid hs
  clear hf hs
  go_enter Try.func12, Try.ntmps12
  go_wp2_with (fail)
  go_loopg [3, 4] (l.length - 1) (fun gk v i wr => ∃ (k m c : Nat) (A : Option Addr), k ≤ l.length - 1 ∧ m = k + 1 ∧ gk = l.length - 1 - k ∧ i = .int .i64 m ∧ v = .slice A k c ∧ wr.ownsRow w.heap.size 3 1 (.slice A k c) k (nv (prs l k)) ∧ Below w.heap.size w wr)
  case atStart => exact ⟨0, 1, 0, none, Nat.zero_le _, rfl, rfl, rfl, rfl, World.ownsRow_nil _ _ _ _, Below.refl _ _⟩
  case round =>
    obtain ⟨k, m, c', A', hk, hm, rfl, rfl, rfl, hown, hB⟩ := hrel
    have hsz := hB.size
    by_cases hlt : m < l.length
    · obtain ⟨ad, rfl, hb1, hc1⟩ := Sl.text (HS0.out.below hB) (k := k) (by omega)
      obtain ⟨ad', e', hb2, hc2⟩ := Sl.text (HS0.out.below hB) hlt
      injection e' with e'
      subst e'
      have HPS := Lib.hid (prs_step l k)
      have hdist := fun W => dist_any (tx l k) (tx l m) (HF.out.tx k) (HF.out.tx m) W
      rw [← hm] at HPS
      generalize D (tx l k) (tx l m) = d at HPS hdist
      generalize tx l k = x at hc1 hdist
      generalize tx l m = y at hc2 hdist
      have HD := Lib.hid hdist
      clear hdist
      have HS : Hid (∀ W, Below w.heap.size w W → (W.cell? (ad.add k) = some (.string x) ∧ W.cell? (ad.add m) = some (.string y))) := Lib.hid fun W hW =>
        ⟨by rw [hW.cell (by rw [blk_add]; exact hb1), ← hB.cell (by rw [blk_add]; exact hb1)]; exact hc1, by rw [hW.cell (by rw [blk_add]; exact hb2), ← hB.cell (by rw [blk_add]; exact hb2)]; exact hc2⟩
      have HSZ : Hid (∀ n, w.heap.size ≤ (wr.drewN n).heap.size) := Lib.hid fun n => hsz
      have i0 : (0 : Int) ≤ (m : Int) - 1 := by omega
      have i1 : (m : Int) - 1 < (l.length : Int) := by omega
      have i3 : (m : Int) < (l.length : Int) := by omega
      have i5 : ((m : Int) - 1).toNat = k := by omega
      have i4 : IntKind.i64.wrap ((m : Int) - 1) = (k : Int) := by rw [IntKind.wrap_i64]; omega
      have i6 : (k : Int) < (l.length : Int) := by omega
      have i7 : (0 : Int) ≤ (k : Int) := by omega
      have HM := Lib.hid hm
      clear hm
      go_wp2_with (fail)
      go_region_held3 (fun w' => w'.cell? (ad.add k) = some (.string x) ∧ w'.cell? (ad.add m) = some (.string y))
        ((refine HS.out _ ?_; repeat' (first | (with_reducible assumption) | (with_reducible refine Below.drew ?_) | (with_reducible refine below_drewN' ?_ _) | (with_reducible refine Below.alloc ?_ (HSZ.out _) _))))
        (first
          | (go_at_call 8; (with_reducible refine (HD.out _).mono ?_); rintro e w5 ⟨rfl, kk, rfl⟩)
          | ((refine step_append_sl _ (by rfl) _ _ _ (by rfl) w.heap.size 3 _ 8 Try.underlying25 intE (.slice A' k c') k (nv (prs l k)) (by rfl) (World.ownsRow.alloc (w := wr.drewN (1 + kk)) hown _) _ _ 1 1 [.int .i64 (d : Int)] (by rfl) (Sl.one (wr.drewN (1 + kk)) _ _) rfl (by simp [Value.oneCell']) (by omega) (by unfold maxLen; omega) (by simp; omega) ?_; intro v4 w4 hown4 hg4 hat4; have hB4 := below_append (below_drewN' hB (1 + kk)) hsz _ hown (Nat.le_refl _) hg4)))
      obtain ⟨A4, c4, rfl, hc4⟩ := own_slice hown4
      go_wp2_with (fail)
      go_roundg (l.length - 1 - (k + 1))
      case measure => omega
      case rel => exact ⟨k + 1, m + 1, c4, A4, by omega, by rw [HM.out], rfl, by go_num, rfl, by rw [← HM.out, HPS.out, HM.out]; exact hown4, hB4⟩
    · obtain rfl : k = l.length - 1 := by omega
      clear hm
      go_wp2_with (fail)
      go_ret
      exact ⟨A', c', rfl, hown, hB⟩
end Go.Proofs.Ytefpaaklppmkhaa.ham
