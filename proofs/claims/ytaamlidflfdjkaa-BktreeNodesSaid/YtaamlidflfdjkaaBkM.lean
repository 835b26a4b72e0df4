/-
  Program-free: a tree by distances from things, as a list of nodes: where a node hangs, what the hooks' map and the places' map tell, that the way down ends at a hook that is free; kids; how deep nodes are.
-/
import Derived.Test.YtaamlidflfdjkaaGMet
import Derived.Test.YtaamlidflfdjkaaTbM
import Derived.ChangeKeys
namespace Go.Proofs.Ytaamlidflfdjkaa.bk
open Go.WideShapes metric ord tab
set_option linter.unusedVariables false

/-- a node: its number, its thing, whether it is gone, where it hangs -/
structure Bn where
  id : Int
  x : Thing
  gone : Bool
  par : Int
  edge : Int
/-! ### hooks -/
def hk (L : List Bn) (p e : Int) : Option Nat := L.findIdx? fun b => decide (b.par = p) && decide (b.edge = e)
theorem hk_some {L : List Bn} {p e : Int} {i : Nat} (h : hk L p e = some i) : ∃ b, L[i]? = some b ∧ b.par = p ∧ b.edge = e := by
  unfold hk at h
  rw [List.findIdx?_eq_some_iff_getElem] at h
  obtain ⟨hi, h1, -⟩ := h
  simp at h1
  exact ⟨L[i], List.getElem?_eq_getElem hi, h1.1, h1.2⟩
theorem hk_none {L : List Bn} {p e : Int} (h : hk L p e = none) : ∀ b ∈ L, ¬ (b.par = p ∧ b.edge = e) := fun b hb hc => by
  unfold hk at h
  rw [List.findIdx?_eq_none_iff] at h
  have := h b hb
  simp [hc.1, hc.2] at this
theorem hk_snoc (L : List Bn) (b : Bn) (p e : Int) : hk (L ++ [b]) p e = match hk L p e with
    | some i => some i
    | none => if b.par = p ∧ b.edge = e then some L.length else none := by
  unfold hk
  rw [List.findIdx?_append]
  cases List.findIdx? (fun b => decide (b.par = p) && decide (b.edge = e)) L with
  | some i => rfl
  | none =>
    by_cases h : b.par = p ∧ b.edge = e
    · simp [List.findIdx?_cons, h.1, h.2]
    · rw [if_neg h]
      have : (decide (b.par = p) && decide (b.edge = e)) = false := by simp; exact fun h1 h2 => h ⟨h1, h2⟩
      simp [List.findIdx?_cons, this]
theorem hk_lt {L : List Bn} {p e : Int} {i : Nat} (h : hk L p e = some i) : i < L.length := by
  obtain ⟨b, hb, -⟩ := hk_some h
  exact (List.getElem?_eq_some_iff.1 hb).1
/-- the hooks' map -/
def hkey (p e : Int) : Lit := .string (keyBytes [.int .i64 p, .int .i64 e])
def I64 (z : Int) : Prop := -9223372036854775808 ≤ z ∧ z ≤ 9223372036854775807
theorem wf64 {z : Int} (h : I64 z) : (Lit.int .i64 z).wf = true := by
  obtain ⟨h1, h2⟩ := h
  simp [Lit.wf, IntKind.min, IntKind.max, IntKind.signed, IntKind.bits]
  omega
theorem hkey_inj {p e p' e' : Int} (h1 : I64 p) (h2 : I64 e) (h3 : I64 p') (h4 : I64 e') (h : hkey p e = hkey p' e') : p = p' ∧ e = e' := by
  unfold hkey at h
  injection h with h
  have := keyBytes_inj (l := [.int .i64 p, .int .i64 e]) (l' := [.int .i64 p', .int .i64 e']) ⟨rfl, rfl, trivial⟩ (by
    intro a ha
    simp only [List.mem_cons, List.not_mem_nil, or_false] at ha
    rcases ha with rfl | rfl
    · exact wf64 h1
    · exact wf64 h2) (by
    intro a ha
    simp only [List.mem_cons, List.not_mem_nil, or_false] at ha
    rcases ha with rfl | rfl
    · exact wf64 h3
    · exact wf64 h4) h
  injection this with a b
  injection a with _ a
  injection b with b _
  injection b with _ b
  exact ⟨a, b⟩
theorem hkey_key (p e : Int) : WideAt.IsKeyLit (hkey p e) := trivial
def Hk (D : DataW Unit) (L : List Bn) : Prop :=
  Maps.Tidy D ∧ ∀ p e, I64 p → I64 e → Maps.has D (hkey p e) = (hk L p e).isSome ∧ ∀ i, hk L p e = some i → ∀ z, D.atKey (hkey p e) z = .lit (.int .i64 i)
theorem Hk.nil : Hk (.map []) [] := ⟨Maps.tidy_empty, fun _ _ _ _ => ⟨rfl, fun i h => by simp [hk] at h⟩⟩
theorem Hk.put {D : DataW Unit} {L : List Bn} (h : Hk D L) (b : Bn) (hp : I64 b.par) (he : I64 b.edge) (hn : hk L b.par b.edge = none) : Hk (D.put (hkey b.par b.edge) (.lit (.int .i64 L.length))) (L ++ [b]) := by
  obtain ⟨h1, h2⟩ := h
  refine ⟨h1.put (hkey_key _ _) _, fun p e hip hie => ?_⟩
  obtain ⟨h3, h4⟩ := h2 p e hip hie
  rw [hk_snoc]
  by_cases hc : b.par = p ∧ b.edge = e
  · obtain ⟨rfl, rfl⟩ := hc
    rw [Maps.has_put_same h1.isMap (hkey_key _ _), hn]
    refine ⟨by simp, fun i hi z => ?_⟩
    simp at hi
    subst hi
    rw [Maps.atKey_put_same h1.isMap (hkey_key _ _)]
  · have hne : hkey p e ≠ hkey b.par b.edge := fun h => hc (by
      obtain ⟨a, b⟩ := hkey_inj hip hie hp he h
      exact ⟨a.symm, b.symm⟩)
    rw [Maps.has_put_other hne, h3]
    cases hq : hk L p e with
    | some i =>
      refine ⟨by simp, fun j hj z => ?_⟩
      rw [Maps.atKey_put_other hne]
      exact h4 j (by rw [hq]; exact hj) z
    | none =>
      refine ⟨by simp [hc], fun j hj z => ?_⟩
      simp [hc] at hj
/-! ### the way down -/
def at_ (L : List Bn) (i : Nat) : Thing := (L[i]?.map Bn.x).getD ⟨0, [], ⟨#[]⟩⟩
theorem at_of {L : List Bn} {i : Nat} {b : Bn} (h : L[i]? = some b) : at_ L i = b.x := by unfold at_; rw [h]; rfl
def sk (n : Int) (L : List Bn) (x : Thing) : Nat → Int → Int → Int × Int
  | 0, p, e => (p, e)
  | f + 1, p, e => match hk L p e with
    | none => (p, e)
    | some i => sk n L x f i (M n x (at_ L i))
/-- where a thing has to hang -/
def seek (n : Int) (L : List Bn) (x : Thing) : Int × Int := sk n L x L.length (-1) 0
inductive Way (n : Int) (L : List Bn) (x : Thing) : Int → Int → Prop
  | root : Way n L x (-1) 0
  | step (i : Nat) (b : Bn) : L[i]? = some b → Way n L x b.par b.edge → Way n L x i (M n x b.x)
theorem Way.more {n : Int} {L : List Bn} {x : Thing} {p e : Int} (h : Way n L x p e) (R : List Bn) : Way n (L ++ R) x p e := by
  induction h with
  | root => exact .root
  | step i b hb _ ih => exact .step i b (by rw [List.getElem?_append_left (List.getElem?_eq_some_iff.1 hb).1]; exact hb) ih
structure Tree (n : Int) (L : List Bn) : Prop where
  par : ∀ (i : Nat) (b : Bn), L[i]? = some b → b.par < i ∧ -1 ≤ b.par
  uniq : ∀ (i j : Nat) (b c : Bn), L[i]? = some b → L[j]? = some c → b.par = c.par → b.edge = c.edge → i = j
  way : ∀ (i : Nat) (b : Bn), L[i]? = some b → Way n L b.x b.par b.edge
theorem Tree.nil (n : Int) : Tree n [] := ⟨fun i b h => by simp at h, fun i j b c h => by simp at h, fun i b h => by simp at h⟩
section
variable {n : Int} {L : List Bn} {x : Thing}
theorem Tree.hk_at (h : Tree n L) {i : Nat} {b : Bn} (hb : L[i]? = some b) : hk L b.par b.edge = some i := by
  cases hq : hk L b.par b.edge with
  | none => exact absurd ⟨rfl, rfl⟩ (hk_none hq b (List.mem_of_getElem? hb))
  | some j =>
    obtain ⟨c, hc, h1, h2⟩ := hk_some hq
    rw [h.uniq j i c b hc hb h1 h2]
theorem Tree.hk_gt (h : Tree n L) {p e : Int} {i : Nat} (hh : hk L p e = some i) : p < i ∧ -1 ≤ p := by
  obtain ⟨b, hb, rfl, -⟩ := hk_some hh
  exact h.par i b hb
theorem Tree.hk_high (h : Tree n L) {p e : Int} (hp : (L.length : Int) ≤ p + 1) : hk L p e = none := by
  cases hq : hk L p e with
  | none => rfl
  | some i =>
    have := (h.hk_gt hq).1
    have := hk_lt hq
    omega
theorem Tree.sk_free (h : Tree n L) : ∀ (f : Nat) (p e : Int), (L.length : Int) ≤ f + (p + 1) → hk L (sk n L x f p e).1 (sk n L x f p e).2 = none
  | 0, p, e, hf => by
    show hk L p e = none
    exact h.hk_high (by omega)
  | f + 1, p, e, hf => by
    unfold sk
    cases hq : hk L p e with
    | none => exact hq
    | some i =>
      refine h.sk_free f _ _ ?_
      have := (h.hk_gt hq).1
      omega
theorem sk_way (h : Tree n L) : ∀ (f : Nat) (p e : Int), Way n L x p e → Way n L x (sk n L x f p e).1 (sk n L x f p e).2
  | 0, p, e, hw => hw
  | f + 1, p, e, hw => by
    unfold sk
    cases hq : hk L p e with
    | none => exact hw
    | some i =>
      obtain ⟨b, hb, rfl, rfl⟩ := hk_some hq
      refine sk_way h f _ _ ?_
      rw [at_of hb]
      exact .step i b hb hw
theorem Tree.free (h : Tree n L) (x : Thing) : hk L (seek n L x).1 (seek n L x).2 = none := h.sk_free _ _ _ (by omega)
theorem Tree.seek_way (h : Tree n L) (x : Thing) : Way n L x (seek n L x).1 (seek n L x).2 := sk_way h _ _ _ .root
theorem Way.par_bd {p e : Int} (h : Way n L x p e) : -1 ≤ p ∧ p < L.length := by
  cases h with
  | root => omega
  | step i b hb _ =>
    have := (List.getElem?_eq_some_iff.1 hb).1
    omega
theorem Way.edge_bd {p e : Int} (h : Way n L x p e) (hx : Small x) (hs : ∀ b ∈ L, Small b.x) : 0 ≤ e ∧ e ≤ 4503599627370496 := by
  cases h with
  | root => omega
  | step i b hb _ => exact ⟨M_nonneg _ _ _, M_small hx (hs b (List.mem_of_getElem? hb))⟩
/-- a node more -/
theorem Tree.put (h : Tree n L) (b : Bn) (hb : (b.par, b.edge) = seek n L b.x) : Tree n (L ++ [b]) := by
  have hfree := h.free b.x
  have hway := h.seek_way b.x
  rw [← hb] at hfree hway
  have hbd := hway.par_bd
  have key : ∀ i c, (L ++ [b])[i]? = some c → L[i]? = some c ∨ i = L.length ∧ c = b := fun i c hc => by
    rw [List.getElem?_append] at hc
    split at hc
    · exact .inl hc
    · rename_i hi
      have := (List.getElem?_eq_some_iff.1 hc).1
      simp at this
      have e : i - L.length = 0 := by omega
      rw [e] at hc
      simp at hc
      exact .inr ⟨by omega, hc.symm⟩
  refine ⟨fun i c hc => ?_, fun i j c d hc hd h1 h2 => ?_, fun i c hc => ?_⟩
  · rcases key i c hc with hc | ⟨rfl, rfl⟩
    · exact h.par i c hc
    · exact ⟨hbd.2, hbd.1⟩
  · rcases key i c hc with hc1 | ⟨rfl, rfl⟩ <;> rcases key j d hd with hd1 | ⟨rfl, rfl⟩
    · exact h.uniq i j c d hc1 hd1 h1 h2
    · exact absurd ⟨h1, h2⟩ (hk_none hfree c (List.mem_of_getElem? hc1))
    · exact absurd ⟨h1.symm, h2.symm⟩ (hk_none hfree d (List.mem_of_getElem? hd1))
    · rfl
  · rcases key i c hc with hc | ⟨rfl, rfl⟩
    · exact (h.way i c hc).more _
    · exact hway.more _
end
/-! ### which places live numbers have -/
def lv (L : List Bn) (id : Int) : Option Nat := L.findIdx? fun b => !b.gone && decide (b.id = id)
def cnt (L : List Bn) : Nat := L.countP fun b => !b.gone
theorem cnt_le (L : List Bn) : cnt L ≤ L.length := List.countP_le_length
theorem cnt_snoc (L : List Bn) (b : Bn) : cnt (L ++ [b]) = cnt L + if b.gone then 0 else 1 := by
  unfold cnt
  rw [List.countP_append]
  cases hb : b.gone <;> simp [hb]
def Ul (L : List Bn) : Prop := ∀ (i j : Nat) (b c : Bn), L[i]? = some b → L[j]? = some c → b.gone = false → c.gone = false → b.id = c.id → i = j
theorem lv_some {L : List Bn} {id : Int} {i : Nat} (h : lv L id = some i) : ∃ b, L[i]? = some b ∧ b.gone = false ∧ b.id = id := by
  unfold lv at h
  rw [List.findIdx?_eq_some_iff_getElem] at h
  obtain ⟨hi, h1, -⟩ := h
  simp at h1
  exact ⟨L[i], List.getElem?_eq_getElem hi, h1.1, h1.2⟩
theorem lv_none {L : List Bn} {id : Int} (h : lv L id = none) : ∀ b ∈ L, b.gone = false → b.id ≠ id := fun b hb hg he => by
  unfold lv at h
  rw [List.findIdx?_eq_none_iff] at h
  have := h b hb
  simp [hg, he] at this
theorem lv_lt {L : List Bn} {id : Int} {i : Nat} (h : lv L id = some i) : i < L.length := by
  obtain ⟨b, hb, -⟩ := lv_some h
  exact (List.getElem?_eq_some_iff.1 hb).1
theorem Ul.lv_at {L : List Bn} (h : Ul L) {i : Nat} {b : Bn} (hb : L[i]? = some b) (hg : b.gone = false) : lv L b.id = some i := by
  cases hq : lv L b.id with
  | none => exact absurd rfl (lv_none hq b (List.mem_of_getElem? hb) hg)
  | some j =>
    obtain ⟨c, hc, h1, h2⟩ := lv_some hq
    rw [h j i c b hc hb h1 hg h2]
theorem lv_snoc (L : List Bn) (b : Bn) (id : Int) : lv (L ++ [b]) id = match lv L id with
    | some i => some i
    | none => if b.gone = false ∧ b.id = id then some L.length else none := by
  unfold lv
  rw [List.findIdx?_append]
  cases List.findIdx? (fun b => !b.gone && decide (b.id = id)) L with
  | some i => rfl
  | none =>
    by_cases h : b.gone = false ∧ b.id = id
    · simp [List.findIdx?_cons, h.1, h.2]
    · rw [if_neg h]
      have : (!b.gone && decide (b.id = id)) = false := by
        cases hg : b.gone
        · simp; exact fun e => h ⟨hg, e⟩
        · rfl
      simp [List.findIdx?_cons, this]
def Pm (D : DataW Unit) (L : List Bn) : Prop :=
  Maps.Tidy D ∧ Maps.size D = cnt L ∧ ∀ id, Maps.has D (ky id) = (lv L id).isSome ∧ ∀ i, lv L id = some i → ∀ z, D.atKey (ky id) z = .lit (.int .i64 i)
theorem Pm.nil : Pm (.map []) [] := ⟨Maps.tidy_empty, rfl, fun _ => ⟨rfl, fun i h => by simp [lv] at h⟩⟩
theorem Pm.gone {D : DataW Unit} {L : List Bn} (h : Pm D L) (b : Bn) (hg : b.gone = true) : Pm D (L ++ [b]) := by
  obtain ⟨h1, h2, h3⟩ := h
  refine ⟨h1, by rw [cnt_snoc, hg, h2]; simp, fun id => ?_⟩
  rw [lv_snoc, hg]
  obtain ⟨h4, h5⟩ := h3 id
  cases hq : lv L id with
  | some i => exact ⟨by rw [h4, hq], fun j hj z => h5 j (by rw [hq]; exact hj) z⟩
  | none => exact ⟨by rw [h4, hq]; simp, fun j hj => by simp at hj⟩
theorem Pm.put {D : DataW Unit} {L : List Bn} (h : Pm D L) (b : Bn) (hg : b.gone = false) (hn : lv L b.id = none) : Pm (D.put (ky b.id) (.lit (.int .i64 L.length))) (L ++ [b]) := by
  obtain ⟨h1, h2, h3⟩ := h
  refine ⟨h1.put (ky_key _) _, ?_, fun id => ?_⟩
  · rw [Maps.size_put h1, (h3 b.id).1, hn, h2, cnt_snoc, hg]
    simp
  · obtain ⟨h4, h5⟩ := h3 id
    rw [lv_snoc]
    by_cases e : b.id = id
    · subst e
      rw [Maps.has_put_same h1.isMap (ky_key _), hn]
      refine ⟨by simp [hg], fun i hi z => ?_⟩
      simp [hg] at hi
      subst hi
      rw [Maps.atKey_put_same h1.isMap (ky_key _)]
    · have hne : ky id ≠ ky b.id := ky_ne fun h => e h.symm
      rw [Maps.has_put_other hne, h4]
      cases hq : lv L id with
      | some i => exact ⟨by simp, fun j hj z => by rw [Maps.atKey_put_other hne]; exact h5 j (by rw [hq]; exact hj) z⟩
      | none => exact ⟨by simp [e], fun j hj => by simp [e] at hj⟩
theorem Ul.nil : Ul [] := fun i j b c h => by simp at h
theorem Ul.put {L : List Bn} (h : Ul L) (b : Bn) (hn : b.gone = false → lv L b.id = none) : Ul (L ++ [b]) := by
  have key : ∀ i c, (L ++ [b])[i]? = some c → L[i]? = some c ∨ i = L.length ∧ c = b := fun i c hc => by
    rw [List.getElem?_append] at hc
    split at hc
    · exact .inl hc
    · rename_i hi
      have := (List.getElem?_eq_some_iff.1 hc).1
      simp at this
      have e : i - L.length = 0 := by omega
      rw [e] at hc
      simp at hc
      exact .inr ⟨by omega, hc.symm⟩
  intro i j c d hc hd h1 h2 h3
  rcases key i c hc with hc1 | ⟨rfl, rfl⟩ <;> rcases key j d hd with hd1 | ⟨rfl, rfl⟩
  · exact h i j c d hc1 hd1 h1 h2 h3
  · exact absurd h3 (lv_none (hn h2) c (List.mem_of_getElem? hc1) h1)
  · exact absurd h3.symm (lv_none (hn h1) d (List.mem_of_getElem? hd1) h2)
  · rfl
/-! ### kids -/
def kds (L : List Bn) (p : Nat) : List Nat := (List.range L.length).filter fun i => decide ((L[i]?.map Bn.par).getD (-2) = p)
theorem kds_mem {L : List Bn} {p i : Nat} : i ∈ kds L p ↔ ∃ b, L[i]? = some b ∧ b.par = p := by
  unfold kds
  rw [List.mem_filter, List.mem_range]
  constructor
  · rintro ⟨hi, h⟩
    rw [List.getElem?_eq_getElem hi] at h
    simp at h
    exact ⟨L[i], List.getElem?_eq_getElem hi, h⟩
  · rintro ⟨b, hb, h⟩
    refine ⟨(List.getElem?_eq_some_iff.1 hb).1, ?_⟩
    rw [hb]
    simp [h]
theorem kds_snoc (L : List Bn) (b : Bn) (p : Nat) : kds (L ++ [b]) p = kds L p ++ if b.par = p then [L.length] else [] := by
  unfold kds
  rw [List.length_append, List.length_singleton, List.range_succ, List.filter_append]
  congr 1
  · refine List.filter_congr fun i hi => ?_
    rw [List.mem_range] at hi
    rw [List.getElem?_append_left hi]
  · by_cases h : b.par = p
    · simp [h]
    · simp [h]
theorem kds_gone {L K : List Bn} (h : L.map Bn.par = K.map Bn.par) (p : Nat) : kds L p = kds K p := by
  have hl : L.length = K.length := by simpa using congrArg List.length h
  unfold kds
  rw [hl]
  refine List.filter_congr fun i hi => ?_
  have : (L.map Bn.par)[i]? = (K.map Bn.par)[i]? := by rw [h]
  rw [List.getElem?_map, List.getElem?_map] at this
  rw [this]
theorem kds_len (L : List Bn) (p : Nat) : (kds L p).length ≤ L.length := by
  unfold kds
  exact Nat.le_trans (List.length_filter_le _ _) (by simp)
/-- where nothing hangs yet -/
theorem Tree.kds_new {n : Int} {L : List Bn} (h : Tree n L) (b : Bn) (hb : b.par ≤ L.length - 1) : kds (L ++ [b]) L.length = [] := by
  refine List.eq_nil_iff_forall_not_mem.2 fun i hi => ?_
  obtain ⟨c, hc, hp⟩ := kds_mem.1 hi
  rw [List.getElem?_append] at hc
  split at hc
  · rename_i hl
    have := (h.par i c hc).1
    omega
  · have := (List.getElem?_eq_some_iff.1 hc).1
    simp at this
    have e : i - L.length = 0 := by omega
    rw [e] at hc
    simp at hc
    subst hc
    omega
/-! ### how deep -/
def dstep (ds : List Nat) (b : Bn) : Nat := 1 + if 0 ≤ b.par then ds.getD b.par.toNat 0 else 0
def deps (L : List Bn) : List Nat := L.foldl (fun ds b => ds ++ [dstep ds b]) []
theorem deps_snoc (L : List Bn) (b : Bn) : deps (L ++ [b]) = deps L ++ [dstep (deps L) b] := by unfold deps; rw [List.foldl_append]; rfl
theorem deps_length (L : List Bn) : (deps L).length = L.length := by
  have key : ∀ (L : List Bn) (ds : List Nat), (L.foldl (fun ds b => ds ++ [dstep ds b]) ds).length = ds.length + L.length := by
    intro L
    induction L with
    | nil => intro ds; rfl
    | cons b L ih =>
      intro ds
      rw [List.foldl_cons, ih]
      simp
      omega
  unfold deps
  rw [key]
  simp
def depth (L : List Bn) : Nat := (deps L).foldl max 0
end Go.Proofs.Ytaamlidflfdjkaa.bk
