/-
  BktreeNodes: one act, from where the law stands to where it stands next.
-/
import Derived.Test.YtaamlidflfdjkaaBkQ
import Derived.Test.YtaamlidflfdjkaaLpR
namespace Go.Proofs.Ytaamlidflfdjkaa.bk
open Go.RowKit Go.WideShapes law bytes only flat nums ord obj metric tab store play
open aro (Kept)
open Go.Maps Go.ChangeAt
set_option linter.unusedVariables false
set_option maxRecDepth 100000
/-- a deed's data, as it came in -/
structure Dd (w0 : World) (a : Deed) : Prop where
  vec : Sl w0 w0.heap.size a.it.2.A (iv a.it.2.x.vec)
  bf : Bf a.it.2.x
  wf : (Lit.int .u64 a.it.1).wf = true
  row : Sl w0 w0.heap.size a.A (a.l.flatMap iE)
  vecs : ∀ p ∈ a.l, Sl w0 w0.heap.size p.2.A (iv p.2.x.vec)
  bfs : ∀ p ∈ a.l, Bf p.2.x
  wfs : idx.Wf a.l
  few : a.l.length + 1 ≤ 60
/-- what a boxed deed tells -/
def Bc (W : World) (b : Nat) (cs : List Value) : Prop := ∀ j u, cs[j]? = some u → W.cell? ⟨b, j, none⟩ = some u
def Mem (w0 W : World) (b : Nat) (cs : List Value) : Prop := Below w0.heap.size w0 W ∧ Bc W b cs
theorem Bc.of {W : World} {T : Nat → Prop} {b : Nat} {cs : List Value} (h : Away W T (some ⟨b, 0, none⟩) cs) : Bc W b cs := fun j u hj => by
  obtain ⟨ad, e, -, -, hc⟩ := h j u hj
  injection e with e
  subst e
  have : (Addr.mk b 0 none).add j = ⟨b, j, none⟩ := by unfold Addr.add; split <;> simp_all
  rwa [this] at hc
theorem Away.old {w W : World} {T : Nat → Prop} {A : Option Addr} {xs : List Value} (h : Sl w w.heap.size A xs) (hb : Below w.heap.size w W) (hT : ∀ i, T i → w.heap.size ≤ i) : Away W T A xs := fun j u hj => by
  obtain ⟨ad, e, h1, hc⟩ := (h.below hb) j u hj
  exact ⟨ad, e, Nat.lt_of_lt_of_le h1 hb.size, fun ht => by have := hT _ ht; omega, hc⟩
theorem Bx.ul {w : World} {base tb g : Nat} {n k : Int} {T : Nat → Prop} {N : List Nd} (h : Bx w base tb g n k T N) : Ul (N.map bn) := by
  obtain ⟨hb, pb, mh, mp, vN, DH, DP, h1, h2, _⟩ := h
  exact h2.ul
/-- where the law stands: the tree, the items, the nodes, a boxed deed -/
def Lw (w0 W : World) (g tb base : Nat) (n : Int) (m b : Nat) (cs : List Value) (A : Option Addr) (lq : Nat) (A2 : Option Addr) (ll : Nat) : Prop :=
  ∃ (k : Int) (T : Nat → Prop) (N : List Nd) (q : List (Int × Kept)) (l : List Nd), Sn W base tb g n k T N A q A2 l ∧ q.length = lq ∧ l.length = ll ∧ w0.heap.size ≤ g ∧ Below w0.heap.size w0 W ∧ Away W (fun i => i = g ∨ T i) (some ⟨b, 0, none⟩) cs ∧ N.length ≤ m * 60 ∧ 0 ≤ k ∧ k ≤ (m * 68719476736 : Nat)
/-- a bulk's things are put into the nodes one by one -/
def Lb (w0 W : World) (g tb base : Nat) (n : Int) (m b : Nat) (a : Deed) (i : Nat) (A : Option Addr) (lq : Nat) (A2 : Option Addr) (ll : Nat) : Prop :=
  ∃ (k : Int) (T : Nat → Prop) (N : List Nd) (q : List (Int × Kept)) (l : List Nd) (L : List Bn), Bx W base tb g n k T N ∧ N.map bn = puts n L (rM a.l) ∧ Tree n L ∧ It (N.map bn) q ∧ Away W (fun i => i = g ∨ T i) A (q.flatMap iE) ∧
    l.map bn = puts n L (rM (a.l.take i)) ∧ Away W (fun i => i = g ∨ T i) A2 (l.flatMap bkE) ∧ (∀ d ∈ l, Away W (fun i => i = g ∨ T i) d.t.a (iv d.t.x.vec)) ∧ (∀ d ∈ l, Small d.t.x) ∧
    q.length = lq ∧ l.length = ll ∧ w0.heap.size ≤ g ∧ Below w0.heap.size w0 W ∧ Away W (fun i => i = g ∨ T i) (some ⟨b, 0, none⟩) (acE a) ∧ N.length ≤ (m + 1) * 60 ∧ 0 ≤ k ∧ k ≤ ((m + 1) * 68719476736 : Nat)
section
variable {w0 w w' W W' : World} {g tb base m b i lq ll : Nat} {n : Int} {A A2 : Option Addr} {a : Deed} {cs : List Value}
theorem Lw.below (h : Lw w0 W g tb base n m b cs A lq A2 ll) (o : Below W.heap.size W W') : Lw w0 W' g tb base n m b cs A lq A2 ll := by
  obtain ⟨k, T, N, q, l, hs, h1, h2, h3, h4, h5, h6, h7, h8⟩ := h
  exact ⟨k, T, N, q, l, hs.below o, h1, h2, h3, h4.trans (o.mono h4.size), h5.below o, h6, h7, h8⟩
theorem Lw.mem (h : Lw w0 W g tb base n m b cs A lq A2 ll) : Mem w0 W b cs := by
  obtain ⟨k, T, N, q, l, hs, h1, h2, h3, h4, h5, h6, h7, h8⟩ := h
  exact ⟨h4, Bc.of h5⟩
theorem Lw.box (h : Lw w0 W g tb base n m b cs A lq A2 ll) (o : Below W.heap.size W W') (hB : Bc W' W.heap.size (acE a)) (hlt : W.heap.size < W'.heap.size) : Lw w0 W' g tb base n m W.heap.size (acE a) A lq A2 ll := by
  obtain ⟨k, T, N, q, l, hs, h1, h2, h3, h4, h5, h6, h7, h8⟩ := h
  refine ⟨k, T, N, q, l, hs.below o, h1, h2, h3, h4.trans (o.mono h4.size), fun j u hj => ⟨⟨W.heap.size, 0, none⟩, rfl, hlt, ?_, ?_⟩, h6, h7, h8⟩
  · rintro (e | e)
    · have h9 := hs.bx.gb
      have h10 := hs.bx.low _ hs.bx.tt
      have : W.heap.size = g := e
      omega
    · have h10 := hs.bx.low _ e
      have : (Addr.mk W.heap.size 0 none).block = W.heap.size := rfl
      omega
  · have : (Addr.mk W.heap.size 0 none).add j = ⟨W.heap.size, j, none⟩ := by unfold Addr.add; split <;> simp_all
    rw [this]
    exact hB j u hj
theorem cnt_len (L : List Bn) : cnt L ≤ L.length := cnt_le L
theorem delQ_none {q : List (Int × Kept)} {id : Int} (h : ∀ p ∈ q, p.1 ≠ id) : delQ q id = q := List.filter_eq_self.2 fun p hp => by simpa using h p hp
theorem lv_isSome (L : List Bn) (id : Int) : live L id = (lv L id).isSome := rfl
/-- a turned tree: what was away is away still -/
theorem off_step {T T' : Nat → Prop} (hT : ∀ i, T' i → T i ∨ W.heap.size ≤ i) : ∀ i, i < W.heap.size → ¬ (i = g ∨ T i) → ¬ (i = g ∨ T' i) := fun i hi hn he => by
  rcases he with he | he
  · exact hn (.inl he)
  · rcases hT i he with h1 | h1
    · exact hn (.inr h1)
    · omega
theorem on_only {T : Nat → Prop} (hg : w0.heap.size ≤ g) (hT : ∀ i, T i → w0.heap.size ≤ i) (hb : Below w0.heap.size w0 W) (o : Only (fun i => i = g ∨ T i) W W') : Below w0.heap.size w0 W' :=
  hb.trans (o.below hb.size fun i e => by
    rcases e with rfl | e
    · exact hg
    · exact hT i e)
set_option maxHeartbeats 1600000 in
theorem Lw.insert (h : Lw w0 W g tb base n m b (acE a) A lq A2 ll) (hd : Dd w0 a) (hm : m < 120) (c c2 : Nat) : ∃ f : Int, (f = 0 ∨ f = 4) ∧
    Calls Try.prog 8 #[.pointer (some ⟨tb, 0, none⟩), .agg #[.int .u64 a.it.1, .int .i64 a.it.2.x.tag, .slice a.it.2.A a.it.2.x.vec.length a.it.2.c, .string a.it.2.x.str], .pointer none] W fun e w1 => (∃ z, e = .returned (.int .i64 z)) ∧
      Hid (∀ W1, Below w1.heap.size w1 W1 → Mem w0 W1 b (acE a) ∧ Calls Try.prog 9 #[.slice A lq c, .agg #[.int .u64 a.it.1, .int .i64 a.it.2.x.tag, .slice a.it.2.A a.it.2.x.vec.length a.it.2.c, .string a.it.2.x.str]] W1 fun e w2 => ∃ A' c' lq', e = .returned (.tuple #[.slice A' lq' c', .int .i64 f]) ∧
        (f = 4 → Lw w0 w2 g tb base n (m + 1) b (acE a) A' lq' A2 ll) ∧
        (f = 0 → ∀ W2, Below w2.heap.size w2 W2 → Mem w0 W2 b (acE a) ∧ Calls Try.prog 10 #[.int .i64 n, .slice A2 ll c2, .agg #[.int .u64 a.it.1, .int .i64 a.it.2.x.tag, .slice a.it.2.A a.it.2.x.vec.length a.it.2.c, .string a.it.2.x.str]] W2 fun e w3 => ∃ A2' c2' ll', e = .returned (.slice A2' ll' c2') ∧
          Lw w0 w3 g tb base n (m + 1) b (acE a) A' lq' A2' ll')) := by
  obtain ⟨k, T, N, q, l, hs, rfl, rfl, hg, hb0, hbx, hN, hk0, hk⟩ := h
  have hm60 : N.length ≤ 7200 := by omega
  have hlow : ∀ i, T i → w0.heap.size ≤ i := fun i e => by have := hs.bx.low i e; have := hs.bx.gb; omega
  have hids := hs.it.ids a.it.1
  refine ⟨if (gq q a.it.1).isSome = true then 4 else 0, by split <;> simp, ?_⟩
  refine (insert_any hs.bx a.it.1 ⟨a.it.2.A, a.it.2.c, a.it.2.x⟩ none ((hd.vec.below hb0).more hb0.size) hd.bf hd.wf (by omega) ⟨hk0, by omega⟩).mono ?_
  rintro e w1 ⟨rfl, k', T', N', hk1, hk2, hX, hNb, hO, hT'⟩
  refine ⟨⟨_, rfl⟩, Lib.hid fun W1 hW1 => ?_⟩
  obtain ⟨r1, r2, r3⟩ := hs.rows hO hT'
  have hbx1 := (hbx.step hO (off_step hT'))
  have hb1 := on_only hg hlow hb0 hO
  have hlow1 : ∀ i, T' i → w0.heap.size ≤ i := fun i e => by have := hX.low i e; have := hX.gb; omega
  have hXW := hX.below hW1
  have hS1 : ∀ i, (i = g ∨ T' i) → i < W1.heap.size := fun i e => by
    have h1 := hXW.low _ hXW.tt
    have h2 := hXW.gb
    rcases e with rfl | e
    · omega
    · exact (hXW.low i e).2
  have hbW := hb1.trans (hW1.mono hb1.size)
  have hql : q.length ≤ 7200 := by
    have h1 := hs.it.len
    have h2 := cnt_len (N.map bn)
    rw [List.length_map] at h2
    omega
  refine ⟨⟨hbW, Bc.of (hbx1.below hW1)⟩, ?_⟩
  refine (store.rput_any A c q a.it.1 a.it.2 W1 _ hS1 (r1.below hW1) hs.it.rise (by omega)).mono ?_
  rintro e w2 ⟨A', c', rfl, hq2, hb2⟩
  refine ⟨A', c', (putQ q a.it.1 a.it.2).length, rfl, fun hf => ?_, fun hf W2 hW2 => ?_⟩
  · have hg4 : (gq q a.it.1).isSome = true := by
      by_cases e : (gq q a.it.1).isSome = true
      · exact e
      · rw [if_neg e] at hf; cases hf
    have hL : live (N.map bn) a.it.1 = true := by rw [← hids]; exact hg4
    rw [if_pos hL] at hNb
    have hpq : putQ q a.it.1 a.it.2 = q := if_pos hg4
    rw [hpq] at hq2 ⊢
    have ho := (hW1.trans (hb2.mono hW1.size))
    refine ⟨k', T', N', q, l, ⟨hX.below ho, hs.same.trans hNb.symm, by rw [hNb]; exact hs.it, hq2, r2.below ho, fun d hd => (r3 d hd).below ho, hs.small⟩, rfl, rfl, hg, hb1.trans (ho.mono hb1.size), hbx1.below ho, ?_, by omega, ?_⟩
    · have := congrArg List.length hNb
      rw [List.length_map, List.length_map] at this
      omega
    · rw [List.length_map] at hk2
      omega
  · have hg0 : (gq q a.it.1).isSome = false := by
      by_cases e : (gq q a.it.1).isSome = true
      · rw [if_pos e] at hf; cases hf
      · simpa using e
    have hL : live (N.map bn) a.it.1 = false := by rw [← hids]; exact hg0
    rw [if_neg (by rw [hL]; simp)] at hNb
    have hpq : putQ q a.it.1 a.it.2 = insQ q a.it.1 a.it.2 := if_neg (by rw [hg0]; simp)
    rw [hpq] at hq2 ⊢
    have ho := (hW1.trans (hb2.mono hW1.size))
    have ho2 := ho.trans (hW2.mono ho.size)
    have hbW2 := hb1.trans (ho2.mono hb1.size)
    have hXW2 := hX.below ho2
    have hS2 : ∀ i, (i = g ∨ T' i) → i < W2.heap.size := fun i e => by
      have h1 := hXW2.low _ hXW2.tt
      have h2 := hXW2.gb
      rcases e with rfl | e
      · omega
      · exact (hXW2.low i e).2
    have hxa : Away W2 (fun i => i = g ∨ T' i) a.it.2.A (iv a.it.2.x.vec) := Away.old hd.vec hbW2 fun i e => by
      rcases e with rfl | e
      · exact hg
      · exact hlow1 i e
    have hll := hs.len
    refine ⟨⟨hbW2, Bc.of (hbx1.below ho2)⟩, ?_⟩
    refine (rput_any (l := l) n a.it.1 ⟨a.it.2.A, a.it.2.c, a.it.2.x⟩ (by rw [hs.same]; exact hs.bx.tree) (r2.below ho2).sl (fun d hd => ((r3 d hd).below ho2).sl) hs.small hd.bf.small hxa.sl (by omega)).mono ?_
    rintro e w3 ⟨A3, c3, rfl, ho3, hb3⟩
    have ho4 := ho2.trans (hb3.mono ho2.size)
    have hb3' : Below W2.heap.size W2 w3 := hb3
    refine ⟨A3, c3, l.length + 1, rfl, k', T', N', insQ q a.it.1 a.it.2, l ++ [nodeQ n l a.it.1 ⟨a.it.2.A, a.it.2.c, a.it.2.x⟩], ⟨hX.below ho4, ?_, ?_, hq2.below (hW2.trans (hb3.mono hW2.size)), ?_, ?_, ?_⟩, rfl, by simp, hg, hbW2.trans (hb3.mono hbW2.size), hbx1.below ho4, ?_, by omega, ?_⟩
    · rw [List.map_append, List.map_singleton, bn_nodeQ, hNb, hs.same]
    · rw [hNb]
      exact hs.it.put hg0
    · exact Away.made (k := 7) (by decide) ho3 hS2
    · intro d hdm
      rcases List.mem_append.1 hdm with hdm | hdm
      · exact (r3 d hdm).below ho4
      · obtain rfl := List.mem_singleton.1 hdm
        exact hxa.below hb3
    · intro d hdm
      rcases List.mem_append.1 hdm with hdm | hdm
      · exact hs.small d hdm
      · obtain rfl := List.mem_singleton.1 hdm
        exact hd.bf.small
    · have := congrArg List.length hNb
      rw [List.length_append, List.length_map, List.length_map, List.length_singleton] at this
      omega
    · rw [List.length_map] at hk2
      omega
set_option maxHeartbeats 1600000 in
theorem Lw.delete (h : Lw w0 W g tb base n m b (acE a) A lq A2 ll) (hd : Dd w0 a) (hm : m < 120) (c c2 : Nat) : ∃ f : Int, (f = 0 ∨ f = 5) ∧
    Calls Try.prog 11 #[.pointer (some ⟨tb, 0, none⟩), .int .u64 a.it.1, .pointer none] W fun e w1 => (∃ z, e = .returned (.int .i64 z)) ∧
      Hid (∀ W1, Below w1.heap.size w1 W1 → Mem w0 W1 b (acE a) ∧ Calls Try.prog 12 #[.slice A lq c, .int .u64 a.it.1] W1 fun e w2 => ∃ A' c' lq', e = .returned (.tuple #[.slice A' lq' c', .int .i64 f]) ∧
        (f = 5 → Lw w0 w2 g tb base n (m + 1) b (acE a) A' lq' A2 ll) ∧
        (f = 0 → ∀ W2, Below w2.heap.size w2 W2 → Mem w0 W2 b (acE a) ∧ Calls Try.prog 13 #[.int .i64 n, .slice A2 ll c2, .int .u64 a.it.1] W2 fun e w3 => ∃ A2' c2' ll', e = .returned (.slice A2' ll' c2') ∧
          Lw w0 w3 g tb base n (m + 1) b (acE a) A' lq' A2' ll')) := by
  obtain ⟨k, T, N, q, l, hs, rfl, rfl, hg, hb0, hbx, hN, hk0, hk⟩ := h
  have hm60 : N.length ≤ 7200 := by omega
  have hlow : ∀ i, T i → w0.heap.size ≤ i := fun i e => by have := hs.bx.low i e; have := hs.bx.gb; omega
  have hids := hs.it.ids a.it.1
  refine ⟨if (gq q a.it.1).isSome = true then 0 else 5, by split <;> simp, ?_⟩
  refine (delete_any hs.bx a.it.1 none hd.wf (by omega) ⟨hk0, by omega⟩).mono ?_
  rintro e w1 ⟨rfl, k', T', N', hX, hNn, hNs, hk1, hk2, hO, hT'⟩
  refine ⟨⟨_, rfl⟩, Lib.hid fun W1 hW1 => ?_⟩
  obtain ⟨r1, r2, r3⟩ := hs.rows hO hT'
  have hbx1 := (hbx.step hO (off_step hT'))
  have hb1 := on_only hg hlow hb0 hO
  have hXW := hX.below hW1
  have hS1 : ∀ i, (i = g ∨ T' i) → i < W1.heap.size := fun i e => by
    have h1 := hXW.low _ hXW.tt
    have h2 := hXW.gb
    rcases e with rfl | e
    · omega
    · exact (hXW.low i e).2
  have hbW := hb1.trans (hW1.mono hb1.size)
  have hql : q.length ≤ 7200 := by
    have h1 := hs.it.len
    have h2 := cnt_len (N.map bn)
    rw [List.length_map] at h2
    omega
  have hkm : k' ≤ ((m + 1) * 68719476736 : Nat) := by
    rw [List.length_map] at hk2
    omega
  refine ⟨⟨hbW, Bc.of (hbx1.below hW1)⟩, ?_⟩
  refine (store.rcut_any A c q a.it.1 W1 _ hS1 (r1.below hW1) (by omega)).mono ?_
  rintro e w2 ⟨A', c', rfl, hq2, hb2⟩
  refine ⟨A', c', (delQ q a.it.1).length, rfl, fun hf => ?_, fun hf W2 hW2 => ?_⟩
  · have hg4 : (gq q a.it.1).isSome = false := by
      by_cases e : (gq q a.it.1).isSome = true
      · rw [if_pos e] at hf; cases hf
      · simpa using e
    have hL : lv (N.map bn) a.it.1 = none := live_none (by rw [← hids]; exact hg4)
    have hNb := hNn hL
    have hpq : delQ q a.it.1 = q := delQ_none (gq_false hg4)
    rw [hpq] at hq2 ⊢
    have ho := (hW1.trans (hb2.mono hW1.size))
    refine ⟨k', T', N', q, l, ⟨hX.below ho, hs.same.trans hNb.symm, by rw [hNb]; exact hs.it, hq2, r2.below ho, fun d hd => (r3 d hd).below ho, hs.small⟩, rfl, rfl, hg, hb1.trans (ho.mono hb1.size), hbx1.below ho, ?_, by omega, hkm⟩
    have := congrArg List.length hNb
    rw [List.length_map, List.length_map] at this
    omega
  · have hg0 : (gq q a.it.1).isSome = true := by
      by_cases e : (gq q a.it.1).isSome = true
      · exact e
      · rw [if_neg e] at hf; cases hf
    have hL : live (N.map bn) a.it.1 = true := by rw [← hids]; exact hg0
    rw [lv_isSome] at hL
    obtain ⟨i, hi⟩ := Option.isSome_iff_exists.1 hL
    have hNb := hNs i hi
    have ho := (hW1.trans (hb2.mono hW1.size))
    have ho2 := ho.trans (hW2.mono ho.size)
    have hbW2 := hb1.trans (ho2.mono hb1.size)
    have hXW2 := hX.below ho2
    have hS2 : ∀ i, (i = g ∨ T' i) → i < W2.heap.size := fun i e => by
      have h1 := hXW2.low _ hXW2.tt
      have h2 := hXW2.gb
      rcases e with rfl | e
      · omega
      · exact (hXW2.low i e).2
    have hll := hs.len
    refine ⟨⟨hbW2, Bc.of (hbx1.below ho2)⟩, ?_⟩
    refine (rbcut_any (l := l) n a.it.1 (r2.below ho2).sl (fun d hd => ((r3 d hd).below ho2).sl) hs.small (by omega)).mono ?_
    rintro e w3 ⟨A3, c3, R, rfl, ho3, hb3, hR, hRt⟩
    have ho4 := ho2.trans (hb3.mono ho2.size)
    have hcr := cutB_rest (n := n) (l := l) (by rw [hs.same]; exact hs.bx.ul) (by rw [hs.same]; exact hi)
    rw [hs.same] at hcr
    refine ⟨A3, c3, R.length, rfl, k', T', N', delQ q a.it.1, R, ⟨hX.below ho4, ?_, ?_, hq2.below (hW2.trans (hb3.mono hW2.size)), ?_, ?_, ?_⟩, rfl, rfl, hg, hbW2.trans (hb3.mono hbW2.size), hbx1.below ho4, ?_, by omega, hkm⟩
    · rw [hNb, hcr, hR]
    · rw [hNb]
      exact hs.it.cut hs.bx.ul hi
    · exact Away.made (k := 7) (by decide) ho3 hS2
    · intro d hdm
      obtain ⟨d', hd', e⟩ := hRt d hdm
      rw [e]
      exact (r3 d' hd').below ho4
    · intro d hdm
      obtain ⟨d', hd', e⟩ := hRt d hdm
      rw [e]
      exact hs.small d' hd'
    · have h1 := congrArg List.length hNb
      rw [hcr, List.length_map] at h1
      have h2 : (rest n ((l.map (mkN a.it.1)).map bn)).length ≤ l.length := by
        unfold rest
        split
        · rw [puts_len]
          have := lvs_len ((l.map (mkN a.it.1)).map bn)
          rw [List.length_map, List.length_map] at this
          simpa using this
        · simp
      omega
set_option maxHeartbeats 1600000 in
theorem Lw.bulk (h : Lw w0 W g tb base n m b (acE a) A lq A2 ll) (hd : Dd w0 a) (hm : m < 120) (c : Nat) : ∃ f : Int, (f = 0 ∨ (f = 4 ∧ 0 < a.l.length)) ∧
    Calls Try.prog 14 #[.pointer (some ⟨tb, 0, none⟩), .slice a.A a.l.length a.c, .pointer none] W fun e w1 => (∃ z, e = .returned (.int .i64 z)) ∧
      Hid (∀ W1, Below w1.heap.size w1 W1 → Mem w0 W1 b (acE a) ∧ Calls Try.prog 15 #[.slice A lq c, .slice a.A a.l.length a.c] W1 fun e w2 => ∃ A' c' lq', e = .returned (.tuple #[.slice A' lq' c', .int .i64 f]) ∧
        (f = 4 → Lw w0 w2 g tb base n (m + 1) b (acE a) A' lq' A2 ll) ∧ (f = 0 → Lb w0 w2 g tb base n m b a 0 A' lq' A2 ll)) := by
  obtain ⟨k, T, N, q, l, hs, rfl, rfl, hg, hb0, hbx, hN, hk0, hk⟩ := h
  have hm60 : N.length ≤ 7200 := by omega
  have hlow : ∀ i, T i → w0.heap.size ≤ i := fun i e => by have := hs.bx.low i e; have := hs.bx.gb; omega
  have hlowS : ∀ i, (i = g ∨ T i) → w0.heap.size ≤ i := fun i e => by
    rcases e with rfl | e
    · exact hg
    · exact hlow i e
  have hfew := hd.few
  have hIt : Its W (fun i => i = g ∨ T i) a.A a.l := ⟨Away.old hd.row hb0 hlowS, fun p hp => Away.old (hd.vecs p hp) hb0 hlowS⟩
  have hql : q.length ≤ 7200 := by
    have h1 := hs.it.len
    have h2 := cnt_len (N.map bn)
    rw [List.length_map] at h2
    omega
  have hB := It.bulk (n := n) (l := a.l) hs.it a.l.length (Nat.le_refl _)
  rw [List.take_length] at hB
  have hids : (idx.ids a.l).length = a.l.length := idx.ids_length _
  refine ⟨berr q a.l, ?_, ?_⟩
  · rcases hB with ⟨r, h1, -⟩ | ⟨h1, j, h2, -⟩
    · left; unfold berr; rw [h1]
    · right; unfold berr; rw [h1]; exact ⟨rfl, by omega⟩
  refine (bulk_any (c := a.c) (a := none) hs.bx hIt hd.bfs hd.wfs (by omega) ⟨hk0, by omega⟩).mono ?_
  rintro e w1 ⟨rfl, k', T', N', hX, hk1, hk2, hNb, hO, hT'⟩
  refine ⟨⟨_, rfl⟩, Lib.hid fun W1 hW1 => ?_⟩
  obtain ⟨r1, r2, r3⟩ := hs.rows hO hT'
  have hbx1 := (hbx.step hO (off_step hT'))
  have hb1 := on_only hg hlow hb0 hO
  have hXW := hX.below hW1
  have hS1 : ∀ i, (i = g ∨ T' i) → i < W1.heap.size := fun i e => by
    have h1 := hXW.low _ hXW.tt
    have h2 := hXW.gb
    rcases e with rfl | e
    · omega
    · exact (hXW.low i e).2
  have hbW := hb1.trans (hW1.mono hb1.size)
  refine ⟨⟨hbW, Bc.of (hbx1.below hW1)⟩, ?_⟩
  have hkm : k' ≤ ((m + 1) * 68719476736 : Nat) := by omega
  refine (store.rbulk_any (c := c) (c' := a.c) hS1 (r1.below hW1) hs.it.rise ((hd.row.below hbW).more hbW.size) (by omega)).mono ?_
  rintro e w2 ⟨A', c', rfl, hq2, hb2⟩
  have ho := (hW1.trans (hb2.mono hW1.size))
  have hNl := congrArg List.length hNb
  rw [List.length_map] at hNl
  refine ⟨A', c', (bres q a.l).length, rfl, fun hf => ?_, fun hf => ?_⟩
  · rcases hB with ⟨r, h1, -⟩ | ⟨h1, j, h2, h3⟩
    · unfold berr at hf; rw [h1] at hf; cases hf
    have hfe : idx.fe (live (N.map bn)) (idx.ids a.l) ≠ 0 := fun e => by
      have := fe_zero e j (by omega)
      rw [this] at h3
      cases h3
    rw [if_neg hfe] at hNb hNl
    have hpq : bres q a.l = q := by unfold bres; rw [h1]
    rw [hpq] at hq2 ⊢
    rw [List.length_map] at hNl
    exact ⟨k', T', N', q, l, ⟨hX.below ho, hs.same.trans hNb.symm, by rw [hNb]; exact hs.it, hq2, r2.below ho, fun d hd => (r3 d hd).below ho, hs.small⟩, rfl, rfl, hg, hb1.trans (ho.mono hb1.size), hbx1.below ho, by omega, by omega, hkm⟩
  · rcases hB with ⟨r, h1, hIr, h3⟩ | ⟨h1, -⟩
    rotate_left
    · unfold berr at hf; rw [h1] at hf; cases hf
    have hfe : idx.fe (live (N.map bn)) (idx.ids a.l) = 0 := (idx.fr_none fun j hj => h3 j (by omega)).2
    rw [if_pos hfe] at hNb hNl
    have hpq : bres q a.l = r := by unfold bres; rw [h1]
    rw [hpq] at hq2 ⊢
    rw [puts_len, List.length_map, store.rM_length] at hNl
    exact ⟨k', T', N', r, l, N.map bn, hX.below ho, hNb, hs.bx.tree, by rw [hNb]; exact hIr, hq2, by rw [hs.same]; simp [rM, puts], r2.below ho, fun d hd => (r3 d hd).below ho, hs.small, rfl, rfl, hg, hb1.trans (ho.mono hb1.size), hbx1.below ho, by omega, by omega, hkm⟩
theorem Lb.mem (h : Lb w0 W g tb base n m b a i A lq A2 ll) : Mem w0 W b (acE a) := by
  obtain ⟨k, T, N, q, l, L, h1, h2, h3, h4, h5, h6, h7, h8, h9, h10, h11, h12, h13, h14, h15⟩ := h
  exact ⟨h13, Bc.of h14⟩
theorem Lb.done (h : Lb w0 W g tb base n m b a a.l.length A lq A2 ll) : Lw w0 W g tb base n (m + 1) b (acE a) A lq A2 ll := by
  obtain ⟨k, T, N, q, l, L, h1, h2, h3, h4, h5, h6, h7, h8, h9, h10, h11, h12, h13, h14, h15, h16, h17⟩ := h
  rw [List.take_length] at h6
  exact ⟨k, T, N, q, l, ⟨h1, h6.trans h2.symm, h4, h5, h7, h8, h9⟩, h10, h11, h12, h13, h14, h15, h16, h17⟩
set_option maxHeartbeats 1600000 in
theorem Lb.put (h : Lb w0 W g tb base n m b a i A lq A2 ll) (hd : Dd w0 a) (hm : m < 120) (hi : i < a.l.length) (c2 : Nat) (o : Below W.heap.size W W') :
    Calls Try.prog 10 #[.int .i64 n, .slice A2 ll c2, .agg #[.int .u64 a.l[i].1, .int .i64 a.l[i].2.x.tag, .slice a.l[i].2.A a.l[i].2.x.vec.length a.l[i].2.c, .string a.l[i].2.x.str]] W' fun e w3 => ∃ A2' c2' ll', e = .returned (.slice A2' ll' c2') ∧ Below W'.heap.size W' w3 ∧ Lb w0 w3 g tb base n m b a (i + 1) A lq A2' ll' := by
  obtain ⟨k, T, N, q, l, L, hX, hNb, hL, hI, hq, hl, hr, hv, hsm, rfl, rfl, hg, hb0, hbx, hN, hk0, hk⟩ := h
  have hfew := hd.few
  have hXW := hX.below o
  have hS1 : ∀ i, (i = g ∨ T i) → i < W'.heap.size := fun i e => by
    have h1 := hXW.low _ hXW.tt
    have h2 := hXW.gb
    rcases e with rfl | e
    · omega
    · exact (hXW.low i e).2
  have hlowS : ∀ i, (i = g ∨ T i) → w0.heap.size ≤ i := fun i e => by
    rcases e with rfl | e
    · exact hg
    · have := hX.low i e; have := hX.gb; omega
  have hb1 := hb0.trans (o.mono hb0.size)
  have hmem : a.l[i] ∈ a.l := List.getElem_mem hi
  have hxa : Away W' (fun i => i = g ∨ T i) a.l[i].2.A (iv a.l[i].2.x.vec) := Away.old (hd.vecs _ hmem) hb1 hlowS
  have hbq := hd.bfs _ hmem
  have htk : rM (a.l.take (i + 1)) = rM (a.l.take i) ++ [(a.l[i].1, a.l[i].2.x)] := by unfold rM; rw [List.take_succ_eq_append_getElem hi, List.map_append]; rfl
  have hll : l.length ≤ 7300 := by
    have h1 := congrArg List.length hl
    have h2 := congrArg List.length hNb
    rw [List.length_map, puts_len, store.rM_length, List.length_take] at h1
    rw [List.length_map, puts_len, store.rM_length] at h2
    omega
  generalize a.l[i] = p at hmem hxa hbq htk ⊢
  refine (rput_any (l := l) n p.1 ⟨p.2.A, p.2.c, p.2.x⟩ (by rw [hl]; exact hL.puts _) (hr.below o).sl (fun d hd => ((hv d hd).below o).sl) hsm hbq.small hxa.sl (by omega)).mono ?_
  rintro e w3 ⟨A3, c3, rfl, ho3, hb3⟩
  have ho := o.trans (hb3.mono o.size)
  refine ⟨A3, c3, l.length + 1, rfl, hb3, k, T, N, q, l ++ [nodeQ n l p.1 ⟨p.2.A, p.2.c, p.2.x⟩], L, hX.below ho, hNb, hL, hI, hq.below ho, ?_, Away.made (k := 7) (by decide) ho3 hS1, ?_, ?_, rfl, by simp, hg, hb0.trans (ho.mono hb0.size), hbx.below ho, hN, hk0, hk⟩
  · rw [htk, puts_snoc, List.map_append, List.map_singleton, bn_nodeQ, hl]
  · intro d hdm
    rcases List.mem_append.1 hdm with hdm | hdm
    · exact (hv d hdm).below ho
    · obtain rfl := List.mem_singleton.1 hdm
      exact hxa.below hb3
  · intro d hdm
    rcases List.mem_append.1 hdm with hdm | hdm
    · exact hsm d hdm
    · obtain rfl := List.mem_singleton.1 hdm
      exact hbq.small
end
end Go.Proofs.Ytaamlidflfdjkaa.bk
