/-
  Several texts in one.
-/
import Derived.Test.YtaamlidflfdjkaaRows
import Derived.WalkKit
import Derived.WalkLawsBesides
import Derived.ProofKit
import Derived.OpenShut
import Derived.ShutString
import Derived.ChangeOld
import Derived.Below
import Derived.Carry
import Derived.SizedLaws
import Derived.Deep.QuietTactic
import Derived.BigQuiet
import Derived.JoinedCond
import Derived.Laws.OwnMore
import Derived.Maps.AppendAt
import Derived.Deep.Draws
import Derived.ChangeSlices
import Derived.OwnWalk
import Derived.RegionTactic
import Derived.Laws.IdiomCopy
import Derived.Deep.Slices
import Derived.Deep.Fields
import Derived.Lib.OwnBridge
import Derived.Shelf.SlSortCmp.InsertionK
import Derived.Laws.CopyRow
import Derived.Laws.CopyOwn
import Derived.Laws.MakeOwn
/-
  Program-free: a law's row out of a walk that says true and changes nothing below the old heap, whatever the types of the parameters.
-/
namespace Go.Proofs.Ytaamlidflfdjkaa.law
open Go.ChangeShapes Go.WideShapes Go.ChangeAt Go.RowKit

theorem ret_int {k : IntKind} {a b : Int} (h : a = b) : Ending.returned (.int k a) = .returned (.int k b) := by rw [h]
theorem ret_bool {a b : Bool} (h : a = b) : Ending.returned (.bool a) = .returned (.bool b) := by rw [h]
theorem ret_two {k k' : IntKind} {a b c d : Int} (h1 : a = c) (h2 : b = d) : Ending.returned (.tuple #[.int k a, .int k' b]) = .returned (.tuple #[.int k c, .int k' d]) := by rw [h1, h2]

theorem trodAll_below {H : Type} {enc : TypeId × Value → H} {P : Program} (hl : laidOutB P = true) {W W' : World} (hb : Below W.heap.size W W') :
    ∀ {ts : List TypeId} {vs : List Value} {ds : List (DataW H)} {ps : List MemPlace}, (ts.all fun t => P.readableRec t && decide (t < P.types.size)) = true →
      DataW.TrodAll enc P W 0 (fun _ => true) true ts vs ds ps → (∀ x ∈ ps, x.block < W.heap.size) → DataW.TrodAll enc P W' 0 (fun b => decide (b < W.heap.size)) true ts vs ds ps
  | [], [], [], _, _, h, _ => h
  | _ :: _, _ :: _, _ :: _, _, ht, ⟨p, q, h1, h2, e⟩, hlt => by
    simp only [List.all_cons, Bool.and_eq_true, decide_eq_true_eq] at ht
    exact ⟨p, q, Below.trod hl ht.1.1 ht.1.2 h1 hb (fun x hx => hlt x (by rw [e]; exact List.mem_append_left _ hx)), trodAll_below hl hb ht.2 h2 (fun x hx => hlt x (by rw [e]; exact List.mem_append_right _ hx)), e⟩

theorem trodAll_length {H : Type} {enc : TypeId × Value → H} {P : Program} {W : World} {b : Nat} {sp : Nat → Bool} {hd : Bool} :
    ∀ {ts : List TypeId} {vs : List Value} {ds : List (DataW H)} {ps : List MemPlace}, DataW.TrodAll enc P W b sp hd ts vs ds ps → ds.length = ts.length
  | [], [], [], _, _ => rfl
  | _ :: _, _ :: _, _ :: _, _, ⟨_, _, _, h2, _⟩ => by simp [trodAll_length h2]

theorem lift {C : Checked} {os : Os} {f : FuncId} {fn : Func} {s : ChangeSpec} {conds : List PathCond} {tb : TypeId} {H : Type} {enc : TypeId × Value → H}
    (own : ownKnob C.prog.godebug = none) (started : os.Started) (noInit : C.prog.inits.idxOf? f = none) (hfn : C.prog.funcs[f]? = some fn)
    (hvars : s.vars = []) (hl : laidOutB C.prog = true) (hread : (fn.params.toList.all fun t => C.prog.readableRec t && decide (t < C.prog.types.size)) = true)
    (hres : fn.resultTypes = #[tb]) (hbool : C.prog.underlying tb = some .bool)
    (hsp : ∀ ds : List (DataW H), ds.length = fn.params.toList.length → (s.fn H ds).results = [.lit (.bool true)] ∧ (s.fn H ds).args = ds ∧ (s.fn H ds).vars = [])
    (witness : ∃ (w : World) (tape : Tape) (i : Input), w.os = os ∧ (w.forCall tape i).Shaped C.prog ∧ i.vars = [] ∧ Input.okWide C.prog (w.forCall tape i) .any w.heap.size f i ∧
      s.pre6 enc C.prog fn conds false (w.forCall tape i).memory i.args ∧ ({} : Assume).holds C.prog (lone (Frame.enter C.prog f i.args .normal) [] (w.forCall tape i)))
    (walk : ∀ (W : World) (base : Nat) (args : Array Value) (ds : List (DataW H)) (before : List MemPlace),
      (∀ (j : Nat) t v, fn.params[j]? = some t → args[j]? = some v → Value.okWide C.prog W .any base t v) →
      DataW.TrodAll enc C.prog W 0 (fun _ => true) true fn.params.toList args.toList ds before → W.noneFrozen before →
      (DataW.weightsEach C.prog fn.params.toList ds).all (· ≤ reachBytes) = true →
      Calls C.prog f args W fun e W' => e = .returned (.bool true) ∧ Below W.heap.size W W') :
    ReturnsInHanded {} C os f .any (s.pre6 enc C.prog fn conds false) (s.post enc C.prog fn false true false false) := by
  refine returnsInHanded_of_change_sized (C := C) own started noInit hfn witness ?_
  intro W base args ds gs before hval hW _ hsz _
  have hW' := hW
  obtain ⟨p, q, hA, hV, rfl, hfz, _⟩ := hW
  rw [hvars] at hV
  obtain ⟨rfl, rfl⟩ := trodVars_none hV
  have hlt := hW'.lt
  simp only [List.append_nil] at hfz hsz hlt hW'
  have hvt : s.plain.varTypes C.prog = [] := by
    have hv2 : s.plain.vars = [] := hvars
    unfold DataSpec.varTypes; rw [hv2]; rfl
  rw [hvt, List.append_nil] at hsz
  obtain ⟨h1, h2, h3⟩ := hsp ds (trodAll_length hA)
  refine (walk W base args ds p hval hA hfz hsz).mono fun e W' ⟨he, hb⟩ => ?_
  subst he
  refine ⟨_, rfl, ds, [], p, [], p, [], hW', ?_, ?_, ?_, hb.frame _, fun h => by cases h⟩
  · rw [List.append_nil, h1, hres]
    exact trodAll_mk1 (shut_bool hbool _)
  · rw [List.append_nil, h2]
    exact trodAll_below hl hb hread hA hlt
  · rw [List.append_nil, h3, hvars]
    rfl
end Go.Proofs.Ytaamlidflfdjkaa.law
/-
  Program-free: calls that leave the world alone, met inside regions that draw their order, whatever has been drawn before; frames behind draws.
-/
namespace Go.Proofs.Ytaamlidflfdjkaa.law
open Go.RowKit
section
variable {P : Program} {f : FuncId} {args : Array Value} {w : World} {a n : Nat} {v : Value}
theorem quietA (h : Calls P f args (w.drewN (a + n)) fun e w' => e = .returned v ∧ w.drewN (a + n) = w') :
    Calls P f args (w.drewN (a + n)) fun e w'' => e = .returned v ∧ ∃ m, w'' = w.drewN (a + m) :=
  h.mono fun _ _ ⟨he, hm⟩ => ⟨he, n, hm.symm⟩
theorem quiet0 (h : Calls P f args (w.drewN n) fun e w' => e = .returned v ∧ w.drewN n = w') :
    Calls P f args (w.drewN n) fun e w'' => e = .returned v ∧ ∃ m, w'' = w.drewN m :=
  h.mono fun _ _ ⟨he, hm⟩ => ⟨he, n, hm.symm⟩
theorem quietB (h : Calls P f args (w.drewN (a + n)) fun e w' => e = .returned v ∧ ∃ m, w' = (w.drewN (a + n)).drewN m) :
    Calls P f args (w.drewN (a + n)) fun e w'' => e = .returned v ∧ ∃ m, w'' = w.drewN (a + m) :=
  h.mono fun _ _ ⟨he, m, hm⟩ => ⟨he, n + m, by rw [hm, World.drewN_drewN, Nat.add_assoc]⟩
end
theorem below_drewN {B : Nat} {a w : World} (h : Below B a w) (n : Nat) : Below B a (w.drewN n) := ⟨h.os, h.tape, h.output, h.size, h.block⟩
end Go.Proofs.Ytaamlidflfdjkaa.law
/-
  Program-free: a law's second row (what is read is of small bulk) out of a walk that says true and changes nothing below the old heap; what the bulk gives.
-/
namespace Go.Proofs.Ytaamlidflfdjkaa.law
open Go.ChangeShapes Go.WideShapes Go.ChangeAt Go.RowKit

theorem lift_upto {C : Checked} {os : Os} {f : FuncId} {fn : Func} {s : ChangeSpec} {conds : List PathCond} {tb : TypeId} {H : Type} {enc : TypeId × Value → H} {F : Stop.Interp}
    (own : ownKnob C.prog.godebug = none) (started : os.Started) (noInit : C.prog.inits.idxOf? f = none) (hfn : C.prog.funcs[f]? = some fn)
    (hvars : s.vars = []) (hl : laidOutB C.prog = true) (hread : (fn.params.toList.all fun t => C.prog.readableRec t && decide (t < C.prog.types.size)) = true)
    (hres : fn.resultTypes = #[tb]) (hbool : C.prog.underlying tb = some .bool)
    (hsp : ∀ ds : List (DataW H), ds.length = fn.params.toList.length → (s.fn H ds).results = [.lit (.bool true)] ∧ (s.fn H ds).args = ds ∧ (s.fn H ds).vars = [])
    (witness : ∃ (w : World) (tape : Tape) (i : Input), w.os = os ∧ (w.forCall tape i).Shaped C.prog ∧ i.vars = [] ∧ Input.okWide C.prog (w.forCall tape i) .any w.heap.size f i ∧
      (Rows.OpenSpec.upto s).pre6 enc C.prog fn conds false (w.forCall tape i).memory i.args ∧ ({} : Assume).holds C.prog (lone (Frame.enter C.prog f i.args .normal) [] (w.forCall tape i)))
    (walk : ∀ (W : World) (base : Nat) (args : Array Value) (ds : List (DataW H)) (before : List MemPlace),
      (∀ (j : Nat) t v, fn.params[j]? = some t → args[j]? = some v → Value.okWide C.prog W .any base t v) →
      DataW.TrodAll enc C.prog W 0 (fun _ => true) true fn.params.toList args.toList ds before → W.noneFrozen before →
      Rows.uptoBulkAll ds ≤ 1048576 →
      Calls C.prog f args W fun e W' => e = .returned (.bool true) ∧ Below W.heap.size W W') :
    ReturnsInHanded {} C os f .any ((Rows.OpenSpec.upto s).pre6 enc C.prog fn conds false) (((Rows.OpenSpec.upto s).at F).post enc C.prog fn false true false false) := by
  refine returnsInHanded_of_cond (C := C) (s := Rows.OpenSpec.upto s) (k := Rows.uptoSmall) rfl own started noInit hfn witness ?_
  intro W base args ds gs before hval hW _ hk _
  have hW' : DataW.Whole enc C.prog fn.params.toList s.vars false W args.toList ds gs before := hW
  obtain ⟨p, q, hA, hV, rfl, hfz, _⟩ := hW
  have hV' : DataW.TrodVars enc C.prog W (fun _ => true) s.vars gs q := hV
  rw [hvars] at hV'
  obtain ⟨rfl, rfl⟩ := trodVars_none hV'
  have hlt := hW'.lt
  simp only [List.append_nil] at hfz hlt hW' hk
  obtain ⟨h1, h2, h3⟩ := hsp ds (trodAll_length hA)
  refine (walk W base args ds p hval hA hfz (of_decide_eq_true hk)).mono fun e W' ⟨he, hb⟩ => ?_
  subst he
  have key : s.post enc C.prog fn false true false false W args (.bool true) W' := by
    refine ⟨ds, [], p, [], p, [], hW', ?_, ?_, ?_, hb.frame _, fun h => by cases h⟩
    · rw [List.append_nil, h1, hres]
      exact trodAll_mk1 (shut_bool hbool _)
    · rw [List.append_nil, h2]
      exact trodAll_below hl hb hread hA hlt
    · rw [List.append_nil, h3, hvars]
      rfl
  exact ⟨_, rfl, key⟩

/-! ### what the bulk gives -/
theorem bulk_one {H : Type} (d : DataW H) : 1 ≤ Rows.uptoBulk d := by
  cases d with
  | lit l => cases l <;> simp [Rows.uptoBulk]
  | _ => simp [Rows.uptoBulk]
theorem bulk_length {H : Type} (l : List (DataW H)) : l.length ≤ Rows.uptoBulkAll l := by
  induction l with
  | nil => simp [Rows.uptoBulkAll]
  | cons x r ih => have := bulk_one x; simp only [Rows.uptoBulkAll, List.length_cons]; omega
theorem bulk_slice {H : Type} (elems spare : List (DataW H)) : elems.length + spare.length + 1 ≤ Rows.uptoBulk (.slice elems spare) := by
  have h1 := bulk_length elems
  have h2 := bulk_length spare
  simp only [Rows.uptoBulk]
  omega
theorem bytes_bulk {H : Type} {A : Option Addr} {c : Nat} {l : List UInt8} {d : DataW H} (hd : (A = none ∧ c = 0 ∧ l = [] ∧ d = .nil) ∨ ∃ el sp, d = .slice el sp ∧ el.length + sp.length = c) : c ≤ Rows.uptoBulk d := by
  rcases hd with ⟨_, rfl, _⟩ | ⟨el, sp, rfl, rfl⟩
  · omega
  · have := bulk_slice el sp
    omega
end Go.Proofs.Ytaamlidflfdjkaa.law
/-
  Program-free: slices of one-cell elements as lists: what a slice reads as, kept over draws, new blocks and stores elsewhere; bytes; a slice of bytes that came in; appends onto a row of the call's own.
-/
namespace Go.Proofs.Ytaamlidflfdjkaa.bytes
open Go.ChangeShapes Go.WideShapes Go.ChangeAt Go.RowKit

/-! ### What a slice reads as -/
def Sl (w : World) (B : Nat) (A : Option Addr) (xs : List Value) : Prop :=
  ∀ j u, xs[j]? = some u → ∃ ad, A = some ad ∧ ad.block < B ∧ w.cell? (ad.add j) = some u

theorem blk_add (a : Addr) (n : Nat) : (a.add n).block = a.block := by unfold Addr.add; split <;> rfl
theorem add_two (a : Addr) (i j : Nat) : (a.add i).add j = a.add (i + j) := by
  unfold Addr.add
  by_cases hi : i = 0 <;> by_cases hj : j = 0 <;> simp [hi, hj, Nat.add_assoc]

section
variable {w w' : World} {B B' : Nat} {A : Option Addr} {xs : List Value}
theorem Sl.nil : Sl w B A [] := fun j u h => by simp at h
theorem Sl.keep (h : Sl w B A xs) (hk : ∀ p : Addr, p.block < B → w'.cell? p = w.cell? p) : Sl w' B A xs := fun j u hj => by
  obtain ⟨ad, e, hb, hc⟩ := h j u hj
  exact ⟨ad, e, hb, (hk _ (by rw [blk_add]; exact hb)).trans hc⟩
theorem Sl.more (h : Sl w B A xs) (hB : B ≤ B') : Sl w B' A xs := fun j u hj => by
  obtain ⟨ad, e, hb, hc⟩ := h j u hj
  exact ⟨ad, e, by omega, hc⟩
theorem Sl.below (h : Sl w B A xs) (hb : Below B w w') : Sl w' B A xs := h.keep fun _ hp => hb.cell hp
/-- behind a call that left all that there was -/
theorem Sl.on (h : Sl w w.heap.size A xs) (hb : Below w.heap.size w w') : Sl w' w'.heap.size A xs := (h.below hb).more hb.size
theorem Sl.drewN (h : Sl w B A xs) (k : Nat) : Sl (w.drewN k) B A xs := h
theorem Sl.alloc (h : Sl w B A xs) (hB : B ≤ w.heap.size) (o : Obj) : Sl (w.alloc o) B A xs := h.keep fun p hp => World.cell?_alloc_lt w o p (by omega)
theorem Sl.setCell (h : Sl w B A xs) {p : Addr} (hB : B ≤ p.block) (u : Value) : Sl (w.setCell p u) B A xs :=
  h.keep fun q hq => World.cell?_setCell_other w p q u (fun e => by subst e; omega)
theorem Sl.grown (h : Sl w B A xs) {row : Option Nat} (hg : w.grownBy w' row) (hB : B ≤ w.heap.size) (hr : ∀ g, row = some g → B ≤ g) : Sl w' B A xs :=
  h.keep fun p hp => World.cell?_of_block (hg.block p.block (by omega) (fun e => by have := hr _ e.symm; omega))
theorem Sl.take (h : Sl w B A xs) (k : Nat) : Sl w B A (xs.take k) := fun j u hj => h j u (by
  rw [List.getElem?_take] at hj
  split at hj
  · exact hj
  · cases hj)
theorem Sl.drop (h : Sl w B A xs) (k : Nat) : Sl w B (A.map (·.add k)) (xs.drop k) := fun j u hj => by
  rw [List.getElem?_drop] at hj
  obtain ⟨ad, rfl, hb, hc⟩ := h _ _ hj
  exact ⟨ad.add k, rfl, by rw [blk_add]; exact hb, by rw [add_two]; exact hc⟩
theorem Sl.of_own {base : Nat} {e : TypeId} {n c : Nat} (h : w.ownsRow base e 1 (.slice A n c) n xs) : Sl w w.heap.size A xs := fun j u hj => by
  rcases h.2 with ⟨h', rfl⟩ | ⟨g, cap, cur, hv, _, hh, _⟩
  · have : xs = [] := List.eq_nil_of_length_eq_zero (by simpa using h.1)
    subst this
    simp at hj
  · injection hv with hA
    subst hA
    exact ⟨_, rfl, (Array.getElem?_eq_some_iff.1 hh).1, h.cells (g := g) rfl j u hj⟩
theorem Sl.at_ {k : Nat} (h : Sl w B A xs) (hk : k < xs.length) : ∃ ad, A = some ad ∧ ad.block < B ∧ w.cell? (ad.add k) = some xs[k] := h k _ (List.getElem?_eq_getElem hk)
/-- a slice with something in it has an address -/
theorem Sl.addr (h : Sl w B A xs) (hk : 0 < xs.length) : ∃ ad, A = some ad ∧ ad.block < B ∧ ∀ j (hj : j < xs.length), w.cell? (ad.add j) = some xs[j] := by
  obtain ⟨ad, rfl, hb, _⟩ := h.at_ hk
  refine ⟨ad, rfl, hb, fun j hj => ?_⟩
  obtain ⟨ad', e, _, hc⟩ := h.at_ hj
  injection e with e
  subst e
  exact hc
end
/-- 'append(s, x)' first lays x in a new block of its own -/
theorem Sl.one (w : World) (x : Value) (t : TypeId) : Sl (w.alloc (.cells #[x] t)) (w.alloc (.cells #[x] t)).heap.size (some ⟨w.heap.size, 0, none⟩) [x] := fun j u hj =>
  ⟨_, rfl, by simp, cell_one_new w x t j u hj⟩
theorem own_slice {w : World} {base : Nat} {e : TypeId} {size n : Nat} {v : Value} {xs : List Value} (h : w.ownsRow base e size v n xs) : ∃ A c, v = .slice A n c ∧ n ≤ c := by
  rcases h.2 with ⟨rfl, rfl⟩ | ⟨g, cap, cur, rfl, _, _, hnc, _⟩
  · exact ⟨_, _, rfl, Nat.le_refl _⟩
  · exact ⟨_, _, rfl, hnc⟩

theorem own_below {w w' : World} {base B : Nat} {e : TypeId} {size n : Nat} {v : Value} {xs : List Value} (h : w.ownsRow base e size v n xs) (hb : Below B w w') (hB : w.heap.size ≤ B) : w'.ownsRow base e size v n xs := by
  refine ⟨h.1, ?_⟩
  rcases h.2 with hn | ⟨g, cap, cur, hv, hg, hh, rest⟩
  · exact .inl hn
  · exact .inr ⟨g, cap, cur, hv, hg, (hb.block g (Nat.lt_of_lt_of_le (Array.getElem?_eq_some_iff.1 hh).1 hB)).trans hh, rest⟩
theorem own_form {w : World} {base : Nat} {e : TypeId} {size n : Nat} {v : Value} {xs : List Value} (h : w.ownsRow base e size v n xs) (hn : 0 < n) : ∃ g c, v = .slice (some ⟨g, 0, none⟩) n c ∧ base ≤ g ∧ g < w.heap.size ∧ n ≤ c := by
  rcases h.2 with ⟨rfl, rfl⟩ | ⟨g, cap, cur, rfl, hb, hh, hnc, _⟩
  · omega
  · exact ⟨_, _, rfl, hb, (Array.getElem?_eq_some_iff.1 hh).1, hnc⟩

theorem own_cap {w : World} {base : Nat} {e : TypeId} {size n c : Nat} {A : Option Addr} {xs : List Value} (h : w.ownsRow base e size (.slice A n c) n xs) : n ≤ c := by
  obtain ⟨_, _, hv, hc⟩ := own_slice h
  injection hv with _ _ hv
  omega

/-! ### append onto a row of the call's own, whatever the source's address -/
/-- an element type of one cell -/
def Elem (P : Program) (e : TypeId) (z : Value) (bytes : Nat) : Prop := ∃ i, P.info? e = some i ∧ i.zero = some z ∧ i.size = 1 ∧ i.bytes = bytes ∧ z.cells.size = 1
theorem elem_mk {P : Program} {e : TypeId} {z : Value} {bytes : Nat} (h : (P.info? e).map (fun i => (i.zero, i.size, i.bytes)) = some (some z, 1, bytes)) (hz : z.cells.size = 1) : Elem P e z bytes := by
  obtain ⟨i, hi, h0, h1, h2⟩ := info_parts h
  exact ⟨i, hi, h0, h1, h2, hz⟩
section
variable {P : Program}
theorem run_append_sl (w : World) (base : Nat) (t ty e : TypeId) (z : Value) (bytes : Nat) (ht : P.underlying t = some (.slice e)) (he : Elem P e z bytes)
    (v : Value) (n : Nat) (xs : List Value) (hown : w.ownsRow base e 1 v n xs) (B : Nat) (A : Option Addr) (m c : Nat) (news : List Value) (hr : Sl w B A news) (hl : news.length = m) (h1 : ∀ u ∈ news, u.oneCell' = true)
    (hbytes : (n + m) * bytes ≤ 140737488355328) (h63 : n + m ≤ maxLen) (hbase : base ≤ w.heap.size) :
    ∃ v' w', (Builtin.append_ #[t, t] ty #[v, .slice A m c]).run P w = .ok v' w' ∧ w'.ownsRow base e 1 v' (n + m) (xs ++ news) ∧ w.grownBy w' v.ownBlock ∧ (v'.ownBlock = v.ownBlock ∨ v'.ownBlock = some w.heap.size) := by
  obtain ⟨i, hi, hz, hsize, hby, hzs⟩ := he
  rcases A with _ | ad
  · have h0 : news = [] := by
      rcases news with _ | ⟨u, r⟩
      · rfl
      · obtain ⟨ad, h, _⟩ := hr 0 u rfl
        cases h
    subst h0
    obtain rfl : m = 0 := hl.symm
    refine ⟨v, w, ?_, by simpa using hown, World.grownBy.refl w _, .inl rfl⟩
    obtain ⟨A', c', rfl, hc'⟩ := own_slice hown
    rcases A' with _ | a' <;> simp [Builtin.append_, run_underlying ht, sizeOf, typeInfo, hi, Builtin.lenOf, Builtin.firstCells, hc', storeCells]
  · have hcells : ∀ j u, news[j]? = some u → w.cell? (ad.add j) = some u := fun j u hu => by
      obtain ⟨ad', h, _, hc⟩ := hr j u hu
      injection h with h
      subst h
      exact hc
    obtain ⟨v', w', hrun, h2, h3, _, h5⟩ := run_append_own_at (P := P) w base t ty e i z 1 bytes ht hi hz hsize hby hzs (by decide) v n xs hown ad m c news (by omega) hcells h1 h63 hbytes hbase
    exact ⟨v', w', hrun, h2, h3, h5⟩
theorem wp_append_sl (w : World) {o : Oper} {a : Act} {K : Act → World → Prop} {Q : Exit → Act → World → Prop} (s x : Operand) (t : TypeId)
    (ho : o.op = .call { callee := .builtin .append, args := #[s, x], argTypes := #[t, t] }) (base : Nat) (e : TypeId) (z : Value) (bytes : Nat) (ht : P.underlying t = some (.slice e)) (he : Elem P e z bytes)
    (v : Value) (n : Nat) (xs : List Value) (hs : a.eval s = v) (hown : w.ownsRow base e 1 v n xs) (B : Nat) (A : Option Addr) (m c : Nat) (news : List Value) (hx : a.eval x = .slice A m c) (hr : Sl w B A news) (hl : news.length = m)
    (h1 : ∀ u ∈ news, u.oneCell' = true) (hbytes : (n + m) * bytes ≤ 140737488355328) (h63 : n + m ≤ maxLen) (hbase : base ≤ w.heap.size)
    (h : ∀ v' w', w'.ownsRow base e 1 v' (n + m) (xs ++ news) → w.grownBy w' v.ownBlock → (v'.ownBlock = v.ownBlock ∨ v'.ownBlock = some w.heap.size) → K (a.put o.dst v') w') : o.wp P a w K Q := by
  obtain ⟨v', w', hrun, h2, h3, h4⟩ := run_append_sl (P := P) w base t o.type e z bytes ht he v n xs hown B A m c news hr hl h1 hbytes h63 hbase
  unfold Oper.wp execOp
  simp only [ho, resolve, invoke, builtin, Sem.run_bind, Sem.run_pure, Result.andThen_ok, List.map_toArray, List.map_cons, List.map_nil, hs, hx, hrun]
  exact h v' w' h2 h3 h4
theorem wpList_append_sl (w : World) {ops : Array Oper} {rest : List Oper} {o : Oper} {a : Act} {Q : Exit → Act → World → Prop} (hgd : o.guard = none) (s x : Operand) (t : TypeId)
    (ho : o.op = .call { callee := .builtin .append, args := #[s, x], argTypes := #[t, t] }) (base : Nat) (e : TypeId) (z : Value) (bytes : Nat) (ht : P.underlying t = some (.slice e)) (he : Elem P e z bytes)
    (v : Value) (n : Nat) (xs : List Value) (hs : a.eval s = v) (hown : w.ownsRow base e 1 v n xs) (B : Nat) (A : Option Addr) (m c : Nat) (news : List Value) (hx : a.eval x = .slice A m c) (hr : Sl w B A news) (hl : news.length = m)
    (h1 : ∀ u ∈ news, u.oneCell' = true) (hbytes : (n + m) * bytes ≤ 140737488355328) (h63 : n + m ≤ maxLen) (hbase : base ≤ w.heap.size)
    (h : ∀ v' w', w'.ownsRow base e 1 v' (n + m) (xs ++ news) → w.grownBy w' v.ownBlock → (v'.ownBlock = v.ownBlock ∨ v'.ownBlock = some w.heap.size) → wpList P ops Q rest (a.put o.dst v') w') : wpList P ops Q (o :: rest) a w :=
  wpList_plain hgd fun _ hK => wp_append_sl w s x t ho base e z bytes ht he v n xs hs hown B A m c news hx hr hl h1 hbytes h63 hbase fun v' w' h2 h3 h4 => hK _ _ (h v' w' h2 h3 h4)
end
/-- new memory that reads as a list; all that there was is as it was -/
def Made (e : TypeId) (xs : List Value) (w : World) (e' : Ending) (w' : World) : Prop :=
  ∃ A c, e' = .returned (.slice A xs.length c) ∧ w'.ownsRow w.heap.size e 1 (.slice A xs.length c) xs.length xs ∧ Below w.heap.size w w'

theorem Made.mk {e : TypeId} {xs ys : List Value} {w w' : World} {v : Value} {n : Nat} (h : w'.ownsRow w.heap.size e 1 v n ys) (he : ys = xs) (hb : Below w.heap.size w w') : Made e xs w (.returned v) w' := by
  subst he
  obtain ⟨A, c, rfl, hc⟩ := own_slice h
  have hn : n = ys.length := by have := h.1; omega
  subst hn
  exact ⟨A, c, rfl, h, hb⟩
/-- behind an append of the call's own row, ahead of which one block was made -/
theorem below_append {w wr w2 : World} {B : Nat} {v : Value} {base : Nat} {e : TypeId} {n : Nat} {xs : List Value} (hb : Below B w wr) (hB : B ≤ wr.heap.size) (o : Obj) (hown : wr.ownsRow base e 1 v n xs) (hB2 : B ≤ base)
    (hg : (wr.alloc o).grownBy w2 v.ownBlock) : Below B w w2 :=
  (hb.alloc hB o).grown hg (by simp; omega) (fun k hk => Nat.le_trans hB2 (hown.lt k hk).1)

/-! ### Bytes -/
def bv (l : List UInt8) : List Value := l.map fun c => .int .u8 (c.toNat : Int)
theorem bv_length (l : List UInt8) : (bv l).length = l.length := by simp [bv]
theorem bv_append (l m : List UInt8) : bv (l ++ m) = bv l ++ bv m := by simp [bv]
theorem bv_take (l : List UInt8) (k : Nat) : bv (l.take k) = (bv l).take k := by simp [bv]
theorem bv_drop (l : List UInt8) (k : Nat) : bv (l.drop k) = (bv l).drop k := by simp [bv]
theorem bv_one (l : List UInt8) : ∀ u ∈ bv l, u.oneCell' = true := by
  intro u hu
  simp only [bv, List.mem_map] at hu
  obtain ⟨c, _, rfl⟩ := hu
  rfl
theorem bv_set (l : List UInt8) (k : Nat) (c : UInt8) : (bv l).set k (.int .u8 (c.toNat : Int)) = bv (l.set k c) := by simp [bv, List.map_set]
section
variable {w w' : World} {B : Nat} {A : Option Addr} {l : List UInt8}
theorem Sl.byte {k : Nat} (h : Sl w B A (bv l)) (hk : k < l.length) : ∃ ad, A = some ad ∧ ad.block < B ∧ w.cell? (ad.add k) = some (.int .u8 (l[k].toNat : Int)) := by
  have := h.at_ (k := k) (by rw [bv_length]; exact hk)
  simpa [bv] using this
end

/-! ### A slice of bytes that came in -/
section
variable {H : Type} {enc : TypeId × Value → H} {P : Program} {W : World}
theorem open_bytes {r : Reach} {b0 : Nat} {t e : TypeId} {v : Value} {d : DataW H} {p : List MemPlace} (ht : P.underlying t = some (.slice e)) (he : P.underlying e = some (.int .u8)) (hc : P.cellsOf e = 1)
    (hv : Value.okWide P W r b0 t v) (h : DataW.Trod enc P W 0 (fun _ => true) true t v d p) :
    ∃ A c l, v = .slice A l.length c ∧ l.length ≤ c ∧ Sl W W.heap.size A (bv l) ∧ ((A = none ∧ c = 0 ∧ l = [] ∧ d = .nil) ∨ ∃ el sp, d = .slice el sp ∧ el.length + sp.length = c) := by
  obtain ⟨A, len, cap, rfl⟩ := okWide_slice ht hv
  obtain ⟨fuel, hf⟩ := h
  rcases open_ints ht he hc hf with ⟨hcs, hx⟩ | ⟨a, len', cap', zs, hcs, _, hl, hm, hz, hx, hcell, hwz⟩
  · simp [Value.cells] at hcs
    obtain ⟨rfl, rfl, rfl⟩ := hcs
    injection hx with hd hp
    exact ⟨none, 0, [], rfl, by simp, Sl.nil, .inl ⟨rfl, rfl, rfl, hd⟩⟩
  · simp [Value.cells] at hcs
    obtain ⟨rfl, rfl, rfl⟩ := hcs
    injection hx with hd hp
    simp only [if_true] at hz
    refine ⟨some a, cap, (zs.take len).map fun n => UInt8.ofNat n.toNat, by simp; omega, by simp; omega, fun j u hj => ?_, .inr ⟨_, _, hd, by simp [lits]; omega⟩⟩
    simp only [bv, List.map_map, List.getElem?_map, List.getElem?_take] at hj
    split at hj
    · rename_i hlt
      have hlz : j < zs.length := by omega
      have hw := hwz zs[j] (List.getElem_mem hlz)
      have hb : 0 ≤ zs[j] ∧ zs[j] ≤ 255 := by simpa [Lit.wf, IntKind.min, IntKind.max, IntKind.signed, IntKind.bits] using hw
      have hcj := hcell j hlz
      simp only [List.getElem?_eq_getElem hlz, Option.map_some, Option.some.injEq, Function.comp] at hj
      subst hj
      have e1 : ((UInt8.ofNat (zs[j]).toNat).toNat : Int) = zs[j] := by rw [UInt8.toNat_ofNat']; omega
      rw [e1]
      refine ⟨a, rfl, ?_, by rw [hcj]; simp [List.getD, List.getElem?_eq_getElem hlz]⟩
      have := World.block_lt_of_cell? W _ hcj
      rwa [blk_add] at this
    · cases hj
end
/-! ### What arguments' bounds give -/
theorem open_u64 {n : Int} (h : (Lit.int .u64 n).wf = true) : ∃ k : Nat, n = (k : Int) ∧ k < 18446744073709551616 := by
  have hb : 0 ≤ n ∧ n ≤ 18446744073709551615 := by simpa [Lit.wf, IntKind.min, IntKind.max, IntKind.signed, IntKind.bits] using h
  exact ⟨n.toNat, by omega, by omega⟩
theorem open_u8 {n : Int} (h : (Lit.int .u8 n).wf = true) : ∃ c : UInt8, n = (c.toNat : Int) := by
  have hb : 0 ≤ n ∧ n ≤ 255 := by simpa [Lit.wf, IntKind.min, IntKind.max, IntKind.signed, IntKind.bits] using h
  exact ⟨UInt8.ofNat n.toNat, by rw [UInt8.toNat_ofNat']; omega⟩
theorem bytes_reach {H : Type} {P : Program} {t e : TypeId} {ts : List TypeId} {ds : List (DataW H)} {A : Option Addr} {c : Nat} {l : List UInt8} {d : DataW H} {j : Nat} (hb : P.bytesOf e = 1) (ht : P.underlying t = some (.slice e))
    (h : (DataW.weightsEach P ts ds).all (· ≤ reachBytes) = true) (hj : ts[j]? = some t) (hdj : ds[j]? = some d)
    (hd : (A = none ∧ c = 0 ∧ l = [] ∧ d = .nil) ∨ ∃ el sp, d = .slice el sp ∧ el.length + sp.length = c) : c ≤ 140737488351232 := by
  rcases hd with ⟨_, rfl, _⟩ | ⟨el, sp, rfl, rfl⟩
  · omega
  · have := sized_slice h hj hdj ht
    rw [hb] at this
    have hr : reachBytes = 140737488351232 := by decide
    omega
end Go.Proofs.Ytaamlidflfdjkaa.bytes
/-
  Program-free: a block whose cells are known, kept by whatever leaves it alone; worlds of which one block alone, and what is new, has turned.
-/
namespace Go.Proofs.Ytaamlidflfdjkaa.bytes
open Go.RowKit

/-- block g holds just these cells, none frozen -/
def Blk (w : World) (g : Nat) (t : TypeId) (cs : Array Value) : Prop := w.heap[g]? = some (.cells cs t (0, 0))
section
variable {w w' : World} {g : Nat} {t : TypeId} {cs : Array Value}
theorem Blk.keep (h : Blk w g t cs) (e : w'.heap[g]? = w.heap[g]?) : Blk w' g t cs := Eq.trans e h
theorem Blk.lt (h : Blk w g t cs) : g < w.heap.size := (Array.getElem?_eq_some_iff.1 h).1
theorem Blk.cell (h : Blk w g t cs) (i : Nat) : w.cell? ⟨g, i, none⟩ = cs[i]? := cell_of_row w g i cs t (0, 0) h
theorem Blk.frozen (h : Blk w g t cs) (i : Nat) : w.frozen? ⟨g, i, none⟩ = false := by
  have e : w.heap[g]? = some (.cells cs t (0, 0)) := h
  simp [World.frozen?, e]
theorem Blk.new (w : World) (t : TypeId) (cs : Array Value) : Blk (w.alloc (.cells cs t)) w.heap.size t cs := heap_alloc_new w _
theorem Blk.drewN (h : Blk w g t cs) (n : Nat) : Blk (w.drewN n) g t cs := Blk.keep h rfl
theorem Blk.alloc (h : Blk w g t cs) (o : Obj) : Blk (w.alloc o) g t cs := h.keep (Below.heap_alloc w o g h.lt)
theorem Blk.far (h : Blk w g t cs) {p : Addr} (hp : g ≠ p.block) (u : Value) : Blk (w.setCell p u) g t cs := h.keep (Below.heap_setCell w p u g hp)
theorem Blk.below {B : Nat} (h : Blk w g t cs) (hb : Below B w w') (hg : g < B) : Blk w' g t cs := h.keep (hb.block g hg)
theorem Blk.grown {row : Option Nat} (h : Blk w g t cs) (hb : w.grownBy w' row) (hg : some g ≠ row) : Blk w' g t cs := h.keep (hb.block g h.lt hg)
theorem Blk.set_ (h : Blk w g t cs) (i : Nat) (u : Value) : Blk (w.setCell ⟨g, i, none⟩ u) g t (cs.setIfInBounds i u) := by
  have e : w.heap[g]? = some (.cells cs t (0, 0)) := h
  show (w.setCell ⟨g, i, none⟩ u).heap[g]? = _
  simp [World.setCell, Array.getElem?_modify, e]
end
/-! ### one block alone has turned -/
theorem only_refl (w : World) (row : Option Nat) : w.grownBy w row := World.grownBy.refl w row
theorem only_step {a b c : World} {row : Option Nat} (h : a.grownBy b row) (ho : c.os = b.os) (ht : c.tape = b.tape) (hu : c.output = b.output) (hs : b.heap.size ≤ c.heap.size)
    (hk : ∀ i, i < a.heap.size → some i ≠ row → c.heap[i]? = b.heap[i]?) : a.grownBy c row :=
  ⟨ho.trans h.os, ht.trans h.tape, hu.trans h.output, Nat.le_trans h.size hs, fun i hi hne => (hk i hi hne).trans (h.block i hi hne)⟩
theorem only_trans {a b c : World} {row : Option Nat} (h : a.grownBy b row) (k : b.grownBy c row) : a.grownBy c row :=
  only_step h k.os k.tape k.output k.size fun i hi hne => k.block i (Nat.lt_of_lt_of_le hi h.size) hne
theorem only_alloc {a w : World} {row : Option Nat} (h : a.grownBy w row) (o : Obj) : a.grownBy (w.alloc o) row :=
  only_step h rfl rfl rfl (by simp) fun i hi _ => Below.heap_alloc w o i (Nat.lt_of_lt_of_le hi h.size)
theorem only_setCell {a w : World} {g : Nat} (h : a.grownBy w (some g)) {p : Addr} (hp : p.block = g ∨ a.heap.size ≤ p.block) (u : Value) : a.grownBy (w.setCell p u) (some g) :=
  only_step h rfl rfl rfl (by simp [World.setCell]) fun i hi hne => Below.heap_setCell w p u i fun e => by
    rcases hp with hp | hp
    · exact hne (by rw [e, hp])
    · omega
theorem only_drewN {a w : World} {row : Option Nat} (h : a.grownBy w row) (n : Nat) : a.grownBy (w.drewN n) row := only_step h rfl rfl rfl (Nat.le_refl _) fun _ _ _ => rfl
theorem below_drewN' {B : Nat} {a w : World} (h : Below B a w) (n : Nat) : Below B a (w.drewN n) := h.trans ⟨rfl, rfl, rfl, Nat.le_refl _, fun _ _ => rfl⟩
end Go.Proofs.Ytaamlidflfdjkaa.bytes
/-
  Program-free: worlds of which some blocks alone, and what is new, have turned; rows of a call's own and known blocks behind such a turn.
-/
namespace Go.Proofs.Ytaamlidflfdjkaa.only
open Go.RowKit bytes

/-- of what there was, the blocks of S alone may have turned -/
structure Only (S : Nat → Prop) (w w' : World) : Prop where
  os : w'.os = w.os
  tape : w'.tape = w.tape
  output : w'.output = w.output
  size : w.heap.size ≤ w'.heap.size
  block : ∀ i, i < w.heap.size → ¬ S i → w'.heap[i]? = w.heap[i]?
section
variable {S T : Nat → Prop} {a b c : World}
theorem Only.refl (S : Nat → Prop) (w : World) : Only S w w := ⟨rfl, rfl, rfl, Nat.le_refl _, fun _ _ _ => rfl⟩
theorem Only.trans (h : Only S a b) (k : Only T b c) (hT : ∀ i, T i → S i ∨ a.heap.size ≤ i) : Only S a c :=
  ⟨k.os.trans h.os, k.tape.trans h.tape, k.output.trans h.output, Nat.le_trans h.size k.size, fun i hi hs =>
    (k.block i (Nat.lt_of_lt_of_le hi h.size) fun ht => by
      rcases hT i ht with e | e
      · exact hs e
      · omega).trans (h.block i hi hs)⟩
theorem Only.mono (h : Only S a b) (hS : ∀ i, S i → T i ∨ a.heap.size ≤ i) : Only T a b := (Only.refl T a).trans h hS
theorem Only.of_below {B : Nat} (h : Below B a b) (hB : a.heap.size ≤ B) (S : Nat → Prop) : Only S a b :=
  ⟨h.os, h.tape, h.output, h.size, fun i hi _ => h.block i (Nat.lt_of_lt_of_le hi hB)⟩
theorem Only.of_grown {row : Option Nat} (h : a.grownBy b row) (hS : ∀ g, row = some g → S g ∨ a.heap.size ≤ g) : Only S a b :=
  ⟨h.os, h.tape, h.output, h.size, fun i hi hs => h.block i hi fun e => by
    rcases hS i e.symm with e | e
    · exact hs e
    · omega⟩
theorem Only.on (h : Only S a b) (k : Below b.heap.size b c) : Only S a c := h.trans (Only.of_below k (Nat.le_refl _) S) fun _ e => .inl e
theorem Only.alloc (h : Only S a b) (o : Obj) : Only S a (b.alloc o) :=
  h.trans ⟨rfl, rfl, rfl, by simp, fun i hi _ => Below.heap_alloc b o i hi⟩ (T := fun _ => False) fun _ e => e.elim
theorem Only.setCell (h : Only S a b) {p : Addr} (hp : S p.block ∨ a.heap.size ≤ p.block) (u : Value) : Only S a (b.setCell p u) :=
  h.trans (T := fun i => i = p.block) ⟨rfl, rfl, rfl, by simp [World.setCell], fun i _ hs => Below.heap_setCell b p u i hs⟩ fun i e => by rw [e]; exact hp
theorem Only.drewN (h : Only S a b) (n : Nat) : Only S a (b.drewN n) := ⟨h.os, h.tape, h.output, h.size, h.block⟩
theorem Only.drew (h : Only S a b) : Only S a b.drew := h.drewN 1
theorem Only.below (h : Only S a b) {B : Nat} (hB : B ≤ a.heap.size) (hS : ∀ i, S i → B ≤ i) : Below B a b :=
  ⟨h.os, h.tape, h.output, h.size, fun i hi => h.block i (by omega) fun e => by have := hS i e; omega⟩
end
section
variable {S : Nat → Prop} {w w' : World}
theorem Blk.only {g : Nat} {t : TypeId} {cs : Array Value} (h : Blk w g t cs) (k : Only S w w') (hg : ¬ S g) : Blk w' g t cs := h.keep (k.block g h.lt hg)
theorem own_only {base : Nat} {e : TypeId} {size n : Nat} {v : Value} {xs : List Value} (h : w.ownsRow base e size v n xs) (k : Only S w w') (hv : ∀ g, v.ownBlock = some g → ¬ S g) : w'.ownsRow base e size v n xs := by
  refine ⟨h.1, ?_⟩
  rcases h.2 with hn | ⟨g, cap, cur, hv', hg, hh, rest⟩
  · exact .inl hn
  · exact .inr ⟨g, cap, cur, hv', hg, (k.block g (Array.getElem?_eq_some_iff.1 hh).1 (hv g (by rw [hv']; rfl))).trans hh, rest⟩
theorem own_lt {base : Nat} {e : TypeId} {size n : Nat} {v : Value} {xs : List Value} (h : w.ownsRow base e size v n xs) {g : Nat} (hg : v.ownBlock = some g) : base ≤ g ∧ g < w.heap.size := by
  rcases h.2 with ⟨rfl, _⟩ | ⟨g', cap, cur, rfl, hb, hh, _⟩
  · cases hg
  · simp only [Value.ownBlock, Option.some.injEq] at hg
    subst hg
    exact ⟨hb, (Array.getElem?_eq_some_iff.1 hh).1⟩
/-- a row's first part -/
theorem own_take {base g c n : Nat} {e : TypeId} {xs : List Value} (h : w.ownsRow base e 1 (.slice (some ⟨g, 0, none⟩) n c) n xs) (m : Nat) (hm : m ≤ n) : w.ownsRow base e 1 (.slice (some ⟨g, 0, none⟩) m c) m (xs.take m) := by
  obtain ⟨hl, hn | ⟨g', cap, cur, hv, hg, hh, hnc, hcm, hcs, hx⟩⟩ := h
  · simp at hn
  · injection hv with e1 e2 e3
    injection e1 with e1
    injection e1 with e1
    subst e1 e3
    exact ⟨by simp; omega, .inr ⟨g, c, cur, rfl, hg, hh, by omega, hcm, hcs, by rw [← hx, List.take_take]; congr 1; omega⟩⟩
end
end Go.Proofs.Ytaamlidflfdjkaa.only
/-
  Program-free: rows of structs of k cells each, flat: which cell stands where, one put in another's place, a first part, a last one.
-/
namespace Go.Proofs.Ytaamlidflfdjkaa.flat
open Go.RowKit bytes only

section
variable {α : Type} {E : α → List Value} {k : Nat}
theorem flat_length (hk : ∀ x, (E x).length = k) (l : List α) : (l.flatMap E).length = l.length * k := by
  induction l with
  | nil => simp
  | cons x l ih => simp only [List.flatMap_cons, List.length_append, hk, ih, List.length_cons]; rw [Nat.add_mul]; omega
theorem flat_get (hk : ∀ x, (E x).length = k) (l : List α) (i j : Nat) (hi : i < l.length) (hj : j < k) : (l.flatMap E)[i * k + j]? = (E l[i])[j]? := by
  induction l generalizing i with
  | nil => simp at hi
  | cons x l ih =>
    rw [List.flatMap_cons]
    cases i with
    | zero => rw [Nat.zero_mul, Nat.zero_add, List.getElem?_append_left (by rw [hk]; exact hj)]; rfl
    | succ i =>
      rw [List.getElem?_append_right (by rw [hk, Nat.add_mul]; omega), hk, show (i + 1) * k + j - k = i * k + j by rw [Nat.add_mul]; omega]
      rw [ih i (by simpa using hi)]
      rfl
theorem flat_set (hk : ∀ x, (E x).length = k) (l : List α) (i : Nat) (y : α) (hi : i < l.length) : (l.set i y).flatMap E = (l.flatMap E).take (i * k) ++ E y ++ (l.flatMap E).drop (i * k + k) := by
  induction l generalizing i with
  | nil => simp at hi
  | cons x l ih =>
    cases i with
    | zero =>
      rw [List.set_cons_zero, List.flatMap_cons, List.flatMap_cons, Nat.zero_mul, List.take_zero, Nat.zero_add]
      have : (E x ++ l.flatMap E).drop k = l.flatMap E := by rw [← hk x]; exact List.drop_left
      rw [this]
      rfl
    | succ i =>
      rw [List.set_cons_succ, List.flatMap_cons, List.flatMap_cons, ih i (by simpa using hi)]
      have e1 : (E x ++ l.flatMap E).take ((i + 1) * k) = E x ++ (l.flatMap E).take (i * k) := by
        rw [List.take_append, hk, List.take_of_length_le (by rw [hk, Nat.add_mul]; omega), show (i + 1) * k - k = i * k by rw [Nat.add_mul]; omega]
      have e2 : (E x ++ l.flatMap E).drop ((i + 1) * k + k) = (l.flatMap E).drop (i * k + k) := by
        rw [List.drop_append, hk, List.drop_of_length_le (by rw [hk, Nat.add_mul]; omega), show (i + 1) * k + k - k = i * k + k by rw [Nat.add_mul]; omega]
        rfl
      rw [e1, e2, List.append_assoc, List.append_assoc, List.append_assoc]
theorem flat_take (hk : ∀ x, (E x).length = k) (l : List α) (m : Nat) : (l.flatMap E).take (m * k) = (l.take m).flatMap E := by
  induction l generalizing m with
  | nil => simp
  | cons x l ih =>
    cases m with
    | zero => simp
    | succ m =>
      rw [List.take_succ_cons, List.flatMap_cons, List.flatMap_cons, List.take_append, hk, List.take_of_length_le (by rw [hk, Nat.add_mul]; omega), show (m + 1) * k - k = m * k by rw [Nat.add_mul]; omega, ih m]
end
/-- a row of the call's own, of things of k cells each -/
def FRow {α : Type} (E : α → List Value) (k : Nat) (e : TypeId) (w : World) (base g c : Nat) (d : Array α) : Prop := w.ownsRow base e k (.slice (some ⟨g, 0, none⟩) d.size c) d.size (d.toList.flatMap E)
section
variable {α : Type} {E : α → List Value} {k : Nat} {e : TypeId} {w w' : World} {base g c : Nat} {d : Array α}
theorem FRow.lt (h : FRow E k e w base g c d) : g < w.heap.size := (own_lt h (g := g) rfl).2
theorem FRow.ge (h : FRow E k e w base g c d) : base ≤ g := (own_lt h (g := g) rfl).1
theorem FRow.cell [Inhabited α] (h : FRow E k e w base g c d) (hk : ∀ x, (E x).length = k) (i j : Nat) (hi : i < d.size) (hj : j < k) : w.cell? ⟨g, i * k + j, none⟩ = (E d[i]!)[j]? := by
  have hle : i * k + j < d.size * k := Nat.lt_of_lt_of_le (Nat.add_lt_add_left hj _) (by rw [← Nat.succ_mul]; exact Nat.mul_le_mul_right _ hi)
  rw [World.ownsRow.cellAt h _ hle, flat_get hk _ i j (by simpa using hi) hj, getElem!_pos d i hi]
  rfl
theorem FRow.frozen (h : FRow E k e w base g c d) (i : Nat) : w.frozen? ⟨g, i, none⟩ = false := by
  obtain ⟨hl, hn | ⟨g', cap, cur, hv, hg, hh, hnc, hcm, hcs, hx⟩⟩ := h
  · simp at hn
  · injection hv with e1 e2 e3
    injection e1 with e1
    injection e1 with e1
    subst e1
    exact Blk.frozen (w := w) (g := g) (t := e) (cs := cur) hh i
theorem FRow.only {S : Nat → Prop} (h : FRow E k e w base g c d) (o : Only S w w') (hg : ¬ S g) : FRow E k e w' base g c d := own_only h o fun g' e => by
  simp only [Value.ownBlock, Option.some.injEq] at e
  rwa [← e]
theorem FRow.below {B : Nat} (h : FRow E k e w base g c d) (o : Below B w w') (hB : w.heap.size ≤ B) : FRow E k e w' base g c d := own_below h o hB
theorem FRow.drew_ (h : FRow E k e w base g c d) : FRow E k e w.drew base g c d := h
/-- one of the row's cells, whatever is put there: what the row holds, cell by cell -/
theorem own_set {n : Nat} {xs : List Value} (h : w.ownsRow base e k (.slice (some ⟨g, 0, none⟩) n c) n xs) (i : Nat) (u : Value) : (w.setCell ⟨g, i, none⟩ u).ownsRow base e k (.slice (some ⟨g, 0, none⟩) n c) n (xs.set i u) := by
  obtain ⟨hl, hn | ⟨g', cap, cur, hv, hg, hh, hnc, hcm, hcs, hx⟩⟩ := h
  · simp at hn
  · injection hv with e1 e2 e3
    injection e1 with e1
    injection e1 with e1
    subst e1 e3
    refine ⟨by simpa using hl, .inr ⟨g, c, cur.setIfInBounds i u, rfl, hg, ?_, hnc, hcm, by simpa using hcs, ?_⟩⟩
    · simp [World.setCell, Array.getElem?_modify, hh]
    · rw [Array.toList_setIfInBounds, List.take_set, hx]
theorem list_sets (us : List Value) : ∀ (xs : List Value) (i : Nat), i + us.length ≤ xs.length → ∀ {w : World} {n : Nat}, w.ownsRow base e k (.slice (some ⟨g, 0, none⟩) n c) n xs →
    (w.setCells g i us).ownsRow base e k (.slice (some ⟨g, 0, none⟩) n c) n (xs.take i ++ us ++ xs.drop (i + us.length)) := by
  induction us with
  | nil => intro xs i hi w n h; simpa [World.setCells] using h
  | cons u us ih =>
    intro xs i hi w n h
    simp only [List.length_cons] at hi
    have h2 := ih (xs.set i u) (i + 1) (by simp; omega) (own_set h i u)
    have e1 : (xs.set i u).take (i + 1) = xs.take i ++ [u] := by
      rw [List.take_succ_eq_append_getElem (by simp; omega), List.take_set_of_le (Nat.le_refl i)]
      simp
    have e2 : (xs.set i u).drop (i + 1 + us.length) = xs.drop (i + (u :: us).length) := by
      rw [List.drop_set_of_lt (by omega)]
      congr 1
      simp only [List.length_cons]
      omega
    rw [e1, e2] at h2
    simpa [World.setCells] using h2
/-- one thing put in another's place -/
theorem FRow.set_ (h : FRow E k e w base g c d) (hk : ∀ x, (E x).length = k) (i : Nat) (x : α) (hi : i < d.size) : FRow E k e (w.setCells g (i * k) (E x)) base g c (d.setIfInBounds i x) := by
  have hle : i * k + k ≤ d.size * k := by rw [← Nat.succ_mul]; exact Nat.mul_le_mul_right _ hi
  have h2 := list_sets (E x) (d.toList.flatMap E) (i * k) (by rw [flat_length hk, hk]; simpa using hle) h
  unfold FRow
  rw [Array.size_setIfInBounds, Array.toList_setIfInBounds, flat_set hk _ _ _ (by simpa using hi)]
  rwa [hk] at h2
/-- a row's first part -/
theorem own_takeK {n : Nat} {xs : List Value} (h : w.ownsRow base e k (.slice (some ⟨g, 0, none⟩) n c) n xs) (m : Nat) (hm : m ≤ n) : w.ownsRow base e k (.slice (some ⟨g, 0, none⟩) m c) m (xs.take (m * k)) := by
  have hmk : m * k ≤ n * k := Nat.mul_le_mul_right _ hm
  obtain ⟨hl, hn | ⟨g', cap, cur, hv, hg, hh, hnc, hcm, hcs, hx⟩⟩ := h
  · simp at hn
  · injection hv with e1 e2 e3
    injection e1 with e1
    injection e1 with e1
    subst e1 e3
    exact ⟨by simp; omega, .inr ⟨g, c, cur, rfl, hg, hh, by omega, hcm, hcs, by rw [← hx, List.take_take, Nat.min_eq_left hmk]⟩⟩
end

/-! ### append of one thing onto a row of the call's own -/
/-- an element type of k cells -/
def ElemK (P : Program) (e : TypeId) (k bytes : Nat) : Prop := ∃ i z, P.info? e = some i ∧ i.zero = some z ∧ i.size = k ∧ i.bytes = bytes ∧ z.cells.size = k
theorem elemK_mk {P : Program} {e : TypeId} {z : Value} {k bytes : Nat} (h : (P.info? e).map (fun i => (i.zero, i.size, i.bytes)) = some (some z, k, bytes)) (hz : z.cells.size = k) : ElemK P e k bytes := by
  obtain ⟨i, hi, h0, h1, h2⟩ := info_parts h
  exact ⟨i, z, hi, h0, h1, h2, hz⟩
section
variable {P : Program}
theorem run_append_k (w : World) (base : Nat) (t ty e : TypeId) (k bytes : Nat) (ht : P.underlying t = some (.slice e)) (he : ElemK P e k bytes) (hk : 0 < k)
    (v : Value) (n : Nat) (xs : List Value) (hown : w.ownsRow base e k v n xs) (b c : Nat) (us : List Value) (tb : TypeId) (hb : Blk w b tb us.toArray) (hl : us.length = k) (h1 : ∀ u ∈ us, u.oneCell' = true)
    (hbytes : (n + 1) * bytes ≤ 140737488355328) (h63 : n + 1 ≤ maxLen) (hbase : base ≤ w.heap.size) :
    ∃ v' w', (Builtin.append_ #[t, t] ty #[v, .slice (some ⟨b, 0, none⟩) 1 c]).run P w = .ok v' w' ∧ w'.ownsRow base e k v' (n + 1) (xs ++ us) ∧ w.grownBy w' v.ownBlock ∧ (v'.ownBlock = v.ownBlock ∨ v'.ownBlock = some w.heap.size) := by
  obtain ⟨i, z, hi, hz, hsize, hby, hzs⟩ := he
  obtain ⟨v', w', hrun, h2, h3, _, h5⟩ := run_append_own_at (P := P) w base t ty e i z k bytes ht hi hz hsize hby hzs hk v n xs hown ⟨b, 0, none⟩ 1 c us (by omega) (fun j u hj => by
    have : (⟨b, 0, none⟩ : Addr).add j = ⟨b, j, none⟩ := by simp [Addr.add]; intro h; exact h.symm
    rw [this, hb.cell j]
    simpa using hj) h1 h63 hbytes hbase
  exact ⟨v', w', hrun, h2, h3, h5⟩
theorem wp_append_k (w : World) {o : Oper} {a : Act} {K : Act → World → Prop} {Q : Exit → Act → World → Prop} (s x : Operand) (t : TypeId)
    (ho : o.op = .call { callee := .builtin .append, args := #[s, x], argTypes := #[t, t] }) (base : Nat) (e : TypeId) (k bytes : Nat) (ht : P.underlying t = some (.slice e)) (he : ElemK P e k bytes) (hk : 0 < k)
    (v : Value) (n : Nat) (xs : List Value) (hs : a.eval s = v) (hown : w.ownsRow base e k v n xs) (b c : Nat) (us : List Value) (tb : TypeId) (hb : Blk w b tb us.toArray) (hx : a.eval x = .slice (some ⟨b, 0, none⟩) 1 c) (hl : us.length = k)
    (h1 : ∀ u ∈ us, u.oneCell' = true) (hbytes : (n + 1) * bytes ≤ 140737488355328) (h63 : n + 1 ≤ maxLen) (hbase : base ≤ w.heap.size)
    (h : ∀ v' w', w'.ownsRow base e k v' (n + 1) (xs ++ us) → w.grownBy w' v.ownBlock → (v'.ownBlock = v.ownBlock ∨ v'.ownBlock = some w.heap.size) → K (a.put o.dst v') w') : o.wp P a w K Q := by
  obtain ⟨v', w', hrun, h2, h3, h4⟩ := run_append_k (P := P) w base t o.type e k bytes ht he hk v n xs hown b c us tb hb hl h1 hbytes h63 hbase
  unfold Oper.wp execOp
  simp only [ho, resolve, invoke, builtin, Sem.run_bind, Sem.run_pure, Result.andThen_ok, List.map_toArray, List.map_cons, List.map_nil, hs, hx, hrun]
  exact h v' w' h2 h3 h4
theorem wpList_append_k (w : World) {ops : Array Oper} {rest : List Oper} {o : Oper} {a : Act} {Q : Exit → Act → World → Prop} (hgd : o.guard = none) (s x : Operand) (t : TypeId)
    (ho : o.op = .call { callee := .builtin .append, args := #[s, x], argTypes := #[t, t] }) (base : Nat) (e : TypeId) (k bytes : Nat) (ht : P.underlying t = some (.slice e)) (he : ElemK P e k bytes) (hk : 0 < k)
    (v : Value) (n : Nat) (xs : List Value) (hs : a.eval s = v) (hown : w.ownsRow base e k v n xs) (b c : Nat) (us : List Value) (tb : TypeId) (hb : Blk w b tb us.toArray) (hx : a.eval x = .slice (some ⟨b, 0, none⟩) 1 c) (hl : us.length = k)
    (h1 : ∀ u ∈ us, u.oneCell' = true) (hbytes : (n + 1) * bytes ≤ 140737488355328) (h63 : n + 1 ≤ maxLen) (hbase : base ≤ w.heap.size)
    (h : ∀ v' w', w'.ownsRow base e k v' (n + 1) (xs ++ us) → w.grownBy w' v.ownBlock → (v'.ownBlock = v.ownBlock ∨ v'.ownBlock = some w.heap.size) → wpList P ops Q rest (a.put o.dst v') w') : wpList P ops Q (o :: rest) a w :=
  wpList_plain hgd fun _ hK => wp_append_k w s x t ho base e k bytes ht he hk v n xs hs hown b c us tb hb hx hl h1 hbytes h63 hbase fun v' w' h2 h3 h4 => hK _ _ (h v' w' h2 h3 h4)
theorem step_append_k (w : World) {ops : Array Oper} {o : Oper} {a : Act} {K : Act → World → Prop} {Q : Exit → Act → World → Prop} {E : Prop} (hgd : o.guard = none) (s x : Operand) (t : TypeId)
    (ho : o.op = .call { callee := .builtin .append, args := #[s, x], argTypes := #[t, t] }) (base : Nat) (e : TypeId) (k bytes : Nat) (ht : P.underlying t = some (.slice e)) (he : ElemK P e k bytes) (hk : 0 < k)
    (v : Value) (n : Nat) (xs : List Value) (hs : a.eval s = v) (hown : w.ownsRow base e k v n xs) (b c : Nat) (us : List Value) (tb : TypeId) (hb : Blk w b tb us.toArray) (hx : a.eval x = .slice (some ⟨b, 0, none⟩) 1 c) (hl : us.length = k)
    (h1 : ∀ u ∈ us, u.oneCell' = true) (hbytes : (n + 1) * bytes ≤ 140737488355328) (h63 : n + 1 ≤ maxLen) (hbase : base ≤ w.heap.size)
    (h : ∀ v' w', w'.ownsRow base e k v' (n + 1) (xs ++ us) → w.grownBy w' v.ownBlock → (v'.ownBlock = v.ownBlock ∨ v'.ownBlock = some w.heap.size) → K (a.put o.dst v') w') :
    if Region.wanted o (yielded ops a.tmps) = true then Oper.wp P o a w K Q else E := by
  have hw : Region.wanted o (yielded ops a.tmps) = true := by simp [Region.wanted, hgd]
  rw [if_pos hw]
  exact wp_append_k w s x t ho base e k bytes ht he hk v n xs hs hown b c us tb hb hx hl h1 hbytes h63 hbase h
/-- 'clear(s)', s of one thing of k cells -/
theorem run_clear_k (w : World) (t e ty : TypeId) (z : Value) (ht : P.underlying t = some (.slice e)) (hv : ∀ w, (zeroValue e).run P w = .ok z w) (h1 : ∀ u ∈ z.cells.toList, u.oneCell' = true) (b o c : Nat)
    (hc : ∀ j, j < z.cells.size → (w.cell? ⟨b, o + j, none⟩).isSome = true) (hf : ∀ j, j < z.cells.size → w.frozen? ⟨b, o + j, none⟩ = false) :
    (Builtin.clear_ #[t] ty #[.slice (some ⟨b, o, none⟩) 1 c]).run P w = .ok (.tuple #[]) (w.setCells b o z.cells.toList) := by
  have hzc : (Builtin.zeroCells z.cells 1).toList = z.cells.toList := by
    apply List.ext_getElem
    · simp [Builtin.zeroCells]
    · intro i h2 h3
      have h4 : i < z.cells.size := by simpa using h3
      simp [Builtin.zeroCells, Nat.mod_eq_of_lt h4, h4]
  have hst := run_storeCells_cells (P := P) b o z.cells.toList 0 w (by simpa using hc) (by simpa using hf) h1
  simp only [Nat.add_zero] at hst
  simp [Builtin.clear_, run_underlying ht, hv, hzc, hst]
end
end Go.Proofs.Ytaamlidflfdjkaa.flat
/-
  Program-free: a row of structs that came in, as many cells each: a list of what they hold, where each cell stands, how many there may be.
-/
namespace Go.Proofs.Ytaamlidflfdjkaa.came
open Go.RowKit law bytes
open Go.ChangeShapes Go.WideShapes Go.Deep Go.ChangeAt
section
variable {H : Type} {enc : TypeId × Value → H} {P : Program} {w : World} {base : Nat} {held : Bool}
theorem list_of {α : Type} {R : Nat → α → Prop} {n : Nat} (h : ∀ i, i < n → ∃ q, R i q) : ∃ l : List α, l.length = n ∧ ∀ i, i < n → ∀ hi : i < l.length, R i l[i] := by
  induction n with
  | zero => exact ⟨[], rfl, fun i hi => absurd hi (by omega)⟩
  | succ n ih =>
    obtain ⟨l, hl, hR⟩ := ih (fun i hi => h i (by omega))
    obtain ⟨q, hq⟩ := h n (by omega)
    refine ⟨l ++ [q], by simp [hl], fun i hi hi2 => ?_⟩
    rcases Nat.lt_or_ge i l.length with hlt | hge
    · rw [List.getElem_append_left hlt]; exact hR i (by omega) hlt
    · obtain rfl : i = n := by omega
      rw [List.getElem_append_right hge]
      simpa using hq
/-- a row of what has N cells each, in memory -/
def Came {α : Type} (N : Nat) (cells : α → List Value) (w : World) (B : Option Addr) (l : List α) : Prop := ∀ i (hi : i < l.length), ∃ ad, B = some ad ∧ ∀ j, j < N → w.cell? (ad.add (i * N + j)) = (cells l[i])[j]?
theorem open_row {α : Type} {N : Nat} {r : Reach} {b0 : Nat} {t e : TypeId} {v : Value} {d : DataW H} {p : List MemPlace} {cells : α → List Value} {R : α → Prop} (ht : P.underlying t = some (.slice e)) (hC : P.cellsOf e = N)
    (k : ∀ (fuel : Nat) (cs : List Value) (y : DataW H × List MemPlace), DataW.trod enc P w base (fun _ => true) held fuel e cs = some y → ∃ a, cs = cells a ∧ R a)
    (hv : Value.okWide P w r b0 t v) (h : DataW.Trod enc P w base (fun _ => true) held t v d p) :
    ∃ A c, ∃ l : List α, v = .slice A l.length c ∧ l.length ≤ maxLen ∧ (∀ i (hi : i < l.length), R l[i]) ∧ Came N cells w A l ∧ (l = [] ∨ ∃ el sp, d = .slice el sp ∧ l.length ≤ el.length + sp.length) := by
  obtain ⟨A, len, cap, rfl⟩ := okWide_slice ht hv
  obtain ⟨fuel, hf⟩ := h
  rcases open_slice ht hf with ⟨hcs, hx⟩ | ⟨a, len', cap', m, n, D, Pl, hcs, _, hl, hm, hmm, hx, hi⟩
  · simp [Value.cells] at hcs
    obtain ⟨rfl, rfl, rfl⟩ := hcs
    exact ⟨none, 0, [], rfl, Nat.zero_le _, fun i hi => absurd hi (by simp), fun i hi => absurd hi (by simp), .inl rfl⟩
  · simp [Value.cells] at hcs
    obtain ⟨rfl, rfl, rfl⟩ := hcs
    simp only [if_true] at hmm
    have hex : ∀ i, i < len → ∃ q : α, (∀ j, j < N → w.cell? (a.add (i * N + j)) = (cells q)[j]?) ∧ R q := fun i hlt => by
      obtain ⟨cs', hc, hr⟩ := hi i (by omega)
      obtain ⟨q, rfl, hR⟩ := k _ _ _ hr
      rw [hC] at hc
      obtain ⟨-, -, hat⟩ := World.cells?_some hc
      refine ⟨q, fun j hj => ?_, hR⟩
      rw [← Go.Deep.add_add, hat j hj]
    obtain ⟨l, hl2, hR⟩ := list_of hex
    injection hx with hd hp
    refine ⟨some a, cap, l, by rw [hl2], by omega, fun i hi => (hR i (by omega) hi).2, fun i hi => ⟨a, rfl, (hR i (by omega) hi).1⟩, .inr ⟨_, _, hd, by simp; omega⟩⟩
end
theorem spot_none {w : World} {ad : Addr} {v : Value} (h : w.cell? ad = some v) : ad = ⟨ad.block, ad.off, none⟩ := by
  obtain ⟨b, o, s⟩ := ad
  cases s with
  | none => rfl
  | some s =>
    simp only [World.cell?] at h
    split at h
    · simp at h
    · cases h
theorem Came.row {α : Type} {N : Nat} {cells : α → List Value} {w : World} {B : Option Addr} {l : List α} (h : Came N cells w B l) (hN : 0 < N) (hc : ∀ a, (cells a).length = N) (hl : 0 < l.length) : ∃ b o, B = some ⟨b, o, none⟩ ∧ b < w.heap.size := by
  obtain ⟨ad, rfl, hat⟩ := h 0 hl
  have h0 := hat 0 hN
  have e : ad.add (0 * N + 0) = ad := by unfold Addr.add; simp
  rw [e, List.getElem?_eq_getElem (by rw [hc]; exact hN)] at h0
  exact ⟨ad.block, ad.off, by rw [← spot_none h0], World.block_lt_of_cell? w _ h0⟩
theorem Came.at_ {α : Type} {N : Nat} {cells : α → List Value} {w : World} {l : List α} {b o : Nat} (h : Came N cells w (some ⟨b, o, none⟩) l) (k : Nat) (hk : k < l.length) (j : Nat) (hj : j < N) : w.cell? ⟨b, o + k * N + j, none⟩ = (cells l[k])[j]? := by
  obtain ⟨ad, e, hc⟩ := h k hk
  injection e with e
  subst e
  have := hc j hj
  unfold Addr.add at this
  split at this
  · rename_i h0
    rw [show o + k * N + j = o from by omega]
    exact this
  · simpa [Nat.add_assoc] using this
end Go.Proofs.Ytaamlidflfdjkaa.came
/-
  Program-free: rows of things of k cells each, read by slices: append of as many things as there are onto a row of the call's own; cells of a thing; what came in.
-/
namespace Go.Proofs.Ytaamlidflfdjkaa.flat
open Go.RowKit bytes only came
section
variable {P : Program}
theorem run_append_slk (w : World) (base : Nat) (t ty e : TypeId) (k bytes : Nat) (ht : P.underlying t = some (.slice e)) (he : ElemK P e k bytes) (hk : 0 < k)
    (v : Value) (n : Nat) (xs : List Value) (hown : w.ownsRow base e k v n xs) (B : Nat) (A : Option Addr) (m c : Nat) (news : List Value) (hr : Sl w B A news) (hl : news.length = m * k) (h1 : ∀ u ∈ news, u.oneCell' = true)
    (hbytes : (n + m) * bytes ≤ 140737488355328) (h63 : n + m ≤ maxLen) (hbase : base ≤ w.heap.size) :
    ∃ v' w', (Builtin.append_ #[t, t] ty #[v, .slice A m c]).run P w = .ok v' w' ∧ w'.ownsRow base e k v' (n + m) (xs ++ news) ∧ w.grownBy w' v.ownBlock ∧ (v'.ownBlock = v.ownBlock ∨ v'.ownBlock = some w.heap.size) := by
  obtain ⟨i, z, hi, hz, hsize, hby, hzs⟩ := he
  rcases A with _ | ad
  · have h0 : news = [] := by
      rcases news with _ | ⟨u, r⟩
      · rfl
      · obtain ⟨ad, h, _⟩ := hr 0 u rfl
        cases h
    subst h0
    obtain rfl : m = 0 := by
      rcases Nat.eq_zero_or_pos m with h | h
      · exact h
      · have := Nat.mul_pos h hk
        simp at hl
        omega
    refine ⟨v, w, ?_, by simpa using hown, World.grownBy.refl w _, .inl rfl⟩
    obtain ⟨A', c', rfl, hc'⟩ := own_slice hown
    rcases A' with _ | a' <;> simp [Builtin.append_, run_underlying ht, sizeOf, typeInfo, hi, Builtin.lenOf, Builtin.firstCells, hc', storeCells]
  · have hcells : ∀ j u, news[j]? = some u → w.cell? (ad.add j) = some u := fun j u hu => by
      obtain ⟨ad', h, _, hc⟩ := hr j u hu
      injection h with h
      subst h
      exact hc
    obtain ⟨v', w', hrun, h2, h3, _, h5⟩ := run_append_own_at (P := P) w base t ty e i z k bytes ht hi hz hsize hby hzs hk v n xs hown ad m c news hl hcells h1 h63 hbytes hbase
    exact ⟨v', w', hrun, h2, h3, h5⟩
theorem wp_append_slk (w : World) {o : Oper} {a : Act} {K : Act → World → Prop} {Q : Exit → Act → World → Prop} (s x : Operand) (t : TypeId)
    (ho : o.op = .call { callee := .builtin .append, args := #[s, x], argTypes := #[t, t] }) (base : Nat) (e : TypeId) (k bytes : Nat) (ht : P.underlying t = some (.slice e)) (he : ElemK P e k bytes) (hk : 0 < k)
    (v : Value) (n : Nat) (xs : List Value) (hs : a.eval s = v) (hown : w.ownsRow base e k v n xs) (B : Nat) (A : Option Addr) (m c : Nat) (news : List Value) (hx : a.eval x = .slice A m c) (hr : Sl w B A news) (hl : news.length = m * k)
    (h1 : ∀ u ∈ news, u.oneCell' = true) (hbytes : (n + m) * bytes ≤ 140737488355328) (h63 : n + m ≤ maxLen) (hbase : base ≤ w.heap.size)
    (h : ∀ v' w', w'.ownsRow base e k v' (n + m) (xs ++ news) → w.grownBy w' v.ownBlock → (v'.ownBlock = v.ownBlock ∨ v'.ownBlock = some w.heap.size) → K (a.put o.dst v') w') : o.wp P a w K Q := by
  obtain ⟨v', w', hrun, h2, h3, h4⟩ := run_append_slk (P := P) w base t o.type e k bytes ht he hk v n xs hown B A m c news hr hl h1 hbytes h63 hbase
  unfold Oper.wp execOp
  simp only [ho, resolve, invoke, builtin, Sem.run_bind, Sem.run_pure, Result.andThen_ok, List.map_toArray, List.map_cons, List.map_nil, hs, hx, hrun]
  exact h v' w' h2 h3 h4
theorem wpList_append_slk (w : World) {ops : Array Oper} {rest : List Oper} {o : Oper} {a : Act} {Q : Exit → Act → World → Prop} (hgd : o.guard = none) (s x : Operand) (t : TypeId)
    (ho : o.op = .call { callee := .builtin .append, args := #[s, x], argTypes := #[t, t] }) (base : Nat) (e : TypeId) (k bytes : Nat) (ht : P.underlying t = some (.slice e)) (he : ElemK P e k bytes) (hk : 0 < k)
    (v : Value) (n : Nat) (xs : List Value) (hs : a.eval s = v) (hown : w.ownsRow base e k v n xs) (B : Nat) (A : Option Addr) (m c : Nat) (news : List Value) (hx : a.eval x = .slice A m c) (hr : Sl w B A news) (hl : news.length = m * k)
    (h1 : ∀ u ∈ news, u.oneCell' = true) (hbytes : (n + m) * bytes ≤ 140737488355328) (h63 : n + m ≤ maxLen) (hbase : base ≤ w.heap.size)
    (h : ∀ v' w', w'.ownsRow base e k v' (n + m) (xs ++ news) → w.grownBy w' v.ownBlock → (v'.ownBlock = v.ownBlock ∨ v'.ownBlock = some w.heap.size) → wpList P ops Q rest (a.put o.dst v') w') : wpList P ops Q (o :: rest) a w :=
  wpList_plain hgd fun _ hK => wp_append_slk w s x t ho base e k bytes ht he hk v n xs hs hown B A m c news hx hr hl h1 hbytes h63 hbase fun v' w' h2 h3 h4 => hK _ _ (h v' w' h2 h3 h4)
theorem step_append_slk (w : World) {ops : Array Oper} {o : Oper} {a : Act} {K : Act → World → Prop} {Q : Exit → Act → World → Prop} {E : Prop} (hgd : o.guard = none) (s x : Operand) (t : TypeId)
    (ho : o.op = .call { callee := .builtin .append, args := #[s, x], argTypes := #[t, t] }) (base : Nat) (e : TypeId) (k bytes : Nat) (ht : P.underlying t = some (.slice e)) (he : ElemK P e k bytes) (hk : 0 < k)
    (v : Value) (n : Nat) (xs : List Value) (hs : a.eval s = v) (hown : w.ownsRow base e k v n xs) (B : Nat) (A : Option Addr) (m c : Nat) (news : List Value) (hx : a.eval x = .slice A m c) (hr : Sl w B A news) (hl : news.length = m * k)
    (h1 : ∀ u ∈ news, u.oneCell' = true) (hbytes : (n + m) * bytes ≤ 140737488355328) (h63 : n + m ≤ maxLen) (hbase : base ≤ w.heap.size)
    (h : ∀ v' w', w'.ownsRow base e k v' (n + m) (xs ++ news) → w.grownBy w' v.ownBlock → (v'.ownBlock = v.ownBlock ∨ v'.ownBlock = some w.heap.size) → K (a.put o.dst v') w') :
    if Region.wanted o (yielded ops a.tmps) = true then Oper.wp P o a w K Q else E := by
  have hw : Region.wanted o (yielded ops a.tmps) = true := by simp [Region.wanted, hgd]
  rw [if_pos hw]
  exact wp_append_slk w s x t ho base e k bytes ht he hk v n xs hs hown B A m c news hx hr hl h1 hbytes h63 hbase h
end
section
variable {w w' : World} {B : Nat} {A : Option Addr} {e : TypeId} {k : Nat}
/-- a row of the call's own, read -/
theorem Sl.of_ownK {base n c : Nat} {xs : List Value} (h : w.ownsRow base e k (.slice A n c) n xs) : Sl w w.heap.size A xs := fun j u hj => by
  rcases h.2 with ⟨h', rfl⟩ | ⟨g, cap, cur, hv, _, hh, _⟩
  · have : xs = [] := List.eq_nil_of_length_eq_zero (by simpa using h.1)
    subst this
    simp at hj
  · injection hv with hA
    subst hA
    exact ⟨_, rfl, (Array.getElem?_eq_some_iff.1 hh).1, h.cells (g := g) rfl j u hj⟩
/-- things just made, one behind the other -/
theorem Sl.lit (w : World) (xs : List Value) (t : TypeId) : Sl (w.alloc (.cells xs.toArray t)) (w.alloc (.cells xs.toArray t)).heap.size (some ⟨w.heap.size, 0, none⟩) xs := fun j u hj =>
  ⟨_, rfl, by simp, by
    have : (⟨w.heap.size, 0, none⟩ : Addr).add j = ⟨w.heap.size, j, none⟩ := by simp [Addr.add]; intro h; exact h.symm
    rw [this, (Blk.new w t xs.toArray).cell j]
    simpa using hj⟩
theorem below_appendK {w wr w2 : World} {B : Nat} {v : Value} {base n : Nat} {xs : List Value} (hb : Below B w wr) (hB : B ≤ wr.heap.size) (hown : wr.ownsRow base e k v n xs) (hB2 : B ≤ base) (hg : wr.grownBy w2 v.ownBlock) : Below B w w2 :=
  hb.grown hg hB (fun i hi => Nat.le_trans hB2 (hown.lt i hi).1)
theorem below_appendK1 {w wr w2 : World} {B : Nat} {v : Value} {base n : Nat} {xs : List Value} (hb : Below B w wr) (hB : B ≤ wr.heap.size) (o : Obj) (hown : wr.ownsRow base e k v n xs) (hB2 : B ≤ base) (hg : (wr.alloc o).grownBy w2 v.ownBlock) : Below B w w2 :=
  (hb.alloc hB o).grown hg (by simp; omega) (fun i hi => Nat.le_trans hB2 (hown.lt i hi).1)
/-- a row that is read is one of places without a spot, as soon as there is something in it -/
theorem Sl.place {xs : List Value} (h : Sl w B A xs) (h0 : 0 < xs.length) : ∃ b o, A = some ⟨b, o, none⟩ ∧ b < B ∧ ∀ j (hj : j < xs.length), w.cell? ⟨b, o + j, none⟩ = some xs[j] := by
  obtain ⟨ad, rfl, hb, hc⟩ := h.addr h0
  have h1 := hc 0 h0
  have e0 : ad.add 0 = ad := by unfold Addr.add; simp
  rw [e0] at h1
  have hs := spot_none h1
  refine ⟨ad.block, ad.off, by rw [← hs], hb, fun j hj => ?_⟩
  have h2 := hc j hj
  rw [hs] at h2
  unfold Addr.add at h2
  split at h2
  · rename_i hz
    subst hz
    simpa using h2
  · simpa using h2
theorem Came.sl {α : Type} {N : Nat} {cells : α → List Value} {l : List α} (h : Came N cells w A l) (hN : 0 < N) (hc : ∀ a, (cells a).length = N) : Sl w w.heap.size A (l.flatMap cells) := fun j u hj => by
  have hlt := (List.getElem?_eq_some_iff.1 hj).1
  rw [flat_length hc] at hlt
  have hi : j / N < l.length := Nat.div_lt_of_lt_mul (by rw [Nat.mul_comm]; exact hlt)
  have hr : j % N < N := Nat.mod_lt _ hN
  have e : j / N * N + j % N = j := by rw [Nat.mul_comm]; exact Nat.div_add_mod j N
  obtain ⟨ad, rfl, hat⟩ := h (j / N) hi
  have h2 := hat (j % N) hr
  have h3 := flat_get hc l (j / N) (j % N) hi hr
  rw [e] at h2 h3
  rw [h3] at hj
  rw [hj] at h2
  refine ⟨ad, rfl, ?_, h2⟩
  have := World.block_lt_of_cell? w _ h2
  rwa [blk_add] at this
end
/-! ### what a sort leaves -/
open Go.Sort Go.Shelf in
theorem below_sortK {α : Type} [Inhabited α] {enc : α → List Value} {k B g off n : Nat} {w0 w : World} {d : Array α} {os : Array Obj} (h : Below B w0 w) (hg : B ≤ g) (hw : B ≤ w.heap.size) : Below B w0 (sortWorldK enc k w g off n d os) := by
  refine ⟨?_, ?_, ?_, ?_, fun i hi => ?_⟩
  · exact h.os
  · exact h.tape
  · exact h.output
  · exact Nat.le_trans h.size (size_sortWorldK_c enc k w g off n d os)
  · rw [← h.block i hi]
    have hs : (putRowK enc k (Sort.ahead w n) g off d).heap.size = w.heap.size := by rw [size_putRowK]; rfl
    have e1 : (sortWorldK enc k w g off n d os).heap[i]? = (putRowK enc k (Sort.ahead w n) g off d).heap[i]? := by
      show ((putRowK enc k (Sort.ahead w n) g off d).heap ++ os)[i]? = _
      rw [Array.getElem?_append_left (by omega)]
    rw [e1]
    show (w.heap.modify g _)[i]? = _
    rw [Array.getElem?_modify, if_neg (by omega)]
open Go.Sort in
theorem holdsK_of_own {α : Type} [Inhabited α] {E : α → List Value} {k g c base : Nat} {e : TypeId} {w : World} {d : Array α} (hk : ∀ x, (E x).length = k) (h : FRow E k e w base g c d) : HoldsK E k w g 0 d := fun j hj => by
  have hj2 : j < d.size * k := by simpa using hj
  rcases Nat.eq_zero_or_pos k with h0 | h0
  · subst h0; simp at hj2
  have hi : j / k < d.size := Nat.div_lt_of_lt_mul (by rw [Nat.mul_comm]; exact hj2)
  have hr : j % k < k := Nat.mod_lt _ h0
  have e : j / k * k + j % k = j := by rw [Nat.mul_comm]; exact Nat.div_add_mod j k
  have hc := h.cell hk (j / k) (j % k) hi hr
  rw [e] at hc
  refine ⟨?_, by rw [Nat.zero_add]; exact h.frozen j⟩
  rw [Nat.zero_add, hc, get_flatK _ _ _ _ hj2]
  have hl : j % k < (E d[j / k]!).length := by rw [hk]; exact hr
  rw [List.getElem?_eq_getElem hl, getElem!_pos (E d[j / k]!) (j % k) hl]
  rfl
open Go.Sort in
theorem Sl.of_holdsK {α : Type} [Inhabited α] {E : α → List Value} {k g : Nat} {w : World} {d : Array α} (hk : ∀ x, (E x).length = k) (h : HoldsK E k w g 0 d) (hg : g < w.heap.size) : Sl w w.heap.size (some ⟨g, 0, none⟩) (d.toList.flatMap E) := fun j u hj => by
  have hlt := (List.getElem?_eq_some_iff.1 hj).1
  rw [flat_length hk] at hlt
  have hj2 : j < d.size * k := by simpa using hlt
  rcases Nat.eq_zero_or_pos k with h0 | h0
  · subst h0; simp at hj2
  have hi : j / k < d.size := Nat.div_lt_of_lt_mul (by rw [Nat.mul_comm]; exact hj2)
  have hr : j % k < k := Nat.mod_lt _ h0
  have e : j / k * k + j % k = j := by rw [Nat.mul_comm]; exact Nat.div_add_mod j k
  have h3 := flat_get hk d.toList (j / k) (j % k) (by simpa using hi) hr
  rw [e] at h3
  have hc := (h.cell hi hr).1
  rw [Nat.zero_add, e] at hc
  refine ⟨_, rfl, hg, ?_⟩
  have e2 : (⟨g, 0, none⟩ : Addr).add j = ⟨g, j, none⟩ := by simp [Addr.add]; intro h; exact h.symm
  rw [e2, hc]
  have hl : j % k < (E d[j / k]!).length := by rw [hk]; exact hr
  rw [h3, List.getElem?_eq_getElem (by rw [hk]; exact hr)] at hj
  injection hj with hj
  rw [← hj, getElem!_pos (E d[j / k]!) (j % k) hl]
  congr 1
  simp only [getElem!_pos d (j / k) hi, Array.getElem_toList]
end Go.Proofs.Ytaamlidflfdjkaa.flat
/-
  Program-free: a row that is read, away from what turns.
-/
namespace Go.Proofs.Ytaamlidflfdjkaa.flat
open Go.RowKit bytes only
set_option linter.unusedVariables false

/-- a row that is read, in none of T's blocks -/
def Away (W : World) (T : Nat → Prop) (A : Option Addr) (xs : List Value) : Prop := ∀ j u, xs[j]? = some u → ∃ ad, A = some ad ∧ ad.block < W.heap.size ∧ ¬ T ad.block ∧ W.cell? (ad.add j) = some u
section
variable {W W2 : World} {T T2 : Nat → Prop} {A : Option Addr} {xs : List Value}
theorem Away.nil : Away W T A [] := fun j u h => by simp at h
theorem Away.sl (h : Away W T A xs) : Sl W W.heap.size A xs := fun j u hj => by
  obtain ⟨ad, e, hb, _, hc⟩ := h j u hj
  exact ⟨ad, e, hb, hc⟩
theorem Away.step (h : Away W T A xs) (o : Only T W W2) (hT : ∀ i, i < W.heap.size → ¬ T i → ¬ T2 i) : Away W2 T2 A xs := fun j u hj => by
  obtain ⟨ad, rfl, hb, hm, hc⟩ := h j u hj
  refine ⟨ad, rfl, Nat.lt_of_lt_of_le hb o.size, hT _ hb hm, ?_⟩
  rw [World.cell?_of_block (o.block _ (by rw [blk_add]; exact hb) (by rw [blk_add]; exact hm))]
  exact hc
theorem Away.below (h : Away W T A xs) (o : Below W.heap.size W W2) : Away W2 T A xs := h.step (Only.of_below o (Nat.le_refl _) _) fun _ _ e => e
/-- what was made behind all that turns -/
theorem Away.made {B : Nat} {e : TypeId} {k n c : Nat} (hk : 0 < k) (ho : W.ownsRow B e k (.slice A n c) n xs) (hT : ∀ i, T i → i < B) : Away W T A xs := fun j u hj => by
  have hn : 0 < n := by
    have := ho.1
    have hj2 := (List.getElem?_eq_some_iff.1 hj).1
    rcases Nat.eq_zero_or_pos n with h0 | h0
    · rw [h0] at this; omega
    · exact h0
  obtain ⟨ad, e4, hb, hc⟩ := Sl.of_ownK ho j u hj
  obtain ⟨g, k, e1, h1, h2, _⟩ := own_form ho hn
  injection e1 with e1 _ _
  rw [e1] at e4
  injection e4 with e4
  refine ⟨ad, by rw [e1, e4], hb, fun ht => ?_, hc⟩
  have := hT _ ht
  rw [← e4] at this
  exact absurd h1 (by simpa using this)
end
end Go.Proofs.Ytaamlidflfdjkaa.flat
/-
  Program-free: a row of the call's own of things of k cells each, by its list: which cell stands where, a thing put in another's place, a row just made, a copy of one row into another, a row's first part with no room behind it.
-/
namespace Go.Proofs.Ytaamlidflfdjkaa.flat
open Go.RowKit bytes only

section
variable {α : Type} {E : α → List Value} {k : Nat} {e : TypeId} {w : World} {base g c n : Nat} {l : List α}
theorem own_cellK (h : w.ownsRow base e k (.slice (some ⟨g, 0, none⟩) n c) n (l.flatMap E)) (hk : ∀ x, (E x).length = k) (hn : l.length ≤ n) (i j : Nat) (hi : i < l.length) (hj : j < k) : w.cell? ⟨g, i * k + j, none⟩ = (E l[i])[j]? := by
  have hle : i * k + j < n * k := Nat.lt_of_lt_of_le (Nat.add_lt_add_left hj _) (by rw [← Nat.succ_mul]; exact Nat.mul_le_mul_right _ (by omega))
  rw [World.ownsRow.cellAt h _ hle, flat_get hk _ i j hi hj]
theorem own_setK (h : w.ownsRow base e k (.slice (some ⟨g, 0, none⟩) n c) n (l.flatMap E)) (hk : ∀ x, (E x).length = k) (i : Nat) (x : α) (hi : i < l.length) : (w.setCells g (i * k) (E x)).ownsRow base e k (.slice (some ⟨g, 0, none⟩) n c) n ((l.set i x).flatMap E) := by
  have hle : i * k + k ≤ l.length * k := by rw [← Nat.succ_mul]; exact Nat.mul_le_mul_right _ hi
  have h2 := list_sets (E x) (l.flatMap E) (i * k) (by rw [flat_length hk, hk]; exact hle) h
  rw [flat_set hk _ _ _ hi]
  rwa [hk] at h2
end
section
variable {P : Program}
theorem run_copy_rowK (w : World) (dT sT ty elem : TypeId) (k g o dLen dCap : Nat) (a : Addr) (sLen sCap : Nat) (cur : Array Value) (t : TypeId) (cs : List Value)
    (hu : P.underlying dT = some (.slice elem)) (hs : (P.info? elem).map (·.size) = some k)
    (hg : w.heap[g]? = some (.cells cur t (0, 0))) (hn : cs.length = Nat.min sLen dLen * k)
    (hsrc : ∀ j v, cs[j]? = some v → w.cell? (a.add j) = some v) (hfit : o + cs.length ≤ cur.size) (h1 : ∀ v ∈ cs, v.oneCell' = true) :
    (Builtin.copy_ #[dT, sT] ty #[.slice (some ⟨g, o, none⟩) dLen dCap, .slice (some a) sLen sCap]).run P w =
      .ok (goInt (Nat.min sLen dLen)) (w.setRow g (cur.toList.take o ++ cs ++ cur.toList.drop (o + cs.length)).toArray) := by
  have hl := run_loadCells_list (P := P) w a cs hsrc
  have hst := run_storeCells_at P g o t cs 0 cur w hg (by simpa using hfit) h1
  cases hq : P.info? elem with
  | none => simp [hq] at hs
  | some i =>
    have hi : i.size = k := by simpa [hq] using hs
    simp [Builtin.copy_, run_underlying hu, Builtin.lenOf, Builtin.firstCells, sizeOf, typeInfo, hq, hi, ← hn, hl, hst]
theorem run_copy_nilK (w : World) (dT sT ty elem : TypeId) (a : Addr) (dLen dCap : Nat) (hu : P.underlying dT = some (.slice elem)) (hs : ((P.info? elem).map (·.size)).isSome = true) :
    (Builtin.copy_ #[dT, sT] ty #[.slice (some a) dLen dCap, .slice none 0 0]).run P w = .ok (goInt 0) w := run_copy_nil P w dT sT ty elem a dLen dCap hu hs
end
end Go.Proofs.Ytaamlidflfdjkaa.flat
/-
  Program-free: a row of structs that came in, with what is said of each one's data; what weighs on an element weighs on the row.
-/
namespace Go.Proofs.Ytaamlidflfdjkaa.came
open Go.RowKit law bytes
open Go.ChangeShapes Go.WideShapes Go.Deep Go.ChangeAt
section
variable {H : Type} {enc : TypeId × Value → H} {P : Program} {w : World} {base : Nat} {held : Bool}
theorem weighs {e : TypeId} {d : DataW H} : ∀ {l : List (DataW H)}, d ∈ l → ∀ n ∈ d.weights P e, n ∈ DataW.weightsAll P e l
  | [], hd, _, _ => by simp at hd
  | x :: l, hd, n, hn => by
    simp only [DataW.weightsAll, List.mem_append]
    rcases List.mem_cons.1 hd with rfl | hd
    · exact .inl hn
    · exact .inr (weighs hd n hn)
/-- what weighs on an element of a slice that reaches the law -/
theorem weighs_slice {ts : List TypeId} {ds : List (DataW H)} {j : Nat} {t e : TypeId} {el sp : List (DataW H)} {d : DataW H} (h : (DataW.weightsEach P ts ds).all (· ≤ reachBytes) = true) (hj : ts[j]? = some t) (hdj : ds[j]? = some (.slice el sp)) (ht : P.underlying t = some (.slice e)) (hd : d ∈ el) :
    ∀ n ∈ d.weights P e, n ≤ reachBytes := fun n hn => by
  have h1 := List.all_eq_true.1 h n (DataW.weights_mem_each hj hdj n (by
    simp only [DataW.weights, ht, List.mem_cons, List.mem_append]
    exact .inr (.inl (weighs hd n hn))))
  simpa using h1
theorem open_rowD {α : Type} {N : Nat} {r : Reach} {b0 : Nat} {t e : TypeId} {v : Value} {d : DataW H} {p : List MemPlace} {cells : α → List Value} {R : α → DataW H → Prop} (ht : P.underlying t = some (.slice e)) (hC : P.cellsOf e = N)
    (k : ∀ (fuel : Nat) (cs : List Value) (y : DataW H × List MemPlace), DataW.trod enc P w base (fun _ => true) held fuel e cs = some y → ∃ a, cs = cells a ∧ R a y.1)
    (hv : Value.okWide P w r b0 t v) (h : DataW.Trod enc P w base (fun _ => true) held t v d p) :
    ∃ A c, ∃ l : List α, v = .slice A l.length c ∧ Came N cells w A l ∧ (l = [] ∨ ∃ el sp, d = .slice el sp ∧ l.length ≤ el.length + sp.length ∧ ∀ i (hi : i < l.length), ∃ x ∈ el, R l[i] x) := by
  obtain ⟨A, len, cap, rfl⟩ := okWide_slice ht hv
  obtain ⟨fuel, hf⟩ := h
  rcases open_slice ht hf with ⟨hcs, hx⟩ | ⟨a, len', cap', m, n, D, Pl, hcs, _, hl, hm, hmm, hx, hi⟩
  · simp [Value.cells] at hcs
    obtain ⟨rfl, rfl, rfl⟩ := hcs
    exact ⟨none, 0, [], rfl, fun i hi => absurd hi (by simp), .inl rfl⟩
  · simp [Value.cells] at hcs
    obtain ⟨rfl, rfl, rfl⟩ := hcs
    simp only [if_true] at hmm
    have hex : ∀ i, i < len → ∃ q : α, (∀ j, j < N → w.cell? (a.add (i * N + j)) = (cells q)[j]?) ∧ R q (D i) := fun i hlt => by
      obtain ⟨cs', hc, hr⟩ := hi i (by omega)
      obtain ⟨q, rfl, hR⟩ := k _ _ _ hr
      rw [hC] at hc
      obtain ⟨-, -, hat⟩ := World.cells?_some hc
      refine ⟨q, fun j hj => ?_, hR⟩
      rw [← Go.Deep.add_add, hat j hj]
    obtain ⟨l, hl2, hR⟩ := list_of hex
    injection hx with hd hp
    refine ⟨some a, cap, l, by rw [hl2], fun i hi => ⟨a, rfl, (hR i (by omega) hi).1⟩, .inr ⟨_, _, hd, by simp; omega, fun i hi => ⟨D i, ?_, (hR i (by omega) hi).2⟩⟩⟩
    exact List.mem_map.2 ⟨i, List.mem_range.2 (by omega), rfl⟩
end
end Go.Proofs.Ytaamlidflfdjkaa.came
