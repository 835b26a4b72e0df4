/-
  A store in memory; the contracts of New, own, Get, Has, Len.
-/
import Derived.Test.YtaickhhbdbbmjaaStM
import Derived.Test.YtaickhhbdbbmjaaAoT
import Derived.Test.YtaickhhbdbbmjaaDirP
import Derived.Test.YtaickhhbdbbmjaaClo
namespace Go.Proofs.Ytaickhhbdbbmjaa.store
open Go.RowKit law bytes only flat ord obj direct aro
set_option linter.unusedVariables false

/-- a thing that can be copied -/
def Fit (x : Thing) : Prop := x.vec.length * 4 ≤ 140737488355328 ∧ x.str.size ≤ 281474976710656
/-- a thing that is kept in T's memory, but not in U's -/
def Rd (w : World) (T U : Nat → Prop) (k : Kept) : Prop := Fit k.x ∧ ∀ j u, (iv k.x.vec)[j]? = some u → ∃ a, k.A = some a ∧ T a.block ∧ ¬ U a.block ∧ w.cell? (a.add j) = some u
/-- what a store's methods turn -/
def Un (sb : Nat) (TA TD : Nat → Prop) (i : Nat) : Prop := i = sb ∨ TA i ∨ TD i
/-- a store at block sb: an arena, a directory, all that it has in T -/
structure Sx (w : World) (base sb ab db : Nat) (T TA TD : Nat → Prop) (d : List (Option Kept)) (f : List Nat) (F : List (Int × Int)) (n : Nat) : Prop where
  blk : Blk w sb 61 #[.pointer (some ⟨ab, 0, none⟩), .pointer (some ⟨db, 0, none⟩)]
  ar : aro.Ar w base ab TA d f
  dy : direct.Dy w base db TD F
  sb_ : T sb ∧ ¬ TA sb ∧ ¬ TD sb
  ta : ∀ i, TA i → T i ∧ ¬ TD i
  td : ∀ i, TD i → T i
  low : ∀ i, T i → base ≤ i ∧ i < w.heap.size
  has : ∀ p ∈ F, ∃ k, gt d p.2 = some k ∧ Rd w T (Un sb TA TD) k
  ap : ∀ p ∈ F, ∀ q ∈ F, p.2 = q.2 → p = q
  lenF : F.length ≤ n
  lend : d.length ≤ n
/-- a store at block sb with the things M; T is all that it has; there were never more than n -/
def St (w : World) (base sb : Nat) (T : Nat → Prop) (M : List (Int × Thing)) (n : Nat) : Prop := ∃ ab db TA TD d f F, Sx w base sb ab db T TA TD d f F n ∧ its d F = M
/-- what a method leaves -/
def Left (w : World) (base sb : Nat) (T : Nat → Prop) (M : List (Int × Thing)) (n : Nat) (w' : World) : Prop := Only T w w' ∧ ∃ T', St w' base sb T' M n ∧ ∀ i, T' i → T i ∨ w.heap.size ≤ i
section
variable {w w' : World} {base sb ab db n : Nat} {T TA TD S U : Nat → Prop} {d : List (Option Kept)} {f : List Nat} {F : List (Int × Int)} {M : List (Int × Thing)} {k : Kept}
theorem Rd.only (h : Rd w T U k) (o : Only S w w') (hT : ∀ i, T i → i < w.heap.size) (hS : ∀ i, T i → ¬ U i → ¬ S i) : Rd w' T U k := ⟨h.1, fun j u hj => by
  obtain ⟨a, e, ht, hu, hc⟩ := h.2 j u hj
  refine ⟨a, e, ht, hu, ?_⟩
  rw [World.cell?_of_block (o.block _ (by rw [blk_add]; exact hT _ ht) (by rw [blk_add]; exact hS _ ht hu))]
  exact hc⟩
theorem Rd.sl (h : Rd w T U k) (hT : ∀ i, T i → i < w.heap.size) : Sl w w.heap.size k.A (iv k.x.vec) := fun j u hj => by
  obtain ⟨a, e, ht, _, hc⟩ := h.2 j u hj
  exact ⟨a, e, hT _ ht, hc⟩
theorem Sx.only (h : Sx w base sb ab db T TA TD d f F n) (o : Only S w w') (hS : ∀ i, T i → ¬ S i) : Sx w' base sb ab db T TA TD d f F n :=
  ⟨Blk.only h.blk o (hS _ h.sb_.1), h.ar.only o fun i e => hS i (h.ta i e).1, h.dy.only o fun i e => hS i (h.td i e), h.sb_, h.ta, h.td, fun i e => ⟨(h.low i e).1, Nat.lt_of_lt_of_le (h.low i e).2 o.size⟩,
    fun p hp => by
      obtain ⟨k, e, hk⟩ := h.has p hp
      exact ⟨k, e, hk.only o (fun i e => (h.low i e).2) fun i e _ => hS i e⟩, h.ap, h.lenF, h.lend⟩
theorem St.only (h : St w base sb T M n) (o : Only S w w') (hS : ∀ i, T i → ¬ S i) : St w' base sb T M n := by
  obtain ⟨ab, db, TA, TD, d, f, F, hx, e⟩ := h
  exact ⟨ab, db, TA, TD, d, f, F, hx.only o hS, e⟩
theorem Sx.below (h : Sx w base sb ab db T TA TD d f F n) (o : Below w.heap.size w w') : Sx w' base sb ab db T TA TD d f F n := h.only (S := fun _ => False) (Only.of_below o (Nat.le_refl _) _) fun _ _ e => e
theorem St.below (h : St w base sb T M n) (o : Below w.heap.size w w') : St w' base sb T M n := h.only (S := fun _ => False) (Only.of_below o (Nat.le_refl _) _) fun _ _ e => e
theorem St.low (h : St w base sb T M n) {i : Nat} (hi : T i) : base ≤ i ∧ i < w.heap.size := by
  obtain ⟨ab, db, TA, TD, d, f, F, hx, e⟩ := h
  exact hx.low i hi
theorem St.len (h : St w base sb T M n) : M.length ≤ n := by
  obtain ⟨ab, db, TA, TD, d, f, F, hx, rfl⟩ := h
  rw [its_length]
  exact hx.lenF
theorem St.more (h : St w base sb T M n) {m : Nat} (hm : n ≤ m) : St w base sb T M m := by
  obtain ⟨ab, db, TA, TD, d, f, F, hx, e⟩ := h
  exact ⟨ab, db, TA, TD, d, f, F, { hx with lenF := Nat.le_trans hx.lenF hm, lend := Nat.le_trans hx.lend hm }, e⟩
theorem St.left (h : St w base sb T M n) (o : Below w.heap.size w w') : Left w base sb T M n w' := ⟨Only.of_below o (Nat.le_refl _) _, T, h.below o, fun i e => .inl e⟩
theorem Left.below {N : List (Int × Thing)} {m : Nat} (h : Left w base sb T N m w') (h0 : St w base sb T M n) (hB : base ≤ w.heap.size) : Below base w w' := h.1.below hB fun i e => (h0.low e).1
end
theorem new_st (w : World) : Calls Try.prog 7 #[] w fun e w' => ∃ sb T, e = .returned (.pointer (some ⟨sb, 0, none⟩)) ∧ Below w.heap.size w w' ∧ St w' w.heap.size sb T [] 0 := by
  have HA := Lib.hid (new_ar w)
  have HD := Lib.hid (fun W => new_dy W)
  go_enter Try.func7, Try.ntmps7
  go_wp2_with (fail)
  refine HA.out.mono ?_
  rintro e w1 ⟨ab, TA, rfl, hb1, ha⟩
  go_wp2_with (fail)
  refine (HD.out w1).mono ?_
  rintro e w2 ⟨db, TD, rfl, hb2, hd⟩
  have HE : Hid (Below w.heap.size w (w2.alloc (.cells #[.pointer (some ⟨ab, 0, none⟩), .pointer (some ⟨db, 0, none⟩)] 61)) ∧ ∃ T, St (w2.alloc (.cells #[.pointer (some ⟨ab, 0, none⟩), .pointer (some ⟨db, 0, none⟩)] 61)) w.heap.size w2.heap.size T [] 0) := Lib.hid (by
    have s1 := hb1.size
    have s2 := hb2.size
    have hb3 : Below w2.heap.size w2 (w2.alloc (.cells #[.pointer (some ⟨ab, 0, none⟩), .pointer (some ⟨db, 0, none⟩)] 61)) := (Below.refl _ _).alloc (Nat.le_refl _) _
    have ha3 := (ha.below hb2 (Nat.le_refl _)).below hb3 (Nat.le_refl _)
    have hd3 := hd.below hb3 (Nat.le_refl _)
    have hd4 : direct.Dy (w2.alloc (.cells #[.pointer (some ⟨ab, 0, none⟩), .pointer (some ⟨db, 0, none⟩)] 61)) w.heap.size db TD [] := by
      obtain ⟨t, h1, h2, h3⟩ := hd3
      exact ⟨t, ⟨h1.blk, h1.tree, h1.nodup, fun i hi => Nat.le_trans s1 (h1.low i hi), h1.rise⟩, h2, h3⟩
    refine ⟨(hb1.trans (hb2.mono s1)).trans (hb3.mono (by omega)), fun i => i = w2.heap.size ∨ TA i ∨ TD i, ab, db, TA, TD, [], [], [], ⟨Blk.new _ _ _, ha3, hd4, ⟨.inl rfl, fun e => ?_, fun e => ?_⟩, fun i e => ⟨.inr (.inl e), fun e2 => ?_⟩, fun i e => .inr (.inr e), fun i e => ?_, fun p hp => by simp at hp, fun p hp => by simp at hp, Nat.le_refl _, Nat.le_refl _⟩, rfl⟩
    · have := (ha.low e).2; omega
    · have := (hd.low e).2; omega
    · have h1 := (ha.low e).2
      have h2 := (hd.low e2).1
      omega
    · rw [World.size_alloc]
      rcases e with rfl | e | e
      · omega
      · have := ha.low e; omega
      · have := hd.low e; omega)
  clear HA HD hb1 ha hb2 hd
  go_wp2_with (fail)
  go_ret
  obtain ⟨h1, T, h2⟩ := HE.out
  exact ⟨_, T, rfl, h1, h2⟩
/-- a slice that lies in T's memory -/
def Tl (w : World) (T : Nat → Prop) (A : Option Addr) (xs : List Value) : Prop := ∀ j u, xs[j]? = some u → ∃ a, A = some a ∧ T a.block ∧ w.cell? (a.add j) = some u
section
variable {w w' : World} {T S : Nat → Prop} {A : Option Addr} {xs : List Value} {B : Nat}
theorem Tl.nil : Tl w T A [] := fun j u h => by simp at h
theorem Tl.sl (h : Tl w T A xs) (hT : ∀ i, T i → i < B) : Sl w B A xs := fun j u hj => by
  obtain ⟨a, e, ht, hc⟩ := h j u hj
  exact ⟨a, e, hT _ ht, hc⟩
theorem Tl.only (h : Tl w T A xs) (o : Only S w w') (hT : ∀ i, T i → i < w.heap.size) (hS : ∀ i, T i → ¬ S i) : Tl w' T A xs := fun j u hj => by
  obtain ⟨a, e, ht, hc⟩ := h j u hj
  refine ⟨a, e, ht, ?_⟩
  rw [World.cell?_of_block (o.block _ (by rw [blk_add]; exact hT _ ht) (by rw [blk_add]; exact hS _ ht))]
  exact hc
theorem Tl.back (h : Tl w' T A xs) (o : Below B w w') (hT : ∀ i, T i → i < B) : Tl w T A xs := fun j u hj => by
  obtain ⟨a, e, ht, hc⟩ := h j u hj
  exact ⟨a, e, ht, (o.cell (by rw [blk_add]; exact hT _ ht)).symm.trans hc⟩
end
/-- what a number's thing is told as -/
def OwnP (w : World) (T : Nat → Prop) (x : Option Thing) (e : Ending) (w' : World) : Prop := ∃ A c, e = .returned (.tuple #[kV ⟨x.getD zeroO, A, c⟩, .bool x.isSome]) ∧ Tl w T A (iv (x.getD zeroO).vec) ∧ Fit (x.getD zeroO) ∧ Below w.heap.size w w'
/-- a box of three cells that was made since, and written -/
theorem box_below {w V W : World} {g : Nat} (h1 : Below w.heap.size w V) (h2 : Below V.heap.size V W) (hg : g = w.heap.size) (u0 u1 u2 : Value) : Below w.heap.size w (((W.setCell ⟨g, 0, none⟩ u0).setCell ⟨g, 1, none⟩ u1).setCell ⟨g, 2, none⟩ u2) :=
  Below.three (h1.trans (h2.mono h1.size)) (by omega) _ _ _
theorem zero_sl (w : World) (B : Nat) (A : Option Addr) : Sl w B A (iv zeroO.vec) := Sl.nil
theorem zero_fit : Fit zeroO := ⟨by decide, by decide⟩
set_option maxRecDepth 100000 in
set_option maxHeartbeats 1600000 in
theorem own_st {w : World} {base sb n : Nat} {T : Nat → Prop} {M : List (Int × Thing)} (h : St w base sb T M n) (id : Int) :
    Calls Try.prog 29 #[.pointer (some ⟨sb, 0, none⟩), .int .u64 id] w (OwnP w T (mf M id)) := by
  obtain ⟨ab, db, TA, TD, d, f, F, hx, rfl⟩ := h
  have hb1 : Below w.heap.size w (w.alloc (.cells #[.int .i64 0, .slice none 0 0, .string ⟨#[]⟩] 29)) := (Below.refl _ _).alloc (Nat.le_refl _) _
  have hx1 := hx.below hb1
  have c1 : (w.alloc (.cells #[.int .i64 0, .slice none 0 0, .string ⟨#[]⟩] 29)).cell? ⟨sb, 1, none⟩ = some (.pointer (some ⟨db, 0, none⟩)) := hx1.blk.cell 1
  have hgr := Blk.new w 29 #[.int .i64 0, .slice none 0 0, .string ⟨#[]⟩]
  have HF := Lib.hid (find_dy hx1.dy id)
  generalize hV : w.alloc (.cells #[.int .i64 0, .slice none 0 0, .string ⟨#[]⟩] 29) = V at hb1 hx1 c1 hgr HF
  obtain ⟨g, hg⟩ : ∃ g, g = w.heap.size := ⟨_, rfl⟩
  have hm := mf_its d F id
  rw [← hg] at hgr
  cases hf : fd F id with
  | none =>
    have hE : mf (its d F) id = none := by rw [hm, hf]; rfl
    rw [hE]
    rw [hf] at HF
    have HB := Lib.hid hb1
    have HG := Lib.hid hg
    have hgl := hgr.lt
    have HR := Lib.hid hgr
    clear hx hx1 hf hm hE hb1 hg hgr
    go_enter Try.func29, Try.ntmps29
    go_wp2_with (fail)
    rw [← HG.out]
    refine HF.out.mono ?_
    rintro e w1 ⟨rfl, hb⟩
    obtain ⟨q0, q1, q2, qf⟩ := cells3 (HR.out.below hb hgl)
    go_wp2_with (fail)
    refine bodyPost_ret (v := .tuple #[kV ⟨zeroO, none, 0⟩, .bool false]) (by simp [results, Try.results29, go_sem, q0, q1, q2, kV, zeroO]) rfl ?_
    exact ⟨none, 0, rfl, Tl.nil, zero_fit, box_below HB.out hb HG.out _ _ _⟩
  | some s =>
    obtain ⟨k, hk, hrd⟩ := hx1.has _ (fd_mem hf)
    have hsl := Rd.sl hrd fun i e => (hx1.low i e).2
    have hE : mf (its d F) id = some k.x := by rw [hm, hf]; show some (kx (gt d s)).x = _; rw [hk]; rfl
    rw [hE]
    rw [hf] at HF
    have HB := Lib.hid hb1
    have HG := Lib.hid hg
    have hgl := hgr.lt
    have HR := Lib.hid hgr
    have c0 : ∀ W, Below V.heap.size V W → W.cell? ⟨sb, 0, none⟩ = some (.pointer (some ⟨ab, 0, none⟩)) ∧ Calls Try.prog 41 #[.pointer (some ⟨ab, 0, none⟩), .int .i64 s] W fun e w' => e = .returned (.tuple #[.agg #[.int .i64 k.x.tag, .slice k.A k.x.vec.length k.c, .string k.x.str], .bool true]) ∧ Below W.heap.size W w' := fun W hW => by
      have hx2 := hx1.below hW
      have hc := get_ar hx2.ar s
      rw [hk] at hc
      exact ⟨hx2.blk.cell 0, hc⟩
    have HC := Lib.hid c0
    have HFit := Lib.hid hrd.1
    have HS : Hid (Tl w T k.A (iv k.x.vec)) := Lib.hid fun j u hj => by
      obtain ⟨a, e, ht, _, hc⟩ := hrd.2 j u hj
      have hlt := ((hx.low _ ht).2)
      refine ⟨a, e, ht, ?_⟩
      rw [← hV, World.cell?_alloc_lt _ _ _ (by rw [blk_add]; exact hlt)] at hc
      exact hc
    clear hx hx1 hf hm hE hb1 hg hgr hk hrd hsl c0
    go_enter Try.func29, Try.ntmps29
    go_wp2_with (fail)
    rw [← HG.out]
    refine HF.out.mono ?_
    rintro e w1 ⟨rfl, hb⟩
    obtain ⟨c0, hcall⟩ := HC.out w1 hb
    have HCL := Lib.hid hcall
    clear hcall HC HF
    go_wp2_with (fail)
    refine HCL.out.mono ?_
    rintro e w2 ⟨rfl, hb2⟩
    have HR2 := (HR.out.below hb hgl).below hb2 (Nat.lt_of_lt_of_le hgl hb.size)
    obtain ⟨q0, q1, q2, qf⟩ := cells3 HR2
    go_wp2_with (fail)
    refine bodyPost_ret (v := .tuple #[kV ⟨k.x, k.A, k.c⟩, .bool true]) (by simp [results, Try.results29, go_sem, q0, q1, q2, kV]) rfl ?_
    exact ⟨k.A, k.c, rfl, HS.out, HFit.out, box_below HB.out (hb.trans (hb2.mono hb.size)) HG.out _ _ _⟩
set_option maxHeartbeats 1600000 in
theorem has_st {w : World} {base sb n : Nat} {T : Nat → Prop} {M : List (Int × Thing)} (h : St w base sb T M n) (id : Int) :
    Calls Try.prog 14 #[.pointer (some ⟨sb, 0, none⟩), .int .u64 id] w fun e w' => e = .returned (.bool (mf M id).isSome) ∧ Below w.heap.size w w' := by
  have HO := Lib.hid (own_st h id)
  clear h
  generalize mf M id = o at HO ⊢
  go_enter Try.func14, Try.ntmps14
  go_wp2_with (fail)
  refine HO.out.mono ?_
  rintro e w1 ⟨A, c, rfl, -, -, hb⟩
  have HV : kV ⟨o.getD zeroO, A, c⟩ = .agg #[.int .i64 (o.getD zeroO).tag, .slice A (o.getD zeroO).vec.length c, .string (o.getD zeroO).str] := rfl
  rw [HV]
  clear HV
  generalize o.getD zeroO = x
  go_wp2_with (fail)
  go_ret
  exact ⟨rfl, hb.alloc hb.size _⟩
theorem len_st {w : World} {base sb n : Nat} {T : Nat → Prop} {M : List (Int × Thing)} (h : St w base sb T M n) :
    Calls Try.prog 16 #[.pointer (some ⟨sb, 0, none⟩)] w fun e w' => e = .returned (.int .i64 M.length) ∧ Below w.heap.size w w' := by
  obtain ⟨ab, db, TA, TD, d, f, F, hx, rfl⟩ := h
  have HL := Lib.hid (len_dy hx.dy)
  have c1 : w.cell? ⟨sb, 1, none⟩ = some (.pointer (some ⟨db, 0, none⟩)) := hx.blk.cell 1
  rw [its_length]
  clear hx
  go_enter Try.func16, Try.ntmps16
  go_wp2_with (fail)
  refine HL.out.mono ?_
  rintro e w1 ⟨rfl, rfl⟩
  go_wp2_with (fail)
  go_ret
  exact ⟨rfl, by first | exact Below.refl _ _ | exact (Below.refl _ _).drew⟩
/-- a thing in memory of the call's own, and whether there is one -/
def GetP (w : World) (x : Option Thing) (e : Ending) (w' : World) : Prop := ∃ A c, e = .returned (.tuple #[kV ⟨x.getD zeroO, A, c⟩, .bool x.isSome]) ∧ w'.ownsRow w.heap.size 21 1 (.slice A (x.getD zeroO).vec.length c) (x.getD zeroO).vec.length (iv (x.getD zeroO).vec) ∧ Below w.heap.size w w'
set_option maxRecDepth 100000 in
set_option maxHeartbeats 1600000 in
theorem get_st {w : World} {base sb n : Nat} {T : Nat → Prop} {M : List (Int × Thing)} (h : St w base sb T M n) (id : Int) :
    Calls Try.prog 12 #[.pointer (some ⟨sb, 0, none⟩), .int .u64 id] w (GetP w (mf M id)) := by
  have hb1 : Below w.heap.size w (w.alloc (.cells #[.int .i64 0, .slice none 0 0, .string ⟨#[]⟩] 29)) := (Below.refl _ _).alloc (Nat.le_refl _) _
  have hgr := Blk.new w 29 #[.int .i64 0, .slice none 0 0, .string ⟨#[]⟩]
  have HO := Lib.hid (own_st (h.below hb1) id)
  have HT := Lib.hid (fun i (e : T i) => ((h.below hb1).low e).2)
  clear h
  generalize hV : w.alloc (.cells #[.int .i64 0, .slice none 0 0, .string ⟨#[]⟩] 29) = V at hb1 hgr HO HT
  obtain ⟨g, hg⟩ : ∃ g, g = w.heap.size := ⟨_, rfl⟩
  rw [← hg] at hgr
  have HB := Lib.hid hb1
  have HG := Lib.hid hg
  have hgl := hgr.lt
  have HR := Lib.hid hgr
  clear hb1 hg hgr
  generalize mf M id = o at HO ⊢
  go_enter Try.func12, Try.ntmps12
  go_wp2_with (fail)
  rw [← HG.out]
  refine HO.out.mono ?_
  rintro e w1 ⟨A, c, rfl, hs0, hfit, hb⟩
  have hs := hs0.sl (B := V.heap.size) HT.out
  clear hs0
  have HV : kV ⟨o.getD zeroO, A, c⟩ = .agg #[.int .i64 (o.getD zeroO).tag, .slice A (o.getD zeroO).vec.length c, .string (o.getD zeroO).str] := rfl
  rw [HV]
  have hw1 : Below w1.heap.size w1 (w1.alloc (.cells #[.int .i64 (o.getD zeroO).tag, .slice A (o.getD zeroO).vec.length c, .string (o.getD zeroO).str] 29)) := (Below.refl _ _).alloc (Nat.le_refl _) _
  have HC := Lib.hid (cloneO_any A c V.heap.size (o.getD zeroO) (w1.alloc (.cells #[.int .i64 (o.getD zeroO).tag, .slice A (o.getD zeroO).vec.length c, .string (o.getD zeroO).str] 29)) hfit.1 hfit.2 (Nat.le_trans hb.size hw1.size) ((hs.below hb).alloc hb.size _))
  have HB2 := Lib.hid (hb.trans (hw1.mono hb.size))
  clear HV hs hfit hb hw1 HO
  generalize hx : o.getD zeroO = x at HC HB2 ⊢
  go_wp2_with (fail)
  refine HC.out.mono ?_
  rintro e w3 ⟨A3, c3, rfl, hown, hb3⟩
  have HB3 := Lib.hid (HB2.out.trans (hb3.mono HB2.out.size))
  have hgl3 : g < (w1.alloc (.cells #[.int .i64 x.tag, .slice A x.vec.length c, .string x.str] 29)).heap.size := Nat.lt_of_lt_of_le hgl HB2.out.size
  obtain ⟨q0, q1, q2, qf⟩ := cells3 (HR.out.below HB3.out hgl)
  have HE : Hid ((((w3.setCell ⟨g, 0, none⟩ (.int .i64 x.tag)).setCell ⟨g, 1, none⟩ (.slice A3 x.vec.length c3)).setCell ⟨g, 2, none⟩ (.string x.str)).ownsRow w.heap.size 21 1 (.slice A3 x.vec.length c3) x.vec.length (iv x.vec)) :=
    Lib.hid (own_base (own_three hown hgl3 _ _ _) (Nat.le_trans HB.out.size HB2.out.size))
  clear hown hb3 HC hgl3
  go_wp2_with (fail)
  refine bodyPost_ret (v := .tuple #[kV ⟨x, A3, c3⟩, .bool o.isSome]) (by simp [results, Try.results12, go_sem, q0, q1, q2, kV]) rfl ?_
  refine ⟨A3, c3, ?_, ?_, box_below HB.out HB3.out HG.out _ _ _⟩
  · rw [hx]
  · rw [hx]
    exact HE.out
end Go.Proofs.Ytaickhhbdbbmjaa.store
