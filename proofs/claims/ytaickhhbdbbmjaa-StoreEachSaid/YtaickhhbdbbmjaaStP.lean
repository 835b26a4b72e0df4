/-
  What a store is behind a Put, behind a Cut; the contract of Put.
-/
import Derived.Test.YtaickhhbdbbmjaaSt
import Derived.Deep.RegionHeld3
namespace Go.Proofs.Ytaickhhbdbbmjaa.store
open Go.RowKit law bytes only flat ord obj direct aro
set_option linter.unusedVariables false

section
variable {w W1 W2 W3 : World} {base sb ab db n : Nat} {T TA TD : Nat → Prop} {d : List (Option Kept)} {f : List Nat} {F : List (Int × Int)}
/-- a thing kept stays where it is, whatever an arena and a directory do -/
theorem Rd.stays {T' U' : Nat → Prop} {k : Kept} (h : Rd w T (Un sb TA TD) k) (hlt : ∀ i, T i → i < w.heap.size) (o1 : Below w.heap.size w W1) (o2 : Only TA W1 W2) (o3 : Only TD W2 W3) (hT : ∀ i, T i → T' i) (hU : ∀ i, T i → ¬ Un sb TA TD i → ¬ U' i) : Rd W3 T' U' k := by
  have h1 : Rd W1 T (Un sb TA TD) k := h.only (S := fun _ => False) (Only.of_below o1 (Nat.le_refl _) _) hlt fun _ _ _ e => e
  have h2 : Rd W2 T (Un sb TA TD) k := h1.only o2 (fun i e => Nat.lt_of_lt_of_le (hlt i e) o1.size) fun i _ hu e => hu (.inr (.inl e))
  have h3 : Rd W3 T (Un sb TA TD) k := h2.only o3 (fun i e => Nat.lt_of_lt_of_le (hlt i e) (Nat.le_trans o1.size o2.size)) fun i _ hu e => hu (.inr (.inr e))
  exact ⟨h3.1, fun j u hj => by
    obtain ⟨a, e, ht, hu, hc⟩ := h3.2 j u hj
    exact ⟨a, e, hT _ ht, hU _ ht hu, hc⟩⟩
theorem put_fin {base1 : Nat} {id : Int} {c : Nat} {x : Thing} {A : Option Addr} (h : Sx w base sb ab db T TA TD d f F n) (hB : base ≤ w.heap.size) (hfit : Fit x) (hn : fd F id = none) (o1 : Below w.heap.size w W1) (hb1 : w.heap.size ≤ base1) (hown : W1.ownsRow base1 21 1 (.slice A x.vec.length c) x.vec.length (iv x.vec))
    (ha : aro.Left W1 base ab TA (putD d f ⟨x, A, c⟩) f.dropLast W2) (hd : direct.Left W2 base db TD (putF F id (slotP d f : Int)) W3) : Left w base sb T (insM (its d F) id x) (n + 1) W3 := by
  obtain ⟨o2, TA', ha', hta⟩ := ha
  obtain ⟨o3, TD', hd', htd⟩ := hd
  have hinv := h.ar.inv
  have hpf : putF F id (slotP d f : Int) = ins F id (slotP d f : Int) := by unfold putF; rw [if_neg (by rw [hn]; simp)]
  rw [hpf] at hd'
  have s1 := o1.size
  have s2 := o2.size
  have s3 := o3.size
  have hTAlt : ∀ i, TA i → i < w.heap.size := fun i e => (h.low i (h.ta i e).1).2
  have hTDlt : ∀ i, TD i → i < w.heap.size := fun i e => (h.low i (h.td i e)).2
  have hsb := (h.low sb h.sb_.1).2
  have hstay : ∀ p ∈ F, gt (putD d f ⟨x, A, c⟩) p.2 = gt d p.2 := fun p hp => by
    obtain ⟨k, e, -⟩ := h.has p hp
    obtain ⟨m, hm, -⟩ := gt_some e
    rw [hm] at e ⊢
    rw [e]
    exact put_stays hinv e _
  have hnew : gt (putD d f ⟨x, A, c⟩) (slotP d f : Int) = some ⟨x, A, c⟩ := put_in hinv _
  have haway : ∀ p ∈ F, p.2 ≠ (slotP d f : Int) := fun p hp e2 => by
    obtain ⟨k, e, -⟩ := h.has p hp
    obtain ⟨m, hm, -⟩ := gt_some e
    rw [hm] at e
    exact put_away hinv e (by omega)
  have hmem : ∀ p ∈ ins F id (slotP d f : Int), p = (id, (slotP d f : Int)) ∨ p ∈ F := fun p hp => List.mem_cons.1 ((ins_perm hn).mem_iff.1 hp)
  have hUs : ∀ i, T i → ¬ Un sb TA TD i → ¬ Un sb TA' TD' i := fun i ht hu e => by
    have hlt := (h.low i ht).2
    rcases e with e | e | e
    · exact hu (.inl e)
    · rcases hta i e with e | e
      · exact hu (.inr (.inl e))
      · omega
    · rcases htd i e with e | e
      · exact hu (.inr (.inr e))
      · omega
  refine ⟨((Only.of_below o1 (Nat.le_refl _) T).trans o2 fun i e => .inl (h.ta i e).1).trans o3 fun i e => .inl (h.td i e), fun i => T i ∨ (w.heap.size ≤ i ∧ i < W3.heap.size), ⟨ab, db, TA', TD', _, f.dropLast, _, ⟨?_, ?_, hd', ⟨.inl h.sb_.1, fun e => ?_, fun e => ?_⟩, fun i e => ⟨?_, fun e2 => ?_⟩, fun i e => ?_, fun i e => ?_, fun p hp => ?_, fun p hp q hq e => ?_, ?_, ?_⟩, its_ins hstay (by rw [hnew]; rfl)⟩, fun i e => e.imp_right (·.1)⟩
  · exact Blk.only (Blk.only (h.blk.below o1 (by exact hsb)) o2 h.sb_.2.1) o3 h.sb_.2.2
  · exact ha'.only o3 fun i e e2 => by
      rcases hta i e with e1 | e1
      · exact (h.ta i e1).2 e2
      · have := hTDlt i e2; omega
  · rcases hta _ e with e | e
    · exact h.sb_.2.1 e
    · omega
  · rcases htd _ e with e | e
    · exact h.sb_.2.2 e
    · omega
  · have := (ha'.low e).2
    rcases hta i e with e1 | e1
    · exact .inl (h.ta i e1).1
    · exact .inr ⟨by omega, by omega⟩
  · have hi := (ha'.low e).2
    rcases htd i e2 with e3 | e3
    · rcases hta i e with e1 | e1
      · exact (h.ta i e1).2 e3
      · have := hTDlt i e3; omega
    · omega
  · have := (hd'.low e).2
    rcases htd i e with e1 | e1
    · exact .inl (h.td i e1)
    · exact .inr ⟨by omega, by omega⟩
  · rcases e with e | e
    · have := h.low i e; exact ⟨this.1, by omega⟩
    · exact ⟨by omega, e.2⟩
  · rcases hmem p hp with rfl | hp
    · refine ⟨_, hnew, hfit, fun j u hj => ?_⟩
      have hlen : 0 < x.vec.length := by
        have h1 : j < (iv x.vec).length := (List.getElem?_eq_some_iff.1 hj).1
        rw [iv_length] at h1
        omega
      obtain ⟨g, c', hv, hg1, hg2, _⟩ := own_form hown hlen
      injection hv with hA
      obtain ⟨a, e1, -, hc⟩ := Sl.of_own hown j u hj
      have hab : a.block = g := by
        rw [hA] at e1
        injection e1 with e1
        rw [← e1]
      have hU1 : ¬ TA g := fun e => by have := hTAlt g e; omega
      have hU2 : ¬ TD g := fun e => by have := hTDlt g e; omega
      refine ⟨a, e1, .inr ⟨by omega, by omega⟩, fun e => ?_, ?_⟩
      · rw [hab] at e
        rcases e with e | e | e
        · omega
        · rcases hta g e with e | e
          · exact hU1 e
          · omega
        · rcases htd g e with e | e
          · exact hU2 e
          · omega
      · rw [World.cell?_of_block (o3.block _ (by rw [blk_add]; omega) (by rw [blk_add, hab]; exact hU2)), World.cell?_of_block (o2.block _ (by rw [blk_add]; omega) (by rw [blk_add, hab]; exact hU1))]
        exact hc
    · obtain ⟨k, e, hk⟩ := h.has p hp
      exact ⟨k, by rw [hstay p hp, e], hk.stays (fun i e => (h.low i e).2) o1 o2 o3 (fun i e => .inl e) hUs⟩
  · rcases hmem p hp with rfl | hp <;> rcases hmem q hq with rfl | hq
    · rfl
    · exact absurd e.symm (haway q hq)
    · exact absurd e (haway p hp)
    · exact h.ap p hp q hq e
  · rw [ins_length hn]
    have := h.lenF
    omega
  · have h1 := putD_length d f (⟨x, A, c⟩ : Kept)
    have := h.lend
    omega
theorem cut_fin {id s : Int} (h : Sx w base sb ab db T TA TD d f F n) (hB : base ≤ w.heap.size) (hs : fd F id = some s) (o1 : Below w.heap.size w W1)
    (ha : aro.Left W1 base ab TA (cutD d s) (cutF d f s) W2) (hd : direct.Left W2 base db TD (del F id) W3) : Left w base sb T (delM (its d F) id) n W3 := by
  obtain ⟨o2, TA', ha', hta⟩ := ha
  obtain ⟨o3, TD', hd', htd⟩ := hd
  have s1 := o1.size
  have s2 := o2.size
  have s3 := o3.size
  have hTDlt : ∀ i, TD i → i < w.heap.size := fun i e => (h.low i (h.td i e)).2
  have hsb := (h.low sb h.sb_.1).2
  have hmem : ∀ p ∈ del F id, p ∈ F ∧ p.1 ≠ id := fun p hp => by simpa [del] using hp
  have hstay : ∀ p ∈ del F id, gt (cutD d s) p.2 = gt d p.2 := fun p hp => by
    obtain ⟨hp, hne⟩ := hmem p hp
    obtain ⟨k, e, -⟩ := h.has p hp
    obtain ⟨m, hm, -⟩ := gt_some e
    have hsp : s ≠ p.2 := fun e2 => by
      have := h.ap _ (fd_mem hs) p hp e2
      exact hne (by rw [← this])
    rw [hm] at e hsp ⊢
    rw [e]
    exact cut_stays hsp e
  have hUs : ∀ i, T i → ¬ Un sb TA TD i → ¬ Un sb TA' TD' i := fun i ht hu e => by
    have hlt := (h.low i ht).2
    rcases e with e | e | e
    · exact hu (.inl e)
    · rcases hta i e with e | e
      · exact hu (.inr (.inl e))
      · omega
    · rcases htd i e with e | e
      · exact hu (.inr (.inr e))
      · omega
  refine ⟨((Only.of_below o1 (Nat.le_refl _) T).trans o2 fun i e => .inl (h.ta i e).1).trans o3 fun i e => .inl (h.td i e), fun i => T i ∨ (w.heap.size ≤ i ∧ i < W3.heap.size), ⟨ab, db, TA', TD', _, cutF d f s, _, ⟨?_, ?_, hd', ⟨.inl h.sb_.1, fun e => ?_, fun e => ?_⟩, fun i e => ⟨?_, fun e2 => ?_⟩, fun i e => ?_, fun i e => ?_, fun p hp => ?_, fun p hp q hq e => ?_, ?_, ?_⟩, its_del hstay⟩, fun i e => e.imp_right (·.1)⟩
  · exact Blk.only (Blk.only (h.blk.below o1 (by exact hsb)) o2 h.sb_.2.1) o3 h.sb_.2.2
  · exact ha'.only o3 fun i e e2 => by
      rcases hta i e with e1 | e1
      · exact (h.ta i e1).2 e2
      · have := hTDlt i e2; omega
  · rcases hta _ e with e | e
    · exact h.sb_.2.1 e
    · omega
  · rcases htd _ e with e | e
    · exact h.sb_.2.2 e
    · omega
  · have := (ha'.low e).2
    rcases hta i e with e1 | e1
    · exact .inl (h.ta i e1).1
    · exact .inr ⟨by omega, by omega⟩
  · have hi := (ha'.low e).2
    rcases htd i e2 with e3 | e3
    · rcases hta i e with e1 | e1
      · exact (h.ta i e1).2 e3
      · have := hTDlt i e3; omega
    · omega
  · have := (hd'.low e).2
    rcases htd i e with e1 | e1
    · exact .inl (h.td i e1)
    · exact .inr ⟨by omega, by omega⟩
  · rcases e with e | e
    · have := h.low i e; exact ⟨this.1, by omega⟩
    · exact ⟨by omega, e.2⟩
  · obtain ⟨hp2, hne⟩ := hmem p hp
    obtain ⟨k, e, hk⟩ := h.has p hp2
    exact ⟨k, by rw [hstay p hp, e], hk.stays (fun i e => (h.low i e).2) o1 o2 o3 (fun i e => .inl e) hUs⟩
  · exact h.ap p (hmem p hp).1 q (hmem q hq).1 e
  · exact Nat.le_trans (del_length_le F id) h.lenF
  · rw [cutD_length]
    exact h.lend
end
/-- the store's two cells, and a box's four -/
def Cs (sb ab db gb : Nat) (id : Int) (x : Thing) (A : Option Addr) (c : Nat) (W : World) : Prop :=
  W.cell? ⟨sb, 0, none⟩ = some (.pointer (some ⟨ab, 0, none⟩)) ∧ W.cell? ⟨sb, 1, none⟩ = some (.pointer (some ⟨db, 0, none⟩)) ∧ W.cell? ⟨gb, 0, none⟩ = some (.int .u64 id) ∧ W.cell? ⟨gb, 1, none⟩ = some (.int .i64 x.tag) ∧ W.cell? ⟨gb, 2, none⟩ = some (.slice A x.vec.length c) ∧ W.cell? ⟨gb, 3, none⟩ = some (.string x.str)
/-- an item's value -/
def iV (id : Int) (k : Kept) : Value := .agg #[.int .u64 id, .int .i64 k.x.tag, .slice k.A k.x.vec.length k.c, .string k.x.str]
theorem cells4' {w : World} {b t : Nat} {x0 x1 x2 x3 : Value} (h : Blk w b t #[x0, x1, x2, x3]) : w.cell? ⟨b, 0, none⟩ = some x0 ∧ w.cell? ⟨b, 1, none⟩ = some x1 ∧ w.cell? ⟨b, 2, none⟩ = some x2 ∧ w.cell? ⟨b, 3, none⟩ = some x3 ∧ (∀ i, w.frozen? ⟨b, i, none⟩ = false) :=
  ⟨h.cell 0, h.cell 1, h.cell 2, h.cell 3, fun i => h.frozen i⟩
/-- a copy has been made -/
def P1 (V : World) (x : Thing) (A : Option Addr) (c : Nat) (W : World) : Prop := Below V.heap.size V W ∧ W.ownsRow V.heap.size 21 1 (.slice A x.vec.length c) x.vec.length (iv x.vec)
/-- it has been put into a slot -/
def P2 (V : World) (x : Thing) (base ab : Nat) (TA : Nat → Prop) (d : List (Option Kept)) (f : List Nat) (W : World) : Prop := ∃ A c W1, P1 V x A c W1 ∧ aro.Left W1 base ab TA (putD d f ⟨x, A, c⟩) f.dropLast W
set_option maxRecDepth 100000 in
set_option maxHeartbeats 3200000 in
theorem put_st {w : World} {base sb n : Nat} {T : Nat → Prop} {M : List (Int × Thing)} (h : St w base sb T M n) (id : Int) (x : Thing) (A : Option Addr) (c : Nat) (hs : Sl w w.heap.size A (iv x.vec)) (hfit : Fit x) (hB : base ≤ w.heap.size) (hm : n ≤ 2513169434916) :
    Calls Try.prog 10 #[.pointer (some ⟨sb, 0, none⟩), iV id ⟨x, A, c⟩] w fun e w' => e = .returned (.int .i64 (if (mf M id).isSome = true then 4 else 0)) ∧ Left w base sb T (putM M id x) (n + 1) w' := by
  have hIV : iV id ⟨x, A, c⟩ = .agg #[.int .u64 id, .int .i64 x.tag, .slice A x.vec.length c, .string x.str] := rfl
  have hb1 : Below w.heap.size w (w.alloc (.cells #[.int .u64 id, .int .i64 x.tag, .slice A x.vec.length c, .string x.str] 31)) := (Below.refl _ _).alloc (Nat.le_refl _) _
  have hgr := Blk.new w 31 #[.int .u64 id, .int .i64 x.tag, .slice A x.vec.length c, .string x.str]
  have HH := Lib.hid (has_st (h.below hb1) id)
  rw [hIV]
  cases hmf : (mf M id).isSome with
  | true =>
    have hp : putM M id x = M := by unfold putM; rw [if_pos hmf]
    rw [hp]
    rw [hmf] at HH
    have HL : Hid (∀ W, Below w.heap.size w W → Left w base sb T M (n + 1) W) := Lib.hid fun W hW => (h.more (Nat.le_succ n)).left hW
    have HB := Lib.hid hb1
    obtain ⟨c0, -⟩ := cells4' hgr
    clear h hs hgr hb1 hmf hp hIV
    go_enter Try.func10, Try.ntmps10
    go_wp2_with (fail)
    refine HH.out.mono ?_
    rintro e w1 ⟨rfl, hb⟩
    have HE := Lib.hid (HL.out w1 (HB.out.trans (hb.mono HB.out.size)))
    clear HH HL hb
    go_wp2_with (fail)
    go_ret
    exact ⟨rfl, HE.out⟩
  | false =>
    have hp : putM M id x = insM M id x := by unfold putM; rw [if_neg (by rw [hmf]; simp)]
    rw [hp]
    rw [hmf] at HH
    obtain ⟨ab, db, TA, TD, d, f, F, hx, rfl⟩ := h
    have hn : fd F id = none := by
      rw [mf_isSome] at hmf
      simpa using hmf
    generalize hV0 : w.alloc (.cells #[.int .u64 id, .int .i64 x.tag, .slice A x.vec.length c, .string x.str] 31) = V0 at hb1 hgr HH
    obtain ⟨gb, hgb⟩ : ∃ g, g = w.heap.size := ⟨_, rfl⟩
    rw [← hgb] at hgr
    have hcs : ∀ W, Below V0.heap.size V0 W → Cs sb ab db gb id x A c W := fun W hW => by
      have hx2 := (hx.below hb1).below hW
      obtain ⟨c0, c1, c2, c3, -⟩ := cells4' (hgr.below hW hgr.lt)
      exact ⟨hx2.blk.cell 0, hx2.blk.cell 1, c0, c1, c2, c3⟩
    have HCS := Lib.hid hcs
    have HG := Lib.hid hgb
    have c0 : V0.cell? ⟨w.heap.size, 0, none⟩ = some (.int .u64 id) := by rw [← hgb]; exact hgr.cell 0
    have HK : ∀ V, Below V0.heap.size V0 V →
        Hid (∀ W, Below V.heap.size V W → Calls Try.prog 28 #[.agg #[.int .i64 x.tag, .slice A x.vec.length c, .string x.str]] W fun e w' => ∃ A2 c2, e = .returned (.agg #[.int .i64 x.tag, .slice A2 x.vec.length c2, .string x.str]) ∧ P1 V x A2 c2 w') ∧
        Hid (∀ A2 c2 W, P1 V x A2 c2 W → Calls Try.prog 27 #[.pointer (some ⟨ab, 0, none⟩), .agg #[.int .i64 x.tag, .slice A2 x.vec.length c2, .string x.str]] W fun e w' => e = .returned (.int .i64 (slotP d f)) ∧ P2 V x base ab TA d f w') ∧
        Hid (∀ W, P2 V x base ab TA d f W → Calls Try.prog 26 #[.pointer (some ⟨db, 0, none⟩), .int .u64 id, .int .i64 (slotP d f)] W fun e w' => ∃ b, e = .returned (.bool b) ∧ Left w base sb T (insM (its d F) id x) (n + 1) w' ∧ Cs sb ab db gb id x A c w') ∧
        Hid (∀ A2 c2 W, P1 V x A2 c2 W → Cs sb ab db gb id x A c W) ∧ Hid (∀ W, P2 V x base ab TA d f W → Cs sb ab db gb id x A c W) := fun V hV => by
      have hwV : Below w.heap.size w V := hb1.trans (hV.mono hb1.size)
      have hgl := hgr.lt
      have hcell : ∀ W2 W3, (∀ i, TA i → i < w.heap.size) → (∀ i, TD i → i < w.heap.size) → ∀ W1, Below V.heap.size V W1 → Only TA W1 W2 → Only TD W2 W3 → Cs sb ab db gb id x A c W3 := fun W2 W3 hta htd W1 h1 h2 h3 => by
        have hg1 := Blk.only (Blk.only ((hgr.below hV hgl).below h1 (Nat.lt_of_lt_of_le hgl hV.size)) h2 fun e => by have := hta gb e; omega) h3 fun e => by have := htd gb e; omega
        have hs1 := Blk.only (Blk.only (((hx.blk.below hb1 hx.blk.lt).below hV (Nat.lt_of_lt_of_le hx.blk.lt hb1.size)).below h1 (Nat.lt_of_lt_of_le hx.blk.lt (Nat.le_trans hb1.size hV.size))) h2 hx.sb_.2.1) h3 hx.sb_.2.2
        obtain ⟨c0, c1, c2, c3, -⟩ := cells4' hg1
        exact ⟨hs1.cell 0, hs1.cell 1, c0, c1, c2, c3⟩
      have hTA : ∀ i, TA i → i < w.heap.size := fun i e => (hx.low i (hx.ta i e).1).2
      have hTD : ∀ i, TD i → i < w.heap.size := fun i e => (hx.low i (hx.td i e)).2
      have sV := hwV.size
      refine ⟨Lib.hid fun W hW => ?_, Lib.hid fun A2 c2 W hW => ?_, Lib.hid fun W hW => ?_, Lib.hid fun A2 c2 W hW => ?_, Lib.hid fun W hW => ?_⟩
      · have sW := hW.size
        exact (cloneO_any A c w.heap.size x W hfit.1 hfit.2 (by omega) (hs.below (hwV.trans (hW.mono sV)))).mono fun e w' ⟨A2, c2, he, ho, hb⟩ => ⟨A2, c2, he, hW.trans (hb.mono sW), own_base ho sW⟩
      · have hb := hwV.trans (hW.1.mono sV)
        have sW := hW.1.size
        exact (put_ar (hx.below hb).ar ⟨x, A2, c2⟩ (by omega) (Nat.le_trans hx.lend hm)).mono fun e w' ⟨he, hl⟩ => ⟨he, A2, c2, W, hW, hl⟩
      · obtain ⟨A2, c2, W1, hp1, hl⟩ := hW
        have hb := hwV.trans (hp1.1.mono sV)
        have hd2 := (hx.below hb).dy.only hl.1 fun i e1 e2 => (hx.ta i e2).2 e1
        have s1 := hb.size
        have s2 := hl.1.size
        have hlf := hx.lenF
        exact (direct.put_any hd2 id (slotP d f) (by omega) (by omega)).mono fun e w' ⟨he, hl2⟩ => ⟨_, he, put_fin hx hB hfit hn hb sV hp1.2 hl hl2, hcell _ _ hTA hTD W1 hp1.1 hl.1 hl2.1⟩
      · exact hcell W W hTA hTD W hW.1 (Only.refl _ _) (Only.refl _ _)
      · obtain ⟨A2, c2, W1, hp1, hl⟩ := hW
        exact hcell W W hTA hTD W1 hp1.1 hl.1 (Only.refl _ _)
    have HKH := Lib.hid HK
    clear hx hs hgr hb1 hmf hp hIV hgb hcs HK hn
    go_enter Try.func10, Try.ntmps10
    go_wp2_with (fail)
    rw [← HG.out]
    refine HH.out.mono ?_
    rintro e V ⟨rfl, hb⟩
    obtain ⟨H1, H2, H3, H4, H5⟩ := HKH.out V hb
    have H0 : Hid (∀ W, Below V.heap.size V W → Cs sb ab db gb id x A c W) := Lib.hid fun W hW => HCS.out W (hb.trans (hW.mono hb.size))
    clear HKH HCS HH
    generalize hsl : ((slotP d f : Nat) : Int) = sl at H2 H3
    go_wp2_with (fail)
    go_region_held3 (fun W => W.cell? ⟨sb, 0, none⟩ = some (.pointer (some ⟨ab, 0, none⟩)) ∧ W.cell? ⟨sb, 1, none⟩ = some (.pointer (some ⟨db, 0, none⟩)) ∧ W.cell? ⟨gb, 0, none⟩ = some (.int .u64 id) ∧ W.cell? ⟨gb, 1, none⟩ = some (.int .i64 x.tag) ∧ W.cell? ⟨gb, 2, none⟩ = some (.slice A x.vec.length c) ∧ W.cell? ⟨gb, 3, none⟩ = some (.string x.str))
      (first
        | exact H0.out _ (Below.drew (Below.refl _ _))
        | exact H4.out _ _ _ (by with_reducible assumption)
        | exact H5.out _ (by with_reducible assumption)
        | exact (show Cs sb ab db gb id x A c _ by with_reducible assumption))
      (first
        | (go_at_call 28; (with_reducible refine (H1.out _ (Below.drew (Below.refl _ _))).mono ?_); rintro e w5 ⟨A2, c2, rfl, hp1⟩)
        | (go_at_call 27; (with_reducible refine (H2.out _ _ _ (by with_reducible assumption)).mono ?_); rintro e w6 ⟨rfl, hp2⟩)
        | (go_at_call 26; (with_reducible refine (H3.out _ (by with_reducible assumption)).mono ?_); rintro e w7 ⟨b, rfl, hp3, hcs⟩))
    go_wp2_with (fail)
    go_ret
    exact ⟨rfl, hp3⟩
end Go.Proofs.Ytaickhhbdbbmjaa.store
