/-
  The law FaultNone walked.
-/
import Derived.Test.YtonedffhfljmpaaDoorLive4
import Derived.WalkSpells
namespace Go.Proofs.YtonedffhfljmpaaDoor.fault
open Go.RowKit Go.Lib law bytes strc build
set_option linter.unusedVariables false

theorem new_below (s : ByteArray) (w : World) : Calls Tryd.prog 11 #[.string s] w fun e w' => ∃ g, e = .returned (.iface 55 (ptr g)) ∧ Below w.heap.size w w' :=
  (new_any s w).mono fun e w' ⟨he, hw⟩ => ⟨_, he, hw ▸ (Below.refl _ _).alloc (Nat.le_refl _) _⟩
/-- a new fault -/
def NewFault (op : ByteArray) (p i : Int) (err : Value) (w : World) (e : Ending) (w' : World) : Prop := ∃ g, e = .returned (flt g) ∧ Below w.heap.size w w' ∧ Flt w' g op p i err
theorem wrap_below (op : ByteArray) (p i : Int) (t : TypeId) (x : Value) (w : World) : Calls Tryd.prog 10 #[.string op, .int .i64 p, .int .u64 i, .iface t x] w (NewFault op p i (.iface t x) w) :=
  (wrap_any op p i t x w).mono fun e w' ⟨he, hw⟩ => ⟨_, he, hw ▸ (Below.refl _ _).alloc (Nat.le_refl _) _, hw ▸ Blk.new _ _ _⟩
theorem bcell {W w1 : World} (hb : Below W.heap.size W w1) : (∀ b o, b < W.heap.size → w1.cell? ⟨b, o, none⟩ = W.cell? ⟨b, o, none⟩) ∧ (∀ b o, b < W.heap.size → w1.frozen? ⟨b, o, none⟩ = W.frozen? ⟨b, o, none⟩) :=
  ⟨fun b o h => hb.cell (p := ⟨b, o, none⟩) h, fun b o h => hb.frozen (p := ⟨b, o, none⟩) h⟩

/-- what a bare fault's text begins with, and how it ends -/
def wantL (op : List UInt8) (p : Int) : List UInt8 := op ++ [32, 97, 116, 32] ++ itoa p ++ [32, 111, 102, 32]
def gotL (op : List UInt8) (p : Int) (i : Nat) : List UInt8 := wantL op p ++ decDigits i ++ [58, 32, 110, 111, 116, 104, 105, 110, 103]
theorem got_eq (g : Nat) (op : List UInt8) (p : Int) (i : Nat) : rowL [⟨g, op, p, i⟩] ++ nothingL = gotL op p i := by
  simp [rowL, St.text, placeL, nothingL, gotL, wantL]
theorem want_text (op : List UInt8) (p : Int) : ((((⟨op.toArray⟩ : ByteArray) ++ ⟨#[32, 97, 116, 32]⟩) ++ ⟨(itoa p).toArray⟩) ++ ⟨#[32, 111, 102, 32]⟩) = ⟨(wantL op p).toArray⟩ := by
  have e1 : (⟨#[32, 97, 116, 32]⟩ : ByteArray) = ⟨[32, 97, 116, 32].toArray⟩ := rfl
  have e2 : (⟨#[32, 111, 102, 32]⟩ : ByteArray) = ⟨[32, 111, 102, 32].toArray⟩ := rfl
  rw [e1, e2, str_app, str_app, str_app]
  rfl
theorem extract_list (l : List UInt8) (a b : Nat) : ((⟨l.toArray⟩ : ByteArray).extract a b).toList = (l.take b).drop a := by
  rw [List.drop_take]
  simp [ByteArray.toList_eq, ByteArray.data_extract]
theorem got_head (op : List UInt8) (p : Int) (i : Nat) : ((⟨(gotL op p i).toArray⟩ : ByteArray).extract 0 (wantL op p).length).toList = wantL op p := by
  rw [extract_list, List.drop_zero, gotL, List.append_assoc, List.take_left]
theorem got_end (op : List UInt8) (p : Int) (i : Nat) : ((⟨(gotL op p i).toArray⟩ : ByteArray).extract ((wantL op p).length + (decDigits i).length) ((wantL op p).length + (decDigits i).length + 9)).toList = [58, 32, 110, 111, 116, 104, 105, 110, 103] := by
  rw [extract_list, List.take_of_length_le (by simp [gotL]; omega), gotL, ← List.length_append, List.drop_left]
theorem error_none (w : World) : Calls Tryd.prog 12 #[.pointer none] w fun e w' => e = .returned (.string ⟨#[]⟩) ∧ w = w' := by
  go_enter Tryd.func12, Tryd.ntmps12
  go_wp2
  go_ret
  exact ⟨rfl, rfl⟩
set_option maxRecDepth 100000 in
set_option maxHeartbeats 2000000 in
theorem none_walk (op : List UInt8) (p : Int) (i : Nat) (tx : ByteArray) (w : World) (hp : I64 p) (hi : i < 18446744073709551616) (hl : op.length ≤ 1048576) (ht : Tab w) :
    Calls Tryd.prog 4 #[.agg #[.string ⟨op.toArray⟩, .int .i64 p, .int .u64 i], .string tx] w fun e w' => e = .returned (.bool true) ∧ Below w.heap.size w w' := by
  have HP := Lib.hid hp
  have HI := Lib.hid hi
  have HT := Lib.hid ht
  clear hp hi ht
  go_enter Tryd.func4, Tryd.ntmps4
  go_wp2_with (fail)
  refine (wrap_none _ _ _ _).mono ?_
  rintro x w1 ⟨rfl, rfl⟩
  go_wp2_with (fail)
  have hb0 : Below w.heap.size w (w.alloc (.cells #[.string ⟨op.toArray⟩, .int .i64 p, .int .u64 i] 34)) := (Below.refl _ _).alloc (Nat.le_refl _) _
  have hblk := Blk.new w 34 #[.string ⟨op.toArray⟩, .int .i64 p, .int .u64 i]
  obtain ⟨V, hV⟩ : ∃ V, V = (w.alloc (.cells #[.string ⟨op.toArray⟩, .int .i64 p, .int .u64 i] 34)) := ⟨_, rfl⟩
  rw [← hV] at hb0 hblk ⊢
  clear hV
  have hgl := hblk.lt
  have HTV := Lib.hid (tab_below HT.out hb0)
  have HB0 := Lib.hid hb0
  generalize w.heap.size = g at hb0 hblk hgl ⊢
  have c0 : V.cell? ⟨g, 0, none⟩ = some (.string ⟨op.toArray⟩) := hblk.cell 0
  have c1 : V.cell? ⟨g, 1, none⟩ = some (.int .i64 p) := hblk.cell 1
  have c2 : V.cell? ⟨g, 2, none⟩ = some (.int .u64 i) := hblk.cell 2
  have hS : ∀ w' : World, Below V.heap.size V w' → (w'.cell? ⟨g, 0, none⟩ = some (.string ⟨op.toArray⟩) ∧ w'.cell? ⟨g, 1, none⟩ = some (.int .i64 p) ∧ w'.cell? ⟨g, 2, none⟩ = some (.int .u64 i)) := fun w' h =>
    ⟨(h.cell (p := ⟨g, 0, none⟩) hgl).trans c0, (h.cell (p := ⟨g, 1, none⟩) hgl).trans c1, (h.cell (p := ⟨g, 2, none⟩) hgl).trans c2⟩
  have HS := Lib.hid hS
  clear hS
  go_region_held3 (fun w' => w'.cell? ⟨g, 0, none⟩ = some (.string ⟨op.toArray⟩) ∧ w'.cell? ⟨g, 1, none⟩ = some (.int .i64 p) ∧ w'.cell? ⟨g, 2, none⟩ = some (.int .u64 i)) ((refine HS.out _ ?_; (first | (with_reducible exact Below.refl _ _) | (with_reducible exact Below.drew (Below.refl _ _)) | (with_reducible assumption))))
    (first
      | (go_at_call 11
         (with_reducible refine (new_below _ _).mono ?_)
         rintro e w2 ⟨g2, rfl, hb0'⟩
         have hb2 : Below V.heap.size V w2 := ⟨hb0'.os, hb0'.tape, hb0'.output, hb0'.size, hb0'.block⟩
         clear hb0')
      | (go_at_call 10
         (with_reducible refine (wrap_below _ _ _ _ _ _).mono ?_)
         rintro e w3 ⟨g3, rfl, hb0', hf3⟩
         have hb3 : Below w2.heap.size w2 w3 := ⟨hb0'.os, hb0'.tape, hb0'.output, hb0'.size, hb0'.block⟩
         have hb3' := hb2.trans (hb3.mono hb2.size)
         clear hb0'))
  go_wp2_with (fail)
  have hb4 : Below V.heap.size V (w3.alloc (.cells #[.string ⟨op.toArray⟩, .int .i64 p, .int .u64 i, .nilIface] 29)) := hb3'.alloc hb3'.size _
  have hfb := Blk.new w3 29 #[.string ⟨op.toArray⟩, .int .i64 p, .int .u64 i, .nilIface]
  have hfo := hf3.alloc (.cells #[.string ⟨op.toArray⟩, .int .i64 p, .int .u64 i, .nilIface] 29)
  obtain ⟨V4, hV4⟩ : ∃ V, V = (w3.alloc (.cells #[.string ⟨op.toArray⟩, .int .i64 p, .int .u64 i, .nilIface] 29)) := ⟨_, rfl⟩
  rw [← hV4] at hb4 hfb hfo ⊢
  clear hV4
  generalize w3.heap.size = gb at hfb ⊢
  clear hf3 hb3 hb3' hb2 c0 c1 c2
  have HRO : Hid (Row V4 (.iface 55 (ptr g2)) [⟨g3, op, p, i⟩] (flt g3)) := Lib.hid ⟨rfl, st_ok HP.out HI.out, _, hfo, rfl, ends_new _⟩
  have HRB : Hid (Row V4 .nilIface [⟨gb, op, p, i⟩] (flt gb)) := Lib.hid ⟨rfl, st_ok HP.out HI.out, _, hfb, rfl, ends_nil⟩
  have hw4 := where_none V4
  unfold noFault at hw4
  have HW4 := Lib.hid hw4
  clear hw4 hfo hfb
  refine HW4.out.mono ?_
  rintro x w5 ⟨rfl, hb5⟩
  go_wp2_with (fail)
  have hb5' : Below V.heap.size V (w5.alloc (.cells #[.string ⟨#[]⟩, .int .i64 0, .int .u64 0, .nilIface] 29)) := (hb4.trans (hb5.mono hb4.size)).alloc (Nat.le_trans hb4.size hb5.size) _
  have hb5a : Below V4.heap.size V4 (w5.alloc (.cells #[.string ⟨#[]⟩, .int .i64 0, .int .u64 0, .nilIface] 29)) := hb5.alloc hb5.size _
  refine (error_none _).mono ?_
  rintro x w6 ⟨rfl, rfl⟩
  go_wp2_with (fail)
  refine (unwrap_none _).mono ?_
  rintro x w7 ⟨rfl, rfl⟩
  go_wp2_with (fail)
  refine (trace_none _).mono ?_
  rintro x w8 ⟨⟨c8, rfl⟩, hb8⟩
  have hb8' := hb5'.trans (hb8.mono hb5'.size)
  have hb8a := hb5a.trans (hb8.mono hb5a.size)
  clear hb8 hb5' hb5a hb5
  go_wp2_with (fail)
  have HN : Hid (∀ W, Calls Tryd.prog 15 #[.int .i64 p] W (Text (itoa p) W)) := Lib.hid fun W => num_any p HP.out.1 HP.out.2 W
  have h1 := itoa_len HP.out.1 HP.out.2
  have k1 := run_cat ⟨op.toArray⟩ ⟨#[32, 97, 116, 32]⟩ (by show op.length + 4 ≤ _; omega)
  have k2 := run_cat ((⟨op.toArray⟩ : ByteArray) ++ ⟨#[32, 97, 116, 32]⟩) ⟨(itoa p).toArray⟩ (by simp only [ByteArray.size_append]; show op.length + 4 + (itoa p).length ≤ _; omega)
  have k3 := run_cat (((⟨op.toArray⟩ : ByteArray) ++ ⟨#[32, 97, 116, 32]⟩) ++ ⟨(itoa p).toArray⟩) ⟨#[32, 111, 102, 32]⟩ (by simp only [ByteArray.size_append]; show op.length + 4 + (itoa p).length + 4 ≤ _; omega)
  have HH1 := Lib.hid h1
  have HHL := Lib.hid hl
  clear h1 hl
  go_region_held3 (fun w' => w'.cell? ⟨g, 0, none⟩ = some (.string ⟨op.toArray⟩) ∧ w'.cell? ⟨g, 1, none⟩ = some (.int .i64 p) ∧ w'.cell? ⟨g, 2, none⟩ = some (.int .u64 i)) ((refine HS.out _ ?_; (first | (with_reducible assumption) | (with_reducible exact Below.drew hb8'))))
    (first
      | (go_at_call 15
         (with_reducible refine (HN.out _).mono ?_)
         rintro e w9 ⟨rfl, hb0'⟩
         have hb9 : Below w8.heap.size w8 w9 := ⟨hb0'.os, hb0'.tape, hb0'.output, hb0'.size, hb0'.block⟩
         have hb9' := hb8'.trans (hb9.mono hb8'.size)
         have hb9a := hb8a.trans (hb9.mono hb8a.size)
         clear hb0'))
  rw [want_text]
  clear k1 k2 k3
  go_wp2_with (fail)
  have hlg : (gotL op p i).length = (wantL op p).length + (decDigits i).length + 9 := by simp [gotL]; omega
  have hlw : (wantL op p).length ≤ 1048620 := by have := HH1.out; have := HHL.out; simp only [wantL, List.length_append, List.length_cons, List.length_nil]; omega
  have hd20 := dec_len HI.out
  have hE := error_any ⟨gb, op, p, i⟩ [] .nilIface nothingL w9 (HRB.out.below hb9a) (.inl ⟨rfl, rfl⟩) (tab_below HTV.out hb9') (by simp) (by
    have := congrArg List.length (got_eq gb op p i)
    simp only [List.length_append] at this
    omega)
  rw [got_eq] at hE
  have HE := Lib.hid hE
  clear hE
  refine HE.out.mono ?_
  rintro x w10 ⟨rfl, hb10⟩
  have hb10' := hb9'.trans (hb10.mono hb9'.size)
  have hb10a := hb9a.trans (hb10.mono hb9a.size)
  clear HE hb8' hb8a hb9 hb9' hb9a hb10
  have f1 := got_head op p i
  have f2 := got_end op p i
  go_wp2_with (fail)
  clear f1 f2 hlg hlw hd20
  have HC1 := Lib.hid (code_any [g3] (.iface 55 (ptr g2)) 2 _ _ w10 (HRO.out.goes.below hb10a) (code_is_new _) (by simp))
  refine HC1.out.mono ?_
  rintro x w11 ⟨rfl, hb11⟩
  have hb11' := hb10'.trans (hb11.mono hb10'.size)
  have hb11a := hb10a.trans (hb11.mono hb10a.size)
  clear HC1 hb11 hb10' hb10a
  go_wp2_with (fail)
  have HC2 := Lib.hid (code_any [gb] .nilIface 2 _ _ w11 (HRB.out.goes.below hb11a) code_is_nil (by simp))
  refine HC2.out.mono ?_
  rintro x w12 ⟨rfl, hb12⟩
  have hb12' := hb11'.trans (hb12.mono hb11'.size)
  have hb12a := hb11a.trans (hb12.mono hb11a.size)
  clear HC2 hb12 hb11' hb11a
  go_wp2_with (fail)
  have HC3 := Lib.hid (is_any [] .nilIface .nilIface 0 false w12 ⟨rfl, ends_nil⟩ (eis_nil 0) (by simp))
  refine HC3.out.mono ?_
  rintro x w13 ⟨rfl, hb13⟩
  have hb13' := hb12'.trans (hb13.mono hb12'.size)
  have hb13a := hb12a.trans (hb13.mono hb12a.size)
  clear HC3 hb13 hb12' hb12a
  go_wp2_with (fail)
  have HC4 := Lib.hid (is_any [g3] (.iface 55 (ptr g2)) (flt g3) 2 false w13 (HRO.out.goes.below hb13a) (eis_new _ 2) (by simp))
  refine HC4.out.mono ?_
  rintro x w14 ⟨rfl, hb14⟩
  have hb14' := hb13'.trans (hb14.mono hb13'.size)
  clear HC4 hb14 hb13' hb13a
  go_wp2_with (fail)
  have HC5 := Lib.hid (lives_any w14 (tab_below HTV.out hb14'))
  refine HC5.out.mono ?_
  rintro x w15 ⟨rfl, hb15⟩
  have hb15' := hb14'.trans (hb15.mono hb14'.size)
  clear HC5 hb15 hb14'
  go_wp2_with (fail)
  go_ret
  exact ⟨rfl, HB0.out.trans (hb15'.mono HB0.out.size)⟩
end Go.Proofs.YtonedffhfljmpaaDoor.fault
