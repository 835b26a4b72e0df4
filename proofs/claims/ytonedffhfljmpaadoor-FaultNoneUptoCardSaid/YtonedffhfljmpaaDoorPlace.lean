/-
  A fault's own part of its text; the text of a number's error.
-/
import Derived.Test.YtonedffhfljmpaaDoorFig
import Derived.Test.YtonedffhfljmpaaDoorChain
import Derived.Deep.RegionHeld3
namespace Go.Proofs.YtonedffhfljmpaaDoor.fault
open Go.RowKit Go.Lib law bytes strc
set_option linter.unusedVariables false

def I64 (n : Int) : Prop := -9223372036854775808 ≤ n ∧ n ≤ 9223372036854775807
/-- of a number that is told as N: Op, its place, and N -/
def placeL (op : List UInt8) (p : Int) (i : Nat) : List UInt8 := op ++ [32, 97, 116, 32] ++ itoa p ++ [32, 111, 102, 32] ++ decDigits i ++ [58, 32]
theorem place_text (op : List UInt8) (p : Int) (i : Nat) :
    (((((⟨op.toArray⟩ : ByteArray) ++ ⟨#[32, 97, 116, 32]⟩) ++ ⟨(itoa p).toArray⟩) ++ ⟨#[32, 111, 102, 32]⟩) ++ ⟨(decDigits i).toArray⟩) ++ ⟨#[58, 32]⟩ = ⟨(placeL op p i).toArray⟩ := by
  have e1 : (⟨#[32, 97, 116, 32]⟩ : ByteArray) = ⟨[32, 97, 116, 32].toArray⟩ := rfl
  have e2 : (⟨#[32, 111, 102, 32]⟩ : ByteArray) = ⟨[32, 111, 102, 32].toArray⟩ := rfl
  have e3 : (⟨#[58, 32]⟩ : ByteArray) = ⟨[58, 32].toArray⟩ := rfl
  rw [e1, e2, e3, str_app, str_app, str_app, str_app, str_app]
  rfl
theorem placeL_len {op : List UInt8} {p : Int} {i : Nat} (hp : I64 p) (hi : i < 18446744073709551616) : (placeL op p i).length ≤ op.length + 51 := by
  have h1 := itoa_len hp.1 hp.2
  have h2 := dec_len hi
  simp only [placeL, List.length_append, List.length_cons, List.length_nil]
  omega
set_option maxRecDepth 100000 in
set_option maxHeartbeats 1000000 in
theorem place_any (g : Nat) (op : List UInt8) (p : Int) (i : Nat) (err : Value) (w : World) (hf : Flt w g ⟨op.toArray⟩ p i err) (hp : I64 p) (hi : i < 18446744073709551616) (hl : op.length ≤ 140737488355328) (ht : Tab w) :
    Calls Tryd.prog 22 #[ptr g] w (Text (placeL op p i) w) := by
  have c0 : w.cell? ⟨g, 0, none⟩ = some (.string ⟨op.toArray⟩) := hf.cell 0
  have c1 : w.cell? ⟨g, 1, none⟩ = some (.int .i64 p) := hf.cell 1
  have c2 : w.cell? ⟨g, 2, none⟩ = some (.int .u64 i) := hf.cell 2
  have hgl := hf.lt
  have hS : ∀ w' : World, Below w.heap.size w w' → (w'.cell? ⟨g, 0, none⟩ = some (.string ⟨op.toArray⟩) ∧ w'.cell? ⟨g, 1, none⟩ = some (.int .i64 p) ∧ w'.cell? ⟨g, 2, none⟩ = some (.int .u64 i)) := fun w' h =>
    ⟨(h.cell (p := ⟨g, 0, none⟩) hgl).trans c0, (h.cell (p := ⟨g, 1, none⟩) hgl).trans c1, (h.cell (p := ⟨g, 2, none⟩) hgl).trans c2⟩
  have HS := Lib.hid hS
  have HP : Hid (∀ W, Tab W → Calls Tryd.prog 33 #[.int .i64 p] W (Text (itoa p) W)) := Lib.hid fun W h => itoa_any p hp.1 hp.2 W h
  have HI : Hid (∀ W, Tab W → Calls Tryd.prog 34 #[.int .u64 i, .int .i64 10] W (Text (decDigits i) W)) := Lib.hid fun W h => formatUint_any i hi W h
  have h1 := itoa_len hp.1 hp.2
  have h2 := dec_len hi
  have HT := Lib.hid (place_text op p i)
  have k1 := run_cat ⟨op.toArray⟩ ⟨#[32, 97, 116, 32]⟩ (by show op.length + 4 ≤ _; omega)
  have k2 := run_cat ((⟨op.toArray⟩ : ByteArray) ++ ⟨#[32, 97, 116, 32]⟩) ⟨(itoa p).toArray⟩ (by simp only [ByteArray.size_append]; show op.length + 4 + (itoa p).length ≤ _; omega)
  have k3 := run_cat (((⟨op.toArray⟩ : ByteArray) ++ ⟨#[32, 97, 116, 32]⟩) ++ ⟨(itoa p).toArray⟩) ⟨#[32, 111, 102, 32]⟩ (by simp only [ByteArray.size_append]; show op.length + 4 + (itoa p).length + 4 ≤ _; omega)
  have k4 := run_cat ((((⟨op.toArray⟩ : ByteArray) ++ ⟨#[32, 97, 116, 32]⟩) ++ ⟨(itoa p).toArray⟩) ++ ⟨#[32, 111, 102, 32]⟩) ⟨(decDigits i).toArray⟩ (by simp only [ByteArray.size_append]; show op.length + 4 + (itoa p).length + 4 + (decDigits i).length ≤ _; omega)
  have k5 := run_cat (((((⟨op.toArray⟩ : ByteArray) ++ ⟨#[32, 97, 116, 32]⟩) ++ ⟨(itoa p).toArray⟩) ++ ⟨#[32, 111, 102, 32]⟩) ++ ⟨(decDigits i).toArray⟩) ⟨#[58, 32]⟩ (by simp only [ByteArray.size_append]; show op.length + 4 + (itoa p).length + 4 + (decDigits i).length + 2 ≤ _; omega)
  clear hS hp hi hl h1 h2
  go_enter Tryd.func22, Tryd.ntmps22
  go_wp2_with (fail)
  go_region_held3 (fun w' => w'.cell? ⟨g, 0, none⟩ = some (.string ⟨op.toArray⟩) ∧ w'.cell? ⟨g, 1, none⟩ = some (.int .i64 p) ∧ w'.cell? ⟨g, 2, none⟩ = some (.int .u64 i)) ((refine HS.out _ ?_; (first | (with_reducible exact Below.refl _ _) | (with_reducible exact Below.drew (Below.refl _ _)) | (with_reducible assumption))))
    (first
      | (go_at_call 33
         have hbb := hbU
         (with_reducible refine (HP.out _ ?_).mono ?_)
         · exact tab_below ht hbb
         rintro e w2 ⟨rfl, hb0⟩
         have hbE := hbb.trans (hb0.mono hbb.size))
      | (go_at_call 33
         (with_reducible refine (HP.out _ ?_).mono ?_)
         · exact tab_keep ht rfl
         rintro e w2 ⟨rfl, hb0⟩
         have hbI : Below w.heap.size w w2 := ⟨hb0.os, hb0.tape, hb0.output, hb0.size, hb0.block⟩
         clear hb0)
      | (go_at_call 34
         have hbb := hbI
         (with_reducible refine (HI.out _ ?_).mono ?_)
         · exact tab_below ht hbb
         rintro e w2 ⟨rfl, hb0⟩
         have hbE := hbb.trans (hb0.mono hbb.size))
      | (go_at_call 34
         (with_reducible refine (HI.out _ ?_).mono ?_)
         · exact tab_keep ht rfl
         rintro e w2 ⟨rfl, hb0⟩
         have hbU : Below w.heap.size w w2 := ⟨hb0.os, hb0.tape, hb0.output, hb0.size, hb0.block⟩
         clear hb0))
  all_goals
    go_wp2_with (fail)
    go_ret
    exact ⟨ret_str HT.out, hbE⟩
end Go.Proofs.YtonedffhfljmpaaDoor.fault
