/-
  For all rows of texts the law HamPairs returns true, and changes nothing that there was. No condition.
-/
import Derived.Test.YtefpaaklppmkhaaHamP
namespace Go.Proofs.Ytefpaaklppmkhaa.hamPairs
open Go.RowKit law bytes ham
open Go.ChangeShapes Go.WideShapes Go.ChangeAt
set_option linter.unusedVariables false

theorem nums_on {V W : World} {f : FuncId} {args : Array Value} {N : Nat} {l : List Nat} (hb : Below V.heap.size V W) (h : Calls Try.prog f args W (Nums N l W)) :
    Calls Try.prog f args W fun e w' => ∃ A c, e = .returned (.slice A N c) ∧ Sl w' w'.heap.size A (nv l) ∧ Below W.heap.size W w' ∧ Below V.heap.size V w' :=
  h.mono fun e w' ⟨A, c, he, ho, h2⟩ => ⟨A, c, he, Sl.of_own ho, h2, hb.trans (h2.mono hb.size)⟩

set_option maxHeartbeats 3200000 in
theorem walk (A : Option Addr) (c : Nat) (l : List ByteArray) (hf : Fit l) (hl : l.length * 16 ≤ 140737488355328) (w : World) (hs : Sl w w.heap.size A (sv l)) :
    Calls Try.prog 5 #[.slice A l.length c] w fun e w' => e = .returned (.bool true) ∧ Below w.heap.size w w' := by
  have HF := Lib.hid hf
  have HS0 := Lib.hid hs
  have HP : Hid (∀ W, Below w.heap.size w W → Calls Try.prog 12 #[.slice A l.length c] W (Nums (l.length - 1) (prs l (l.length - 1)) W)) := Lib.hid fun W hW => pairs_any A c l hf hl W (hs.on hW)
  have HLV := Lib.hid lives_any
  clear hf hs
  go_enter Try.func5, Try.ntmps5
  go_wp2_with (fail)
  go_loopg [3, 4] (l.length - 1) (fun gk v i wr => ∃ (k c : Nat) (A : Option Addr), k ≤ l.length - 1 ∧ gk = l.length - 1 - k ∧ i = .int .i64 k ∧ v = .slice A k c ∧ wr.ownsRow w.heap.size 3 1 (.slice A k c) k (nv (prs l k)) ∧ Below w.heap.size w wr)
  case atStart => exact ⟨0, 0, none, Nat.zero_le _, rfl, rfl, rfl, World.ownsRow_nil _ _ _ _, Below.refl _ _⟩
  case round =>
    obtain ⟨k, c', A', hk, rfl, rfl, rfl, hown, hB⟩ := hrel
    have hsz := hB.size
    obtain ⟨m, hm⟩ : ∃ m, m = k + 1 := ⟨_, rfl⟩
    by_cases hlt : m < l.length
    · obtain ⟨ad, rfl, hb1, hc1⟩ := Sl.text (HS0.out.below hB) (k := k) (by omega)
      obtain ⟨ad', e', hb2, hc2⟩ := Sl.text (HS0.out.below hB) hlt
      injection e' with e'
      subst e'
      have HPS := Lib.hid (prs_step l k)
      have hdist := fun W => rdist_any (tx l k) (tx l m) (HF.out.tx k) (HF.out.tx m) W
      rw [← hm] at HPS
      generalize D (tx l k) (tx l m) = d at HPS hdist
      generalize tx l k = x at hc1 hdist
      generalize tx l m = y at hc2 hdist
      have HD := Lib.hid hdist
      clear hdist
      have HS : Hid (∀ W, Below w.heap.size w W → (W.cell? (ad.add k) = some (.string x) ∧ W.cell? (ad.add m) = some (.string y))) := Lib.hid fun W hW =>
        ⟨by rw [hW.cell (by rw [blk_add]; exact hb1), ← hB.cell (by rw [blk_add]; exact hb1)]; exact hc1, by rw [hW.cell (by rw [blk_add]; exact hb2), ← hB.cell (by rw [blk_add]; exact hb2)]; exact hc2⟩
      have HSZ : Hid (∀ n, w.heap.size ≤ (wr.drewN n).heap.size) := Lib.hid fun n => hsz
      have i3 : (m : Int) < (l.length : Int) := by omega
      have i4 : IntKind.i64.wrap ((k : Int) + 1) = (m : Int) := by rw [IntKind.wrap_i64]; omega
      have i5 : (k : Int) + 1 < (l.length : Int) := by omega
      have i6 : (k : Int) < (l.length : Int) := by omega
      have i7 : (0 : Int) ≤ (k : Int) := by omega
      have HM := Lib.hid hm
      clear hm
      go_wp2_with (fail)
      go_region_held3 (fun w' => w'.cell? (ad.add k) = some (.string x) ∧ w'.cell? (ad.add m) = some (.string y))
        ((refine HS.out _ ?_; repeat' (first | (with_reducible assumption) | (with_reducible refine Below.drew ?_) | (with_reducible refine below_drewN' ?_ _) | (with_reducible refine Below.alloc ?_ (HSZ.out _) _))))
        (first
          | (go_at_call 6; (with_reducible refine (HD.out _).mono ?_); rintro e w5 ⟨rfl, kk, rfl⟩)
          | ((refine step_append_sl _ (by rfl) _ _ _ (by rfl) w.heap.size 3 _ 8 Try.underlying25 intE (.slice A' k c') k (nv (prs l k)) (by rfl) (World.ownsRow.alloc (w := wr.drewN (1 + kk)) hown _) _ _ 1 1 [.int .i64 (d : Int)] (by rfl) (Sl.one (wr.drewN (1 + kk)) _ _) rfl (by simp [Value.oneCell']) (by omega) (by unfold maxLen; omega) (by simp; omega) ?_; intro v4 w4 hown4 hg4 hat4; have hB4 := below_append (below_drewN' hB (1 + kk)) hsz _ hown (Nat.le_refl _) hg4)))
      obtain ⟨A4, c4, rfl, hc4⟩ := own_slice hown4
      go_wp2_with (fail)
      go_roundg (l.length - 1 - (k + 1))
      case measure => omega
      case rel => exact ⟨k + 1, c4, A4, by omega, rfl, by rw [HM.out], rfl, by rw [← HM.out, HPS.out, HM.out]; exact hown4, hB4⟩
    · have i5 : (l.length : Int) ≤ (k : Int) + 1 := by omega
      obtain rfl : k = l.length - 1 := by omega
      obtain ⟨n, hn⟩ : ∃ n, n = l.length - 1 := ⟨_, rfl⟩
      have hnl : n ≤ l.length := by omega
      have sl := Sl.of_own hown
      have hpl := prs_length l (l.length - 1)
      rw [← hn] at sl i5 HP hpl ⊢
      clear hown hlt hm hk
      have HPL := Lib.hid hpl
      clear hpl
      generalize prs l n = p at sl HP HPL
      have HN := Lib.hid hn
      clear hn
      go_wp2_with (fail)
      refine (nums_on hB (HP.out _ hB)).mono ?_
      rintro e w3 ⟨A3, c3, rfl, sl3, hc3, hb3⟩
      have hi := ints_same A3 A' p n c3 c' _ _ w3 HPL.out (by omega) sl3 (sl.on hc3)
      have HI := Lib.hid hi
      clear hi sl sl3
      go_wp2_with (fail)
      refine HI.out.mono ?_
      rintro e w5 ⟨rfl, kk, rfl⟩
      go_wp2_with (fail)
      refine (HLV.out _).mono ?_
      rintro e w6 ⟨rfl, k6, rfl⟩
      go_wp2_with (fail)
      go_ret
      exact ⟨rfl, below_drewN' hb3 _⟩

theorem lifted (os : Os) (started : os.Started) (H : Type) (enc : TypeId × Value → H) :
    ReturnsInHanded {} Try.checked os 5 .any (Rows.hamPairsSpec.pre6 enc Try.prog Try.f5 Rows.hamPairsRow.domain false) (Rows.hamPairsSpec.post enc Try.prog Try.f5 false true false false) := by
  refine lift (C := Try.checked) (by kernel_rfl) started (by kernel_rfl) Try.func5 rfl (by kernel_rfl) (by kernel_rfl) rfl Try.underlying4
    (fun ds hd => by match ds, hd with | [_], _ => exact ⟨rfl, rfl, rfl⟩)
    (ChangeSpec.witness6 (enc := enc) (C := Try.checked) false ⟨#[], #[.slice none 0 0], []⟩ 8 (by kernel_rfl) (by kernel_rfl) (by kernel_rfl) (by kernel_rfl)) ?_
  intro W base args ds before hval0 hA0 hfz hsz0
  have hval : ∀ (j : Nat) t v, Try.f5.params[j]? = some t → args[j]? = some v → Value.okWide Try.prog W .any base t v := hval0
  have hA : DataW.TrodAll enc Try.prog W 0 (fun _ => true) true Try.f5.params.toList args.toList ds before := hA0
  have hsz : (DataW.weightsEach Try.prog Try.f5.params.toList ds).all (· ≤ reachBytes) = true := hsz0
  rw [Try.params5] at hA hval hsz
  obtain ⟨v0, vs0, d0, ds0, p0, q0, hargs, rfl, rfl, h0, r0⟩ := trodAll_cons hA
  obtain ⟨rfl, rfl, rfl⟩ := trodAll_nil r0
  obtain rfl : args = #[v0] := by cases args; simp_all
  obtain ⟨A, c, l, rfl, hc, hs, hf, hd⟩ := open_texts Try.underlying31 Try.underlying9 (by kernel_rfl) (hval 0 31 v0 rfl rfl) h0
  have hm : c * 16 ≤ 140737488355328 := by
    rcases hd with ⟨_, rfl, _⟩ | ⟨el, sp, rfl, rfl⟩
    · omega
    · have h2 := sized_slice hsz (j := 0) rfl rfl Try.underlying31
      rw [show Try.prog.bytesOf 9 = 16 from by kernel_rfl] at h2
      have hr := reachBytes_lt
      omega
  exact walk A c l hf (by omega) W hs

theorem proved : Rows.HamPairsSaid :=
  OpenClaim.holds_of_wide 5 Try.f5 rfl rfl rfl rfl rfl rfl rfl ⟨rfl, rfl, rfl, rfl, rfl⟩ rfl rfl rfl rfl rfl (by kernel_rfl) Try.func5 (by kernel_rfl)
    (of_decide_eq_true (by kernel_rfl)) (by unfold Func.isWrapper; first | (rw [if_pos (by decide +kernel)]; kernel_rfl) | (rw [if_neg (by decide +kernel)]; exact ⟨rfl, rfl⟩))
    (fun os started H enc _ => lifted os started H enc)
#print axioms proved
end Go.Proofs.Ytefpaaklppmkhaa.hamPairs
