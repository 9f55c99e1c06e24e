/-
  What the document's Escape answers: the bytes' escapes; nothing that was there before is changed.
-/
import Derived.Test.YtchlikigjijdkaaDoorT4
import Derived.Laws.Concat
import Derived.Deep.QuietTactic
import Derived.BigQuiet
namespace Go.Proofs.YtchlikigjijdkaaDoor.Txt
open Go.RowKit
set_option maxRecDepth 100000
theorem run_cat (w : World) (a b : List UInt8) (h : a.length + b.length ≤ 1000000000) : (Op.stringOp .add (mk a) (mk b)).run Tryd.prog w = .ok (.string (mk (a ++ b))) w := by
  rw [run_string_add_sum w _ _ (by rw [mk_size, mk_size]; omega)]
  have : mk a ++ mk b = mk (a ++ b) := by
    apply ByteArray.ext
    simp [mk]
  rw [this]
theorem run_one (w : World) (l : List UInt8) (k : Nat) (h : k < l.length) (j : Int) (hj : j = (k : Int) + 1) : (Instr.slice 9 (.string (mk l)) (some (.int .i64 (k : Int))) (some (.int .i64 j)) none).run Tryd.prog w = .ok (.string (mk [l.getD k 0])) w := by
  have := run_part w l .i64 .i64 k (k + 1) (by omega) (by omega)
  have e : (l.drop k).take (k + 1 - k) = [l.getD k 0] := by
    rw [show k + 1 - k = 1 by omega, List.drop_eq_getElem_cons h, List.take_succ_cons, List.take_zero]
    congr 1
    simp [List.getD_eq_getElem?_getD, List.getElem?_eq_getElem h]
  rw [e] at this
  rw [hj]
  exact this
theorem drew_n {B : Nat} {a w : World} (h : Below B a w) (n : Nat) : Below B a (w.drewN n) := h.trans ⟨rfl, rfl, rfl, Nat.le_refl _, fun _ _ => rfl⟩
theorem empty_mk : (⟨#[]⟩ : ByteArray) = mk [] := rfl
theorem plus_mk : (⟨#[43]⟩ : ByteArray) = mk [43] := rfl
theorem cent_mk : (⟨#[37]⟩ : ByteArray) = mk [37] := rfl
set_option maxHeartbeats 2000000 in
theorem rescape_any (l : List UInt8) (w : World) (hl : l.length ≤ 10000000) :
    Calls Tryd.prog 15 #[.string (mk l)] w fun e w' => e = .returned (.string (mk (esc l))) ∧ Below w.heap.size w w' := by
  have hms := mk_size
  have hmt := mk_toList
  go_enter Tryd.func15, Tryd.ntmps15
  go_wp2
  go_loopw [3, 4] (fun o v wr => ∃ k : Nat, k ≤ l.length ∧ o = .string (mk (esc (l.take k))) ∧ v = .int .i64 k ∧ Below w.heap.size w wr) (fun _ v _ => l.length - (intOf v).toNat)
  case atStart => exact ⟨0, by omega, rfl, rfl, Below.refl _ _⟩
  case round =>
    obtain ⟨k, hk, rfl, rfl, hb⟩ := hrel
    have HB := Lib.hid hb
    clear hb
    by_cases hlt : k < l.length
    · have hix : ∀ w, (Instr.index 9 (.string (mk l)) (.int .i64 (k : Int))).run Tryd.prog w = .ok (.int .u8 ((l.getD k 0).toNat : Nat)) w := fun w => run_idx w l .i64 k hlt
      have hpt : ∀ w, (Instr.slice 9 (.string (mk l)) (some (.int .i64 (k : Int))) (some (.int .i64 ((k : Int) + 1))) none).run Tryd.prog w = .ok (.string (mk [l.getD k 0])) w := fun w => run_one w l k hlt _ rfl
      have hol : (esc (l.take k)).length ≤ 100000000 - 3 := by
        have := esc_len (l.take k)
        rw [List.length_take] at this
        omega
      have HN : Hid (esc (l.take (k + 1)) = (esc (l.take k)) ++ esc1 (l.getD k 0)) := Lib.hid (by rw [take_snoc l k hlt, esc_append]; simp [esc])
      have HX : Hid (esc1 (l.getD k 0) = if plain (l.getD k 0) = true then [l.getD k 0] else if (l.getD k 0).toNat = 32 then [43] else [37, hx ((l.getD k 0).toNat / 16), hx ((l.getD k 0).toNat % 16)]) := Lib.hid rfl
      generalize esc (l.take k) = p at *
      generalize esc1 (l.getD k 0) = y at *
      generalize l.getD k 0 = x at *
      have HC := Lib.hid (free_any x wr)
      have hx256 := x.toNat_lt
      have hcat : ∀ (w : World) (b : List UInt8), b.length ≤ 3 → (Op.stringOp .add (mk p) (mk b)).run Tryd.prog w = .ok (.string (mk (p ++ b))) w := fun w b hb => run_cat w p b (by omega)
      cases hp : plain x with
      | true =>
        rw [hp] at HC HX
        rw [if_pos rfl] at HX
        have hc1 := fun w => hcat w [x] (by simp)
        clear hcat
        go_wp2_with fail
        refine HC.out.mono ?_
        rintro e w1 ⟨rfl, rfl⟩
        go_wp2
        go_roundw
        case rel => exact ⟨k + 1, by omega, by rw [HN.out, HX.out], by go_num, HB.out⟩
        case measure => simp [intOf]; omega
      | false =>
        rw [hp] at HC HX
        rw [if_neg (by decide)] at HX
        by_cases h32 : x.toNat = 32
        · rw [if_pos h32] at HX
          have hq : ((x.toNat : Int) == 32) = true := by rw [beq_iff_eq]; omega
          have HH := Lib.hid h32
          have hc1 := fun w => hcat w [43] (by simp)
          rw [← plus_mk] at hc1
          clear h32 hcat
          go_wp2_with fail
          refine HC.out.mono ?_
          rintro e w1 ⟨rfl, rfl⟩
          go_wp2
          go_roundw
          case rel => exact ⟨k + 1, by omega, by rw [HN.out, HX.out], by go_num, HB.out⟩
          case measure => simp [intOf]; omega
        · rw [if_neg h32] at HX
          have hq : ((x.toNat : Int) == 32) = false := by rw [beq_eq_false_iff_ne]; omega
          have hi1 : ∀ w, (Instr.slice 9 (.string ⟨#[48, 49, 50, 51, 52, 53, 54, 55, 56, 57, 65, 66, 67, 68, 69, 70]⟩) (some (.int .i64 ((x.toNat : Int) / 16))) (some (.int .i64 ((x.toNat : Int) / 16 + 1))) none).run Tryd.prog w = .ok (.string (mk [hx (x.toNat / 16)])) w := fun w => by
            have := run_one w hexs (x.toNat / 16) (by show _ < 16; omega) _ rfl
            rw [← hexs_lit] at this
            exact this
          have hi2 : ∀ w, (Instr.slice 9 (.string ⟨#[48, 49, 50, 51, 52, 53, 54, 55, 56, 57, 65, 66, 67, 68, 69, 70]⟩) (some (.int .i64 ((x.toNat : Int) % 16))) (some (.int .i64 ((x.toNat : Int) % 16 + 1))) none).run Tryd.prog w = .ok (.string (mk [hx (x.toNat % 16)])) w := fun w => by
            have := run_one w hexs (x.toNat % 16) (by show _ < 16; omega) _ rfl
            rw [← hexs_lit] at this
            exact this
          have hc1 : ∀ w, (Op.stringOp .add ⟨#[37]⟩ (mk [hx (x.toNat / 16)])).run Tryd.prog w = .ok (.string (mk [37, hx (x.toNat / 16)])) w := fun w => run_cat w [37] [hx (x.toNat / 16)] (by simp)
          have hc2 : ∀ w, (Op.stringOp .add (mk [37, hx (x.toNat / 16)]) (mk [hx (x.toNat % 16)])).run Tryd.prog w = .ok (.string (mk [37, hx (x.toNat / 16), hx (x.toNat % 16)])) w := fun w => run_cat w [37, hx (x.toNat / 16)] [hx (x.toNat % 16)] (by simp)
          have hc3 := fun w => hcat w [37, hx (x.toNat / 16), hx (x.toNat % 16)] (by simp)
          have hw1 : IntKind.i64.wrap ((x.toNat : Int) / 16) = (x.toNat : Int) / 16 := by rw [IntKind.wrap_i64]; omega
          have hw2 : IntKind.i64.wrap ((x.toNat : Int) % 16) = (x.toNat : Int) % 16 := by rw [IntKind.wrap_i64]; omega
          have hw3 : IntKind.i64.wrap ((x.toNat : Int) / 16 + 1) = (x.toNat : Int) / 16 + 1 := by rw [IntKind.wrap_i64]; omega
          have hw4 : IntKind.i64.wrap ((x.toNat : Int) % 16 + 1) = (x.toNat : Int) % 16 + 1 := by rw [IntKind.wrap_i64]; omega
          clear h32 hcat
          go_wp2_with fail
          refine HC.out.mono ?_
          rintro e w1 ⟨rfl, rfl⟩
          go_wp2
          go_quiet (fail)
          go_wp2
          go_roundw
          case rel => exact ⟨k + 1, by omega, by rw [HN.out, HX.out], by go_num, drew_n HB.out _⟩
          case measure => simp [intOf]; omega
    · obtain rfl : k = l.length := by omega
      rw [List.take_length]
      go_wp2
      go_ret
      exact ⟨rfl, HB.out⟩
end Go.Proofs.YtchlikigjijdkaaDoor.Txt
