/-
  What writeEscaped and Escape do: the bytes' escapes behind what the builder holds; nothing that was there before is changed.
-/
import Derived.Test.YtchlikigjijdkaaDoorT1
namespace Go.Proofs.YtchlikigjijdkaaDoor.Txt
open Go.RowKit
set_option maxRecDepth 100000
theorem write_at (B b : Nat) (l : List UInt8) (x : UInt8) (c : Int) (hc : c = (x.toNat : Nat)) (w : World) (h : Bld w B b l) (hlen : l.length ≤ 100000000) (hBw : B ≤ w.heap.size) :
    Calls Tryd.prog 26 #[.pointer (some ⟨b, 0, none⟩), .int .u8 c] w fun e w' => e = .returned .nilIface ∧ Bld w' B b (l ++ [x]) ∧ Below B w w' := by
  subst hc
  exact write_any B b l x w h hlen hBw
abbrev BldF (w : World) (B b : Nat) (l : List UInt8) : Prop := Lib.IsBuilderF 50 5 B b (Lib.byteCells l) w
theorem bldF_of {w : World} {B b : Nat} {l : List UInt8} (h : Bld w B b l) : BldF w B b l := Lib.IsBuilderF.of h
theorem takenF_any (B b : Nat) (l : List UInt8) (w : World) (h : BldF w B b l) (hBw : B ≤ w.heap.size) :
    Calls Tryd.prog 24 #[.pointer (some ⟨b, 0, none⟩)] w fun e w' => e = .returned (.string (mk l)) ∧ BldF w' B b l ∧ Below B w w' := stringF_any B b l w h hBw
/-- What may change: what lies below B stands, and each block that is not b and no row of bytes. -/
structure Kept (B b : Nat) (w w' : World) : Prop where
  below : Below B w w'
  others : Lib.OthersKept 5 (some b) w w'
theorem Kept.refl (B b : Nat) (w : World) : Kept B b w w := ⟨Below.refl _ _, Lib.OthersKept.refl _ _ _⟩
theorem Kept.trans {B b : Nat} {w w1 w2 : World} (h : Kept B b w w1) (k : Kept B b w1 w2) : Kept B b w w2 := ⟨h.below.trans k.below, h.others.trans k.others⟩
theorem writeK_at (B b : Nat) (l : List UInt8) (x : UInt8) (c : Int) (hc : c = (x.toNat : Nat)) (w : World) (h : BldF w B b l) (hlen : l.length ≤ 100000000) (hBw : B ≤ w.heap.size) :
    Calls Tryd.prog 26 #[.pointer (some ⟨b, 0, none⟩), .int .u8 c] w fun e w' => e = .returned .nilIface ∧ BldF w' B b (l ++ [x]) ∧ Kept B b w w' := by
  subst hc
  refine (writeByteK_any B b (Lib.byteCells l) _ w h (by rw [Lib.byteCells_length]; omega) hBw).mono ?_
  rintro e w' ⟨rfl, h1, h2, h3⟩
  refine ⟨rfl, ?_, h2, h3⟩
  unfold BldF
  rw [byteCells_append]
  exact h1
theorem take_snoc (l : List UInt8) (k : Nat) (h : k < l.length) : l.take (k + 1) = l.take k ++ [l.getD k 0] := by
  rw [List.take_add_one]
  simp [List.getD_eq_getElem?_getD, List.getElem?_eq_getElem h]
theorem hexs_lit : (⟨#[48, 49, 50, 51, 52, 53, 54, 55, 56, 57, 65, 66, 67, 68, 69, 70]⟩ : ByteArray) = mk hexs := rfl
theorem and15 : ∀ n : Fin 256, bits .and .u8 ((n.val : Nat) : Int) 15 = ((n.val % 16 : Nat) : Int) := by decide +kernel
set_option maxHeartbeats 1000000 in
theorem writeEscaped_any (B b : Nat) (l o : List UInt8) (w : World) (hI : BldF w B b o) (hBw : B ≤ w.heap.size) (hlen : o.length + 3 * l.length ≤ 100000000) :
    Calls Tryd.prog 23 #[.pointer (some ⟨b, 0, none⟩), .string (mk l)] w fun e w' => e = .returned (.tuple #[]) ∧ BldF w' B b (o ++ esc l) ∧ Kept B b w w' := by
  have HI0 := Lib.hid hI
  clear hI
  have hms := mk_size
  have hmt := mk_toList
  go_enter Tryd.func23, Tryd.ntmps23
  go_wp2
  go_loopw [8] (fun v wr => ∃ k : Nat, k ≤ l.length ∧ v = .int .i64 k ∧ BldF wr B b (o ++ esc (l.take k)) ∧ Kept B b w wr) (fun v _ => l.length - (intOf v).toNat)
  case atStart => exact ⟨0, by omega, rfl, by simpa [esc] using HI0.out, Kept.refl _ _ _⟩
  case round =>
    obtain ⟨k, hk, rfl, hI, hb⟩ := hrel
    have HI := Lib.hid hI
    have HB := Lib.hid hb
    clear hI hb HI0
    by_cases hlt : k < l.length
    · have hix : ∀ w, (Instr.index 9 (.string (mk l)) (.int .i64 (k : Int))).run Tryd.prog w = .ok (.int .u8 ((l.getD k 0).toNat : Nat)) w := fun w => run_idx w l .i64 k hlt
      have hol : (o ++ esc (l.take k)).length ≤ 100000000 - 3 := by
        have := esc_len (l.take k)
        rw [List.length_take] at this
        rw [List.length_append]
        omega
      have HN : Hid (o ++ esc (l.take (k + 1)) = (o ++ esc (l.take k)) ++ esc1 (l.getD k 0)) := Lib.hid (by rw [take_snoc l k hlt, esc_append, ← List.append_assoc]; simp [esc])
      have HX : Hid (esc1 (l.getD k 0) = if plain (l.getD k 0) = true then [l.getD k 0] else if (l.getD k 0).toNat = 32 then [43] else [37, hx ((l.getD k 0).toNat / 16), hx ((l.getD k 0).toNat % 16)]) := Lib.hid rfl
      generalize o ++ esc (l.take k) = p at *
      generalize esc1 (l.getD k 0) = y at *
      generalize l.getD k 0 = x at *
      have HC := Lib.hid (isPlain_any x wr)
      have hx256 := x.toNat_lt
      cases hp : plain x with
      | true =>
        rw [hp] at HC HX
        go_wp2_with fail
        refine HC.out.mono ?_
        rintro e w1 ⟨rfl, rfl⟩
        go_wp2_with fail
        refine (writeK_at B b p x _ rfl _ HI.out (by omega) (Nat.le_trans hBw HB.out.below.size)).mono ?_
        rintro e w1 ⟨rfl, hI1, hb1⟩
        have HI1 : Hid (BldF w1 B b (o ++ esc (l.take (k + 1)))) := Lib.hid (by rw [HN.out, HX.out]; exact hI1)
        have HB1 : Hid (Kept B b w w1) := Lib.hid (HB.out.trans hb1)
        clear hI1 hb1 HC
        go_wp2
        go_roundw
        case rel => exact ⟨k + 1, by omega, by go_num, HI1.out, HB1.out⟩
        case measure => simp [intOf]; omega
      | false =>
        rw [hp] at HC HX
        rw [if_neg (by decide)] at HX
        by_cases h32 : x.toNat = 32
        · rw [if_pos h32] at HX
          have hq : ((x.toNat : Int) == 32) = true := by rw [beq_iff_eq]; omega
          have HH := Lib.hid h32
          clear h32
          go_wp2_with fail
          refine HC.out.mono ?_
          rintro e w1 ⟨rfl, rfl⟩
          go_wp2_with fail
          refine (writeK_at B b p 43 _ rfl _ HI.out (by omega) (Nat.le_trans hBw HB.out.below.size)).mono ?_
          rintro e w1 ⟨rfl, hI1, hb1⟩
          have HI1 : Hid (BldF w1 B b (o ++ esc (l.take (k + 1)))) := Lib.hid (by rw [HN.out, HX.out]; exact hI1)
          have HB1 : Hid (Kept B b w w1) := Lib.hid (HB.out.trans hb1)
          clear hI1 hb1 HC
          go_wp2
          go_roundw
          case rel => exact ⟨k + 1, by omega, by go_num, HI1.out, HB1.out⟩
          case measure => simp [intOf]; omega
        · rw [if_neg h32] at HX
          have hq : ((x.toNat : Int) == 32) = false := by rw [beq_eq_false_iff_ne]; omega
          have hi1 : ∀ w, (Instr.index 9 (.string ⟨#[48, 49, 50, 51, 52, 53, 54, 55, 56, 57, 65, 66, 67, 68, 69, 70]⟩) (.int .u8 ((x.toNat : Int) / 16))).run Tryd.prog w = .ok (.int .u8 ((hx (x.toNat / 16)).toNat : Nat)) w := fun w => by
            have := run_idx w hexs .u8 (x.toNat / 16) (by show _ < 16; omega)
            rw [← hexs_lit] at this
            exact this
          have hi2 : ∀ w, (Instr.index 9 (.string ⟨#[48, 49, 50, 51, 52, 53, 54, 55, 56, 57, 65, 66, 67, 68, 69, 70]⟩) (.int .u8 ((x.toNat : Int) % 16))).run Tryd.prog w = .ok (.int .u8 ((hx (x.toNat % 16)).toNat : Nat)) w := fun w => by
            have := run_idx w hexs .u8 (x.toNat % 16) (by show _ < 16; omega)
            rw [← hexs_lit] at this
            exact this
          have ha : bits .and .u8 (x.toNat : Int) 15 = (x.toNat : Int) % 16 := by have := and15 ⟨x.toNat, hx256⟩; simpa using this
          clear h32
          go_wp2_with fail
          refine HC.out.mono ?_
          rintro e w1 ⟨rfl, rfl⟩
          go_wp2_with fail
          refine (writeK_at B b p 37 _ rfl _ HI.out (by omega) (Nat.le_trans hBw HB.out.below.size)).mono ?_
          rintro e w1 ⟨rfl, hI1, hb1⟩
          have HI1 := Lib.hid hI1
          have HB1 : Hid (Kept B b w w1) := Lib.hid (HB.out.trans hb1)
          clear hI1 hb1 HC
          go_wp2_with fail
          refine (writeK_at B b _ (hx (x.toNat / 16)) _ rfl _ HI1.out (by simp; omega) (Nat.le_trans hBw HB1.out.below.size)).mono ?_
          rintro e w2 ⟨rfl, hI2, hb2⟩
          have HI2 := Lib.hid hI2
          have HB2 : Hid (Kept B b w w2) := Lib.hid (HB1.out.trans hb2)
          clear hI2 hb2 HI1 HB1
          go_wp2_with fail
          refine (writeK_at B b _ (hx (x.toNat % 16)) _ rfl _ HI2.out (by simp; omega) (Nat.le_trans hBw HB2.out.below.size)).mono ?_
          rintro e w3 ⟨rfl, hI3, hb3⟩
          have HI3 : Hid (BldF w3 B b (o ++ esc (l.take (k + 1)))) := Lib.hid (by rw [HN.out, HX.out]; simpa using hI3)
          have HB3 : Hid (Kept B b w w3) := Lib.hid (HB2.out.trans hb3)
          clear hI3 hb3 HI2 HB2
          go_wp2
          go_roundw
          case rel => exact ⟨k + 1, by omega, by go_num, HI3.out, HB3.out⟩
          case measure => simp [intOf]; omega
    · obtain rfl : k = l.length := by omega
      rw [List.take_length] at HI
      go_wp2
      go_end0
      exact ⟨rfl, HI.out, HB.out⟩
/-- What an allocated builder is. -/
theorem bld_new (w : World) : Bld (w.alloc (.cells #[.pointer none, .slice none 0 0] 50)) w.heap.size w.heap.size [] := Lib.fresh_isBuilder _ _ w
set_option maxHeartbeats 400000 in
theorem escape_any (l : List UInt8) (w : World) (hlen : l.length ≤ 10000000) :
    Calls Tryd.prog 13 #[.string (mk l)] w fun e w' => e = .returned (.string (mk (esc l))) ∧ Below w.heap.size w w' := by
  have hms := mk_size
  have hmt := mk_toList
  go_enter Tryd.func13, Tryd.ntmps13
  go_wp2_with fail
  refine (writeEscaped_any w.heap.size w.heap.size l [] _ (bldF_of (bld_new w)) (by simp) (by simp; omega)).mono ?_
  rintro e w1 ⟨rfl, hI, hb0⟩
  have hb := hb0.below
  clear hb0
  rw [List.nil_append] at hI
  have HI := Lib.hid hI
  have HB : Hid (Below w.heap.size w w1) := Lib.hid (((Below.refl _ _).alloc (Nat.le_refl _) _).trans hb)
  clear hI hb
  go_wp2_with fail
  refine (takenF_any w.heap.size w.heap.size (esc l) _ HI.out HB.out.size).mono ?_
  rintro e w2 ⟨rfl, _, hb2⟩
  have HB2 : Hid (Below w.heap.size w w2) := Lib.hid (HB.out.trans hb2)
  clear hb2
  go_wp2
  go_ret
  exact ⟨rfl, HB2.out⟩
end Go.Proofs.YtchlikigjijdkaaDoor.Txt
