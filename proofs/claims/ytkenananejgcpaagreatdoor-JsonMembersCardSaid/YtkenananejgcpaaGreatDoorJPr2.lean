/-
  How a string is quoted, and lines begun.
-/
import Derived.Test.YtkenananejgcpaaGreatDoorJPr1
import Derived.Deep.RegionWith
namespace Go.Proofs.YtkenananejgcpaaGreatDoor.Jsn
open Go.RowKit Txt
/-- The letter that stands for a byte behind a sign; 0: there is none. -/
def escL (b : Nat) : Nat := if b = 34 ∨ b = 92 then b else if b = 8 then 98 else if b = 12 then 102 else if b = 10 then 110 else if b = 13 then 114 else if b = 9 then 116 else 0
def hexes : List UInt8 := [48, 49, 50, 51, 52, 53, 54, 55, 56, 57, 97, 98, 99, 100, 101, 102]
/-- A byte in a quoted string. -/
def qb (b : UInt8) : List UInt8 := if escL b.toNat ≠ 0 then [92, UInt8.ofNat (escL b.toNat)] else if b.toNat < 32 then [92, 117, 48, 48, hexes.getD (b.toNat / 16) 0, hexes.getD (b.toNat % 16) 0] else [b]
def quote (l : List UInt8) : List UInt8 := [34] ++ l.flatMap qb ++ [34]
/-- A new line. -/
def nl (ln : Bool) (d : Nat) : List UInt8 := if ln then 10 :: List.replicate (2 * d) 32 else []
theorem escL_lt (b : Nat) (h : b < 256) : escL b < 256 := by unfold escL; repeat' split
                                                             all_goals omega
theorem and15 (b : UInt8) : bits BinOp.and IntKind.u8 (b.toNat : Int) 15 = ((b.toNat % 16 : Nat) : Int) := by
  have h : ∀ n : Fin 256, bits BinOp.and IntKind.u8 ((n.val : Nat) : Int) 15 = ((n.val % 16 : Nat) : Int) := by decide +kernel
  exact h ⟨b.toNat, b.toNat_lt⟩
set_option maxRecDepth 100000
set_option maxHeartbeats 2000000 in
theorem escapeLetter_any (b : UInt8) (w : World) : Calls Tryz.prog 113 #[.int .u8 (b.toNat : Nat)] w fun e w' => e = .returned (.int .u8 (escL b.toNat : Nat)) ∧ w' = w := by
  generalize b.toNat = n
  go_enter Tryz.func113, Tryz.ntmps113
  go_wp2
  all_goals go_ret
  all_goals refine ⟨ret_num ?_, rfl⟩
  all_goals simp only [beq_iff_eq, beq_eq_false_iff_ne, ne_eq] at *
  all_goals unfold escL
  all_goals (repeat' split) <;> omega
set_option maxHeartbeats 2000000 in
theorem quoteByte_any (B pb : Nat) (l : List UInt8) (ln : Bool) (fs : List It) (b : UInt8) (w : World) (h : Pr w B pb l ln fs) (hl : l.length ≤ 9000000) :
    Calls Tryz.prog 102 #[.pointer (some ⟨pb, 0, none⟩), .int .u8 (b.toNat : Nat)] w fun e w' => e = .returned (.tuple #[]) ∧ Pr w' B pb (l ++ qb b) ln fs ∧ Below B w w' := by
  have HE := Lib.hid (escapeLetter_any b w)
  have HP := Lib.hid h
  clear h
  by_cases he : escL b.toNat = 0
  · have e0 : ((escL b.toNat : Int) != 0) = false := by rw [he]; rfl
    rw [he] at HE
    by_cases hs : b.toNat < 32
    · have hq : qb b = [92, 117, 48, 48] ++ [hexes.getD (b.toNat / 16) 0] ++ [hexes.getD (b.toNat % 16) 0] := by unfold qb; rw [if_neg (by simpa using he), if_pos hs]; rfl
      have k1 : ((b.toNat : Int) < 32) := by omega
      have hmk : (ByteArray.mk #[48, 49, 50, 51, 52, 53, 54, 55, 56, 57, 97, 98, 99, 100, 101, 102]) = mk hexes := rfl
      have hi1 : ∀ w, (Instr.index 9 (.string (mk hexes)) (.int .u8 ((b.toNat : Int) / 16))).run Tryz.prog w = .ok (.int .u8 ((hexes.getD (b.toNat / 16) 0).toNat : Nat)) w := fun w => run_idx w hexes .u8 (b.toNat / 16) (by simp [hexes]; omega)
      have hi2 : ∀ w, (Instr.index 9 (.string (mk hexes)) (.int .u8 ((b.toNat : Int) % 16))).run Tryz.prog w = .ok (.int .u8 ((hexes.getD (b.toNat % 16) 0).toNat : Nat)) w := fun w => run_idx w hexes .u8 (b.toNat % 16) (by simp [hexes]; omega)
      have hand := and15 b
      go_enter Tryz.func102, Tryz.ntmps102
      go_wp2_with fail
      refine HE.out.mono ?_
      rintro e w1 ⟨rfl, rfl⟩
      go_wp2_with fail
      refine (put_string B pb l ln fs [92, 117, 48, 48] _ HP.out (by omega) (by simp)).mono ?_
      rintro e w2 ⟨rfl, hp2, hb2⟩
      have HP2 := Lib.hid hp2
      have HB2 := Lib.hid hb2
      clear hp2 hb2
      go_wp2_with fail
      rw [hmk]
      go_region_with (go_at_call 81; refine (put_byte B pb (l ++ [92, 117, 48, 48]) ln fs (hexes.getD (b.toNat / 16) 0) _ rfl _ (show Pr w2.drew B pb _ ln fs from HP2.out) (by simp; omega)).mono ?_; rintro e w3 ⟨rfl, hp3, hb3⟩)
      have HP3 := Lib.hid hp3
      have HB3 := Lib.hid (HB2.out.trans (Below.trans (Below.drew (Below.refl B w2)) hb3))
      clear hp3 hb3 HP2 HB2
      go_wp2_with fail
      go_region_with (go_at_call 81; refine (put_byte B pb (l ++ [92, 117, 48, 48] ++ [hexes.getD (b.toNat / 16) 0]) ln fs (hexes.getD (b.toNat % 16) 0) _ rfl _ (show Pr w3.drew B pb _ ln fs from HP3.out) (by simp; omega)).mono ?_; rintro e w4 ⟨rfl, hp4, hb4⟩)
      have HB4 := Lib.hid (HB3.out.trans (Below.trans (Below.drew (Below.refl B w3)) hb4))
      have HP4 := Lib.hid hp4
      clear hp4 hb4 HP3 HB3
      go_wp2
      go_end0
      rw [hq]
      refine ⟨rfl, ?_, HB4.out⟩
      rw [← List.append_assoc, ← List.append_assoc]
      exact HP4.out
    · have hq : qb b = [b] := by unfold qb; rw [if_neg (by simpa using he), if_neg hs]
      have k1 : ¬ ((b.toNat : Int) < 32) := by omega
      go_enter Tryz.func102, Tryz.ntmps102
      go_wp2_with fail
      refine HE.out.mono ?_
      rintro e w1 ⟨rfl, rfl⟩
      go_wp2_with fail
      refine (put_byte B pb l ln fs b _ rfl _ HP.out (by omega)).mono ?_
      rintro e w2 ⟨rfl, hp2, hb2⟩
      go_wp2
      go_end0
      rw [hq]
      exact ⟨rfl, hp2, hb2⟩
  · have e0 : ((escL b.toNat : Int) != 0) = true := by rw [bne_iff_ne]; omega
    have hq : qb b = [92] ++ [UInt8.ofNat (escL b.toNat)] := by unfold qb; rw [if_pos (by simpa using he)]; rfl
    have hu : ((escL b.toNat : Nat) : Int) = ((UInt8.ofNat (escL b.toNat)).toNat : Nat) := by
      have := escL_lt b.toNat b.toNat_lt
      rw [UInt8.toNat_ofNat']
      omega
    have HU := Lib.hid hu
    clear hu
    generalize escL b.toNat = el at *
    go_enter Tryz.func102, Tryz.ntmps102
    go_wp2_with fail
    refine HE.out.mono ?_
    rintro e w1 ⟨rfl, rfl⟩
    go_wp2_with fail
    refine (put_byte B pb l ln fs 92 _ rfl _ HP.out (by omega)).mono ?_
    rintro e w2 ⟨rfl, hp2, hb2⟩
    have HP2 := Lib.hid hp2
    have HB2 := Lib.hid hb2
    clear hp2 hb2
    go_wp2_with fail
    refine (put_byte B pb (l ++ [92]) ln fs (UInt8.ofNat el) _ HU.out _ HP2.out (by simp; omega)).mono ?_
    rintro e w3 ⟨rfl, hp3, hb3⟩
    go_wp2
    go_end0
    rw [hq]
    exact ⟨rfl, by rw [← List.append_assoc]; exact hp3, HB2.out.trans hb3⟩
set_option maxHeartbeats 2000000 in
theorem quote_any (B pb : Nat) (l : List UInt8) (ln : Bool) (fs : List It) (m : List UInt8) (w : World) (h : Pr w B pb l ln fs) (hl : l.length ≤ 2000000) (hm : m.length ≤ 1000000) :
    Calls Tryz.prog 80 #[.pointer (some ⟨pb, 0, none⟩), .string (mk m)] w fun e w' => e = .returned (.tuple #[]) ∧ Pr w' B pb (l ++ quote m) ln fs ∧ Below B w w' := by
  have HP := Lib.hid h
  have hms := mk_size
  have hmt := mk_toList
  clear h
  go_enter Tryz.func80, Tryz.ntmps80
  go_wp2_with fail
  refine (put_byte B pb l ln fs 34 _ rfl _ HP.out (by omega)).mono ?_
  rintro e w1 ⟨rfl, hp1, hb1⟩
  have HP1 := Lib.hid hp1
  have HB1 := Lib.hid hb1
  clear hp1 hb1 HP
  go_wp2
  go_loopw [11] (fun i wr => ∃ k : Nat, k ≤ m.length ∧ i = .int .i64 k ∧ Pr wr B pb (l ++ [34] ++ (m.take k).flatMap qb) ln fs ∧ Below B w wr) (fun i _ => m.length - (intOf i).toNat)
  case atStart => exact ⟨0, Nat.zero_le _, rfl, by simpa using HP1.out, HB1.out⟩
  case round =>
    obtain ⟨k, hk, rfl, hp, hb⟩ := hrel
    have HQ := Lib.hid hp
    have HB := Lib.hid hb
    clear hp hb HP1 HB1
    have hfl : ((m.take k).flatMap qb).length ≤ 6 * m.length := by
      have e : ∀ q : List UInt8, (q.flatMap qb).length ≤ 6 * q.length := by
        intro q
        induction q with
        | nil => simp
        | cons y q ih =>
          have : (qb y).length ≤ 6 := by unfold qb; split; · simp
                                         split <;> simp
          simp only [List.flatMap_cons, List.length_append, List.length_cons]
          omega
      have := e (m.take k)
      rw [List.length_take] at this
      omega
    by_cases hlt : k < m.length
    · have k1 : (k : Int) < (m.length : Int) := by omega
      have hix := fun w => run_idx w m .i64 k hlt
      obtain ⟨y, hy⟩ : ∃ y, m[k]? = some y := ⟨_, List.getElem?_eq_getElem hlt⟩
      have hgd : m.getD k 0 = y := by rw [List.getD_eq_getElem?_getD, hy]; rfl
      rw [hgd] at hix
      have HK : Hid ((m.take (k + 1)).flatMap qb = (m.take k).flatMap qb ++ qb y) := Lib.hid (by
        rw [List.take_add_one, hy]
        simp)
      clear hgd hy
      go_wp2_with fail
      refine (quoteByte_any B pb _ ln fs y _ HQ.out (by simp only [List.length_append, List.length_cons, List.length_nil]; omega)).mono ?_
      rintro e w2 ⟨rfl, hp2, hb2⟩
      have HP2 : Hid (Pr w2 B pb (l ++ [34] ++ (m.take (k + 1)).flatMap qb) ln fs) := Lib.hid (by rw [HK.out, ← List.append_assoc]; exact hp2)
      have HB2 := Lib.hid (HB.out.trans hb2)
      clear hp2 hb2 HQ HB
      go_wp2
      go_roundw
      case rel => exact ⟨k + 1, by omega, by go_num, HP2.out, HB2.out⟩
      case measure => simp [intOf]; omega
    · obtain rfl : k = m.length := by omega
      rw [List.take_length] at HQ hfl
      have k1 : ¬ (m.length : Int) < (m.length : Int) := by omega
      go_wp2_with fail
      refine (put_byte B pb _ ln fs 34 _ rfl _ HQ.out (by simp only [List.length_append, List.length_cons, List.length_nil]; omega)).mono ?_
      rintro e w2 ⟨rfl, hp2, hb2⟩
      have HB2 := Lib.hid (HB.out.trans hb2)
      clear hb2
      go_wp2
      go_end0
      refine ⟨rfl, ?_, HB2.out⟩
      unfold quote
      rw [← List.append_assoc, ← List.append_assoc]
      exact hp2
set_option maxHeartbeats 2000000 in
theorem newLine_o (B pb : Nat) (l : List UInt8) (ln : Bool) (fs : List It) (w : World) (h : Pr w B pb l ln fs) (hl : l.length ≤ 9000000) (hf : fs.length ≤ 100000) :
    Calls Tryz.prog 61 #[.pointer (some ⟨pb, 0, none⟩)] w fun e w' => e = .returned (.tuple #[]) ∧ Pr w' B pb (l ++ nl ln fs.length) ln fs ∧ Below B w w' ∧ Oth pb w w' := by
  obtain ⟨ap, hp⟩ : ∃ ap, PrA w B pb ap l ln fs := h.elim (fun x => ⟨_, x⟩) (fun x => ⟨_, x⟩)
  obtain ⟨bv, ov, hh, -⟩ := pr_parts hp
  have c2 : w.cell? ⟨pb, 2, none⟩ = some (.bool ln) := cell_of_row _ _ 2 _ _ _ hh
  have HP := Lib.hid h
  clear h hp hh
  cases ln with
  | false =>
    go_enter Tryz.func61, Tryz.ntmps61
    go_wp2
    refine bodyPost_ret (results_none rfl _ _ _) rfl ?_
    exact ⟨rfl, by simpa [nl] using HP.out, Below.refl _ _, Oth.refl _ _⟩
  | true =>
    go_enter Tryz.func61, Tryz.ntmps61
    go_wp2_with fail
    refine (put_byte_o B pb l true fs 10 _ rfl _ HP.out (by omega)).mono ?_
    rintro e w1 ⟨rfl, hp1, hb1, ho1'⟩
    have HO1 := Lib.hid ho1'
    clear ho1'
    obtain ⟨ap1, hq1⟩ : ∃ ap, PrA w1 B pb ap (l ++ [10]) true fs := hp1.elim (fun x => ⟨_, x⟩) (fun x => ⟨_, x⟩)
    obtain ⟨bv1, ov1, hh1, -, ho1, -⟩ := pr_parts hq1
    obtain ⟨A1, c1, rfl⟩ : ∃ A c, ov1 = .slice A (fs.length : Nat) c := by
      rcases ho1.2 with ⟨rfl, h0⟩ | ⟨g, cap, cur, rfl, _⟩
      · exact ⟨none, 0, by rw [h0]⟩
      · exact ⟨_, _, rfl⟩
    have d3 : w1.cell? ⟨pb, 3, none⟩ = some (.slice A1 (fs.length : Nat) c1) := cell_of_row _ _ 3 _ _ _ hh1
    have HP1 := Lib.hid hp1
    have HB1 := Lib.hid hb1
    clear hp1 hb1 HP hq1 hh1 ho1
    go_wp2
    go_loopw [16] (fun i wr => ∃ k : Nat, k ≤ fs.length ∧ i = .int .i64 k ∧ Pr wr B pb (l ++ 10 :: List.replicate (2 * k) 32) true fs ∧ Below B w wr ∧ Oth pb w wr) (fun i _ => fs.length - (intOf i).toNat)
    case atStart => exact ⟨0, Nat.zero_le _, rfl, by simpa using HP1.out, HB1.out, HO1.out⟩
    case round =>
      obtain ⟨k, hk, rfl, hp, hb, hoth⟩ := hrel
      have HOT := Lib.hid hoth
      clear hoth
      have HQ := Lib.hid hp
      have HB := Lib.hid hb
      clear hp hb HP1 HB1
      by_cases hlt : k < fs.length
      · have k1 : (k : Int) < (fs.length : Int) := by omega
        go_wp2_with fail
        refine (put_string_o B pb _ true fs [32, 32] _ HQ.out (by simp; omega) (by simp)).mono ?_
        rintro e w2 ⟨rfl, hp2, hb2, ho2⟩
        have HO2 := Lib.hid (HOT.out.trans ho2)
        clear ho2
        have HP2 : Hid (Pr w2 B pb (l ++ 10 :: List.replicate (2 * (k + 1)) 32) true fs) := Lib.hid (by
          rw [show 2 * (k + 1) = 2 * k + 2 by omega, ← List.replicate_append_replicate]
          rw [show l ++ 10 :: (List.replicate (2 * k) 32 ++ List.replicate 2 32) = l ++ 10 :: List.replicate (2 * k) 32 ++ [32, 32] by simp [List.replicate]]
          exact hp2)
        have HB2 := Lib.hid (HB.out.trans hb2)
        clear hp2 hb2 HQ HB
        go_wp2
        go_roundw
        case rel => exact ⟨k + 1, by omega, by go_num, HP2.out, HB2.out, HO2.out⟩
        case measure => simp [intOf]; omega
      · obtain rfl : k = fs.length := by omega
        have k1 : ¬ (fs.length : Int) < (fs.length : Int) := by omega
        go_wp2
        go_end0
        exact ⟨rfl, by simpa [nl] using HQ.out, HB.out, HOT.out⟩
theorem newLine_any (B pb : Nat) (l : List UInt8) (ln : Bool) (fs : List It) (w : World) (h : Pr w B pb l ln fs) (hl : l.length ≤ 9000000) (hf : fs.length ≤ 100000) :
    Calls Tryz.prog 61 #[.pointer (some ⟨pb, 0, none⟩)] w fun e w' => e = .returned (.tuple #[]) ∧ Pr w' B pb (l ++ nl ln fs.length) ln fs ∧ Below B w w' := (newLine_o B pb l ln fs w h hl hf).mono (fun _ _ h => ⟨h.1, h.2.1, h.2.2.1⟩)
set_option maxHeartbeats 2000000 in
theorem name_any (B pb : Nat) (l : List UInt8) (ln : Bool) (fs : List It) (m : List UInt8) (w : World) (h : Pr w B pb l ln fs) (hl : l.length ≤ 2000000) (hm : m.length ≤ 1000000) (hq : (quote m).length ≤ 6000002) :
    Calls Tryz.prog 83 #[.pointer (some ⟨pb, 0, none⟩), .string (mk m)] w fun e w' => e = .returned (.tuple #[]) ∧ Pr w' B pb (l ++ (quote m ++ [58] ++ if ln then [32] else [])) ln fs ∧ Below B w w' := by
  have HP := Lib.hid h
  have hms := mk_size
  have hmt := mk_toList
  clear h
  go_enter Tryz.func83, Tryz.ntmps83
  go_wp2_with fail
  refine (quote_any B pb l ln fs m _ HP.out hl hm).mono ?_
  rintro e w1 ⟨rfl, hp1, hb1⟩
  have HP1 := Lib.hid hp1
  have HB1 := Lib.hid hb1
  clear hp1 hb1 HP
  go_wp2_with fail
  refine (put_byte B pb _ ln fs 58 _ rfl _ HP1.out (by simp; omega)).mono ?_
  rintro e w2 ⟨rfl, hp2, hb2⟩
  obtain ⟨ap, hpa⟩ : ∃ ap, PrA w2 B pb ap (l ++ quote m ++ [58]) ln fs := hp2.elim (fun x => ⟨_, x⟩) (fun x => ⟨_, x⟩)
  obtain ⟨bv, ov, hh, -⟩ := pr_parts hpa
  have c2 : w2.cell? ⟨pb, 2, none⟩ = some (.bool ln) := cell_of_row _ _ 2 _ _ _ hh
  have HP2 := Lib.hid hp2
  have HB2 := Lib.hid (HB1.out.trans hb2)
  clear hp2 hb2 hpa hh HP1 HB1
  cases ln with
  | false =>
    go_wp2
    go_end0
    exact ⟨rfl, by simpa using HP2.out, HB2.out⟩
  | true =>
    go_wp2_with fail
    refine (put_byte B pb _ true fs 32 _ rfl _ HP2.out (by simp; omega)).mono ?_
    rintro e w3 ⟨rfl, hp3, hb3⟩
    have HB3 := Lib.hid (HB2.out.trans hb3)
    clear hb3
    go_wp2
    go_end0
    exact ⟨rfl, by simpa using hp3, HB3.out⟩
end Go.Proofs.YtkenananejgcpaaGreatDoor.Jsn
