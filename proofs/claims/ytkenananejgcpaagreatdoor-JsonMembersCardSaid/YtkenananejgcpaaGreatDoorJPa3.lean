/-
  Escapes: hexadecimal digits and numbers, the letters behind a sign.
-/
import Derived.Test.YtkenananejgcpaaGreatDoorJPa2
import Derived.Test.YtkenananejgcpaaGreatDoorTShelf2
import Derived.Laws.BitsLemmas
namespace Go.Proofs.YtkenananejgcpaaGreatDoor.Jsn
open Go.RowKit Txt
def hexv (b : Nat) : Int := if 48 ≤ b ∧ b ≤ 57 then (b : Int) - 48 else if 97 ≤ b ∧ b ≤ 102 then (b : Int) - 87 else if 65 ≤ b ∧ b ≤ 70 then (b : Int) - 55 else -1
def unesc (b : Nat) : Nat := if b = 34 ∨ b = 92 ∨ b = 47 then b else if b = 98 then 8 else if b = 102 then 12 else if b = 110 then 10 else if b = 114 then 13 else if b = 116 then 9 else 0
theorem hexv_lt (b : Nat) : -1 ≤ hexv b ∧ hexv b ≤ 15 := by unfold hexv; repeat' split
                                                            all_goals omega
set_option maxRecDepth 100000
set_option maxHeartbeats 2000000 in
theorem hexDigit_any (b : UInt8) (w : World) : Calls Tryz.prog 117 #[.int .u8 (b.toNat : Nat)] w fun e w' => e = .returned (.int .i32 (hexv b.toNat)) ∧ w' = w := by
  have hb := b.toNat_lt
  generalize b.toNat = n at *
  by_cases h1 : 48 ≤ n ∧ n ≤ 57
  · have k1 : (48 : Int) ≤ (n : Int) := by omega
    have k2 : (n : Int) ≤ 57 := by omega
    have k3 : IntKind.u8.wrap ((n : Int) - 48) = (n : Int) - 48 := by rw [IntKind.wrap_u8]; omega
    have k4 : IntKind.i32.wrap ((n : Int) - 48) = (n : Int) - 48 := by rw [IntKind.wrap_i32]; omega
    have HE : Hid (hexv n = (n : Int) - 48) := Lib.hid (by unfold hexv; rw [if_pos h1])
    clear h1 hb
    go_enter Tryz.func117, Tryz.ntmps117
    go_wp2
    go_ret
    exact ⟨ret_num HE.out.symm, rfl⟩
  by_cases h2 : 97 ≤ n ∧ n ≤ 102
  · have k0 : ¬ (n : Int) ≤ 57 := by omega
    have k1 : (97 : Int) ≤ (n : Int) := by omega
    have k2 : (n : Int) ≤ 102 := by omega
    have k3 : IntKind.u8.wrap ((n : Int) - 97) = (n : Int) - 97 := by rw [IntKind.wrap_u8]; omega
    have k4 : IntKind.i32.wrap ((n : Int) - 97) = (n : Int) - 97 := by rw [IntKind.wrap_i32]; omega
    have k5 : IntKind.i32.wrap ((n : Int) - 97 + 10) = (n : Int) - 97 + 10 := by rw [IntKind.wrap_i32]; omega
    have HE : Hid (hexv n = (n : Int) - 97 + 10) := Lib.hid (by unfold hexv; rw [if_neg h1, if_pos h2]; omega)
    clear h1 h2 hb
    go_enter Tryz.func117, Tryz.ntmps117
    go_wp2
    all_goals go_ret
    all_goals exact ⟨ret_num HE.out.symm, rfl⟩
  by_cases h3 : 65 ≤ n ∧ n ≤ 70
  · have k0 : ¬ (n : Int) ≤ 57 := by omega
    have k00 : ¬ (97 : Int) ≤ (n : Int) := by omega
    have k1 : (65 : Int) ≤ (n : Int) := by omega
    have k2 : (n : Int) ≤ 70 := by omega
    have k3 : IntKind.u8.wrap ((n : Int) - 65) = (n : Int) - 65 := by rw [IntKind.wrap_u8]; omega
    have k4 : IntKind.i32.wrap ((n : Int) - 65) = (n : Int) - 65 := by rw [IntKind.wrap_i32]; omega
    have k5 : IntKind.i32.wrap ((n : Int) - 65 + 10) = (n : Int) - 65 + 10 := by rw [IntKind.wrap_i32]; omega
    have HE : Hid (hexv n = (n : Int) - 65 + 10) := Lib.hid (by unfold hexv; rw [if_neg h1, if_neg h2, if_pos h3]; omega)
    clear h1 h2 h3 hb
    go_enter Tryz.func117, Tryz.ntmps117
    go_wp2
    all_goals go_ret
    all_goals exact ⟨ret_num HE.out.symm, rfl⟩
  have HE : Hid (hexv n = -1) := Lib.hid (by unfold hexv; rw [if_neg h1, if_neg h2, if_neg h3])
  have HB := Lib.hid (show n < 256 ∧ ¬ (48 ≤ n ∧ n ≤ 57) ∧ ¬ (97 ≤ n ∧ n ≤ 102) ∧ ¬ (65 ≤ n ∧ n ≤ 70) from ⟨hb, h1, h2, h3⟩)
  clear h1 h2 h3 hb
  go_enter Tryz.func117, Tryz.ntmps117
  go_wp2
  all_goals (try (exfalso; have := HB.out; omega))
  all_goals go_ret
  all_goals exact ⟨ret_num HE.out.symm, rfl⟩
set_option maxHeartbeats 2000000 in
theorem unescape_any (b : UInt8) (w : World) : Calls Tryz.prog 109 #[.int .u8 (b.toNat : Nat)] w fun e w' => e = .returned (.int .i32 (unesc b.toNat : Nat)) ∧ w' = w := by
  have hb := b.toNat_lt
  generalize b.toNat = n at *
  have k4 : IntKind.i32.wrap (n : Int) = (n : Int) := by rw [IntKind.wrap_i32]; omega
  clear hb
  go_enter Tryz.func109, Tryz.ntmps109
  go_wp2
  all_goals go_ret
  all_goals refine ⟨ret_num ?_, rfl⟩
  all_goals clear k4
  all_goals simp only [beq_iff_eq, beq_eq_false_iff_ne, ne_eq] at *
  all_goals unfold unesc
  all_goals (repeat' split) <;> omega
/-- Four digits at a place. -/
structure Hex4 (t : List UInt8) (a : Nat) (n : Int) : Prop where
  room : a + 4 ≤ t.length
  d0 : 0 ≤ hexv (nb t a).toNat
  d1 : 0 ≤ hexv (nb t (a + 1)).toNat
  d2 : 0 ≤ hexv (nb t (a + 2)).toNat
  d3 : 0 ≤ hexv (nb t (a + 3)).toNat
  val : n = ((hexv (nb t a).toNat * 16 + hexv (nb t (a + 1)).toNat) * 16 + hexv (nb t (a + 2)).toNat) * 16 + hexv (nb t (a + 3)).toNat
theorem or16 {x y : Int} (hx0 : 0 ≤ x) (hx : x ≤ 4095) (h0 : 0 ≤ y) (h1 : y < 16) : bits .or .i32 (x * 16) y = x * 16 + y :=
  bits_join .i32 31 (by decide) wraps_i32 4 (x * 16) y (by omega) (by omega) (by omega) h0 h1 (by omega)
def hacc (t : List UInt8) (a : Nat) : Nat → Int
  | 0 => 0
  | k + 1 => hacc t a k * 16 + hexv (nb t (a + k)).toNat
theorem hacc_lt (t : List UInt8) (a : Nat) : ∀ k, (∀ i, i < k → 0 ≤ hexv (nb t (a + i)).toNat) → 0 ≤ hacc t a k ∧ hacc t a k < 16 ^ k
  | 0, _ => by simp [hacc]
  | k + 1, h => by
    have ih := hacc_lt t a k (fun i hi => h i (by omega))
    have h1 := h k (by omega)
    have h2 := hexv_lt (nb t (a + k)).toNat
    have : (16 : Int) ^ (k + 1) = 16 ^ k * 16 := Int.pow_succ ..
    unfold hacc
    omega
set_option maxHeartbeats 2000000 in
theorem hexNumber_any (pp : Nat) (t : List UInt8) (a r : Nat) (n : Int) (w : World) (h : Ps w pp t a r) (hh : Hex4 t a n) (hl : t.length ≤ 100000) :
    Calls Tryz.prog 110 #[.pointer (some ⟨pp, 0, none⟩)] w fun e w' => e = .returned (.int .i32 n) ∧ Ps w' pp t (a + 4) r ∧ G pp w w' := by
  have HP := Lib.hid h
  have hd : ∀ i, i < 4 → 0 ≤ hexv (nb t (a + i)).toNat := fun i hi => by
    have : i = 0 ∨ i = 1 ∨ i = 2 ∨ i = 3 := by omega
    rcases this with rfl | rfl | rfl | rfl
    · exact hh.d0
    · exact hh.d1
    · exact hh.d2
    · exact hh.d3
  have HV : Hid (n = hacc t a 4) := Lib.hid (by rw [hh.val]; simp [hacc])
  have HD := Lib.hid hd
  have HR := Lib.hid (show a + 4 ≤ t.length ∧ t.length ≤ 100000 from ⟨hh.room, hl⟩)
  clear h hh hd hl
  go_enter Tryz.func110, Tryz.ntmps110
  go_wp2
  go_loopw [3, 5] (fun v i wr => ∃ k : Nat, k ≤ 4 ∧ i = .int .i64 k ∧ v = .int .i32 (hacc t a k) ∧ Ps wr pp t (a + k) r ∧ G pp w wr) (fun _ i _ => 4 - (intOf i).toNat)
  case atStart => exact ⟨0, by omega, rfl, rfl, HP.out, G.refl _ _⟩
  case round =>
    obtain ⟨k, hk, rfl, rfl, hp, hg⟩ := hrel
    have HQ := Lib.hid hp
    have HG := Lib.hid hg
    clear hp hg HP
    by_cases hlt : k < 4
    · have k1 : (k : Int) < 4 := by omega
      have hr := HR.out
      obtain ⟨c, hc⟩ : ∃ c, c = a + k := ⟨_, rfl⟩
      have HCC := Lib.hid hc
      have hd := HD.out k hlt
      have hac := hacc_lt t a k (fun i hi => HD.out i (by omega))
      have hac2 : hacc t a k ≤ 4095 := by
        have : k = 0 ∨ k = 1 ∨ k = 2 ∨ k = 3 := by omega
        rcases this with rfl | rfl | rfl | rfl <;> simp at hac <;> omega
      have HA : Hid (hacc t a (k + 1) = hacc t a k * 16 + hexv (nb t (a + k)).toNat) := Lib.hid rfl
      rw [← hc] at hd HA HQ
      have HC := Lib.hid (next_any pp t c r wr HQ.out (by omega))
      have hdu := (hexv_lt (nb t c).toNat).2
      have HX := fun w => Lib.hid (hexDigit_any (nb t c) w)
      have hc2 : (0 : Int) ≤ (c : Int) + 1 ∧ (c : Int) + 1 ≤ 10000000 := by omega
      generalize nb t c = y at *
      generalize hexv y.toNat = d at *
      generalize hacc t a k = x at *
      have o1 : IntKind.i32.wrap (x * 16) = x * 16 := by rw [IntKind.wrap_i32]; omega
      have o2 := or16 hac.1 hac2 hd (by omega)
      have o3 : ¬ d < 0 := by omega
      have w1 := wrap64i hc2.1 hc2.2
      clear hc hc2 hr hac hac2 hdu
      go_wp2_with fail
      refine HC.out.mono ?_
      rintro e w2 ⟨rfl, hp2, hg2⟩
      obtain ⟨c0, c1, -, f1, -⟩ := hp2.cells
      have HP2 := Lib.hid (hp2.set1 (c + 1))
      have HG2 := Lib.hid ((HG.out.trans hg2).trans (put1 pp (.int .i64 ((c : Int) + 1))))
      clear hp2 hg2 HC HQ HG
      go_wp2_with fail
      refine (HX _).out.mono ?_
      rintro e w3 ⟨rfl, rfl⟩
      go_wp2
      go_roundw
      case rel => exact ⟨k + 1, by omega, by go_num, by rw [HA.out], by rw [show a + (k + 1) = c + 1 by have := HCC.out; omega]; exact HP2.out, HG2.out⟩
      case measure => simp [intOf]; omega
    · obtain rfl : k = 4 := by omega
      go_wp2
      go_ret
      exact ⟨by rw [HV.out]; rfl, HQ.out, HG.out⟩
end Go.Proofs.YtkenananejgcpaaGreatDoor.Jsn
