/-
  What encode and Encode do: the letters of the bytes' numbers, in a string of their own; nothing that was there before is changed.
-/
import Derived.Test.YtcpifencjmlhaaaDoorQ1
import Derived.Test.YtcpifencjmlhaaaDoorQShelf
namespace Go.Proofs.YtcpifencjmlhaaaDoor.B64
open Go.RowKit
/-- Letters of numbers. -/
def lets (al l : List Nat) : List Nat := l.map fun v => al.getD v 0
theorem lets_append (al l m : List Nat) : lets al (l ++ m) = lets al l ++ lets al m := by simp [lets]
theorem lets_Bs {al : List Nat} (h : Bs al) (l : List Nat) : Bs (lets al l) := fun x hx => by
  simp only [lets, List.mem_map] at hx
  obtain ⟨v, _, rfl⟩ := hx
  exact h.getD v
theorem lets_length (al l : List Nat) : (lets al l).length = l.length := by simp [lets]
theorem drain_step (B h : Nat) (h6 : 6 ≤ h) (h12 : h ≤ 12) : drain B h = B / 2 ^ (h - 6) % 64 :: drain B (h - 6) := by
  unfold drain
  by_cases h1 : h < 12
  · rw [if_neg (by omega), if_pos h1, if_pos (by omega)]
  · obtain rfl : h = 12 := by omega
    rfl
theorem drain_len (B h : Nat) : (drain B h).length ≤ 2 := by
  unfold drain
  split
  · simp
  · split <;> simp
theorem drain_none (B h : Nat) (h6 : h < 6) : drain B h = [] := by unfold drain; rw [if_pos h6]
theorem and63 (B : Nat) (h : B < 4294967296) : bits .and .u32 (B : Int) 63 = ((B % 64 : Nat) : Int) := by
  have := u32_and_nat B 63 h (by decide)
  rw [show (63 : Nat) = 2 ^ 6 - 1 from rfl, Nat.and_two_pow_sub_one_eq_mod] at this
  exact this
theorem or8 (B x : Nat) (hx : x < 256) : bits .or .u32 ((B : Int) * 256 % 4294967296) (x : Int) = (((B * 256 + x) % 4294967296 : Nat) : Int) := by
  rw [show (B : Int) * 256 % 4294967296 = ((B * 256 % 4294967296 : Nat) : Int) by omega]
  rw [u32_or_nat _ _ (Nat.mod_lt _ (by decide)) (by omega)]
  congr 1
  have := Nat.two_pow_add_eq_or_of_lt (i := 8) (b := x) hx (B % 16777216)
  rw [show 2 ^ 8 * (B % 16777216) = B * 256 % 4294967296 by omega] at this
  omega
/-- A builder that the call made holds these bytes. -/
abbrev Bld (w : World) (g : Nat) (l : List Nat) : Prop := Lib.IsBuilder 37 5 g g (vals .u8 l) w
set_option maxRecDepth 100000
set_option maxHeartbeats 1000000 in
theorem encode_any (w : World) (A : Option Addr) (c : Nat) (bs al : List Nat) (hR : RdB w w.heap.size A bs) (hb : Bs bs) (hal : al.length = 64) (hab : Bs al) (hm : bs.length ≤ 1000000) :
    Calls Tryd.prog 10 #[.slice A bs.length c, .string (str al)] w fun e w' => e = .returned (.string (str (lets al (enc bs)))) ∧ Below w.heap.size w w' := by
  have HR := Lib.hid hR
  have HBs := Lib.hid hb
  have HAL := Lib.hid hal
  have HAB := Lib.hid hab
  clear hR hb hal hab
  have hmf : ∀ (fn : Fn) (first cap : Array Value) (w : World), (Instr.makeFunc fn first cap).run Tryd.prog w = .ok (.func fn first cap) w := fun _ _ _ _ => rfl
  generalize hS : str al = sal
  have HS := Lib.hid hS
  clear hS
  go_enter Tryd.func10, Tryd.ntmps10
  go_wp2_with fail
  refine (letterCount_any bs.length _ (by omega)).mono ?_
  rintro e w1 ⟨rfl, rfl⟩
  go_wp2_with fail
  refine (grow_any w.heap.size w.heap.size (len bs.length) _ (Nat.le_refl _) (heap_alloc_new w _) (by simp) (by unfold len; omega)).mono ?_
  rintro e w1 ⟨rfl, hB1, hbel1⟩
  have HI : Hid (Bld w1 w.heap.size []) := Lib.hid hB1
  have HB1 : Hid (Below w.heap.size w w1) := Lib.hid (((Below.refl _ _).alloc (Nat.le_refl _) _).trans hbel1)
  clear hB1 hbel1
  go_wp2
  go_loopw [7, 8, 18] (fun b h i wr => ∃ k : Nat, k ≤ bs.length ∧ i = .int .i64 k ∧ b = .int .u32 ((erun ⟨[], 0, 0⟩ (bs.take k)).B : Nat) ∧ h = .int .u64 ((erun ⟨[], 0, 0⟩ (bs.take k)).h : Nat) ∧ (erun ⟨[], 0, 0⟩ (bs.take k)).out.length ≤ 2 * k ∧ Bld wr w.heap.size (lets al (erun ⟨[], 0, 0⟩ (bs.take k)).out) ∧ Below w.heap.size w wr) (fun _ _ i _ => bs.length - (intOf i).toNat)
  case atStart => exact ⟨0, by omega, rfl, rfl, rfl, by simp [erun_nil], HI.out, HB1.out⟩
  case round =>
    obtain ⟨k, hk, rfl, rfl, rfl, hlen, hI, hbel⟩ := hrel
    clear HI HB1
    have hheld : Held (erun ⟨[], 0, 0⟩ (bs.take k)) := erun_held _ _ ⟨.inl rfl, by decide⟩
    by_cases hlt : k < bs.length
    · obtain ⟨ad, rfl, hadb, hcs⟩ := (HR.out.below hbel) (by omega)
      have hc1 : wr.cell? (ad.add k) = some (.int .u8 (bs.getD k 0 : Nat)) := hcs k _ (vals_get _ _ _ hlt)
      have hx := HBs.out.getD k
      have HN := Lib.hid (erun_snoc ⟨[], 0, 0⟩ bs k hlt)
      have HI := Lib.hid hI
      have HB := Lib.hid hbel
      clear hcs hI hbel
      generalize erun ⟨[], 0, 0⟩ (bs.take k) = st at *
      generalize bs.getD k 0 = x at *
      obtain ⟨o, B, h⟩ := st
      obtain ⟨hh, hBl⟩ := hheld
      simp only at hh hBl HI hlen
      have hor := or8 B x hx
      have hN : estep ⟨o, B, h⟩ x = ⟨o ++ drain ((B * 256 + x) % 4294967296) (h + 8), (B * 256 + x) % 4294967296, (h + 8) % 6⟩ := rfl
      have hNB : (B * 256 + x) % 4294967296 < 4294967296 := Nat.mod_lt _ (by decide)
      rw [hN] at HN
      clear hN
      generalize (B * 256 + x) % 4294967296 = NB at *
      go_wp2
      clear hor
      go_loopw [8] (fun v wi => ∃ (j : Nat) (o' : List Nat), (j = 0 ∨ j = 2 ∨ j = 4 ∨ j = 6 ∨ j = 8 ∨ j = 10 ∨ j = 12) ∧ v = .int .u64 j ∧ o' ++ drain NB j = o ++ drain NB (h + 8) ∧ j % 6 = (h + 8) % 6 ∧ Bld wi w.heap.size (lets al o') ∧ Below w.heap.size w wi) (fun v _ => (intOf v).toNat)
      case atStart => exact ⟨h + 8, o, by omega, by go_num, rfl, rfl, HI.out, HB.out⟩
      case round =>
        obtain ⟨j, o', hj, rfl, ho, hj6, hI2, hbel2⟩ := hrel
        have hol : o'.length ≤ o.length + 2 := by
          have h1 := congrArg List.length ho
          rw [List.length_append, List.length_append] at h1
          have h2 := drain_len NB (h + 8)
          omega
        have HI2 := Lib.hid hI2
        have HB2 := Lib.hid hbel2
        have HO := Lib.hid ho
        clear hI2 hbel2 HI HB ho
        rcases (by omega : j < 6 ∨ j = 6 ∨ j = 8 ∨ j = 10 ∨ j = 12) with hj0 | hj0 | hj0 | hj0 | hj0
        · rw [drain_none _ _ hj0, List.append_nil] at HO
          have HO2 : Hid (o' = o ++ drain NB (h + 8)) := HO
          have HJ : Hid (j = (h + 8) % 6) := Lib.hid (by omega)
          have hd : decide ((6 : Int) ≤ (j : Int)) = false := decide_eq_false (by omega)
          clear HO
          go_wp2
          go_roundw
          case rel => exact ⟨k + 1, by omega, by go_num, by rw [HN.out], by rw [HN.out, HJ.out], by rw [HN.out]; show (o ++ _).length ≤ _; rw [← HO2.out]; omega, by rw [HN.out]; show Bld _ _ (lets al (o ++ _)); rw [← HO2.out]; exact HI2.out, HB2.out⟩
          case measure => simp [intOf]; omega
        · obtain rfl : j = 6 := by omega
          rw [show ((6 : Nat) : Int) = (6 : Int) from rfl]
          have hand : bits .and .u32 ((NB : Int)) 63 = ((NB / 1 % 64 : Nat) : Int) := by have := and63 NB hNB; rw [Nat.div_one]; exact this
          have HO2 : Hid ((o' ++ [NB / 1 % 64]) ++ drain NB 0 = o ++ drain NB (h + 8)) := Lib.hid (by rw [← HO.out, List.append_assoc]; exact congrArg _ (drain_step NB 6 (by omega) (by omega)).symm)
          have hv : NB / 1 % 64 < 64 := Nat.mod_lt _ (by decide)
          generalize NB / 1 % 64 = v at *
          have hix : ∀ w, (Instr.index 9 (.string sal) (.int .u32 (v : Int))).run Tryd.prog w = .ok (.int .u8 (al.getD v 0 : Nat)) w := fun w => by rw [← HS.out]; exact run_idx w al HAB.out .u32 v (by rw [HAL.out]; exact hv)
          clear HO
          go_wp2_with fail
          refine (writeByte_any w.heap.size w.heap.size (vals .u8 (lets al o')) _ _ HI2.out (by rw [vals_length, lets_length]; omega) HB2.out.size).mono ?_
          rintro e w3 ⟨rfl, hI3, hbel3⟩
          have HI3 : Hid (Bld w3 w.heap.size (lets al (o' ++ [v]))) := Lib.hid (by rw [lets_append]; unfold Bld; rw [vals_append]; exact hI3)
          have HB3 : Hid (Below w.heap.size w w3) := Lib.hid (HB2.out.trans hbel3)
          clear hI3 hbel3 HI2 HB2
          go_wp2
          go_roundw
          case rel => exact ⟨0, o' ++ [v], by omega, rfl, HO2.out, by omega, HI3.out, HB3.out⟩
          case measure => simp [intOf]
        · obtain rfl : j = 8 := by omega
          rw [show ((8 : Nat) : Int) = (8 : Int) from rfl]
          have hand : bits .and .u32 ((NB : Int) / 4) 63 = ((NB / 4 % 64 : Nat) : Int) := and63 (NB / 4) (by omega)
          have HO2 : Hid ((o' ++ [NB / 4 % 64]) ++ drain NB 2 = o ++ drain NB (h + 8)) := Lib.hid (by rw [← HO.out, List.append_assoc]; exact congrArg _ (drain_step NB 8 (by omega) (by omega)).symm)
          have hv : NB / 4 % 64 < 64 := Nat.mod_lt _ (by decide)
          generalize NB / 4 % 64 = v at *
          have hix : ∀ w, (Instr.index 9 (.string sal) (.int .u32 (v : Int))).run Tryd.prog w = .ok (.int .u8 (al.getD v 0 : Nat)) w := fun w => by rw [← HS.out]; exact run_idx w al HAB.out .u32 v (by rw [HAL.out]; exact hv)
          clear HO
          go_wp2_with fail
          refine (writeByte_any w.heap.size w.heap.size (vals .u8 (lets al o')) _ _ HI2.out (by rw [vals_length, lets_length]; omega) HB2.out.size).mono ?_
          rintro e w3 ⟨rfl, hI3, hbel3⟩
          have HI3 : Hid (Bld w3 w.heap.size (lets al (o' ++ [v]))) := Lib.hid (by rw [lets_append]; unfold Bld; rw [vals_append]; exact hI3)
          have HB3 : Hid (Below w.heap.size w w3) := Lib.hid (HB2.out.trans hbel3)
          clear hI3 hbel3 HI2 HB2
          go_wp2
          go_roundw
          case rel => exact ⟨2, o' ++ [v], by omega, rfl, HO2.out, by omega, HI3.out, HB3.out⟩
          case measure => simp [intOf]
        · obtain rfl : j = 10 := by omega
          rw [show ((10 : Nat) : Int) = (10 : Int) from rfl]
          have hand : bits .and .u32 ((NB : Int) / 16) 63 = ((NB / 16 % 64 : Nat) : Int) := and63 (NB / 16) (by omega)
          have HO2 : Hid ((o' ++ [NB / 16 % 64]) ++ drain NB 4 = o ++ drain NB (h + 8)) := Lib.hid (by rw [← HO.out, List.append_assoc]; exact congrArg _ (drain_step NB 10 (by omega) (by omega)).symm)
          have hv : NB / 16 % 64 < 64 := Nat.mod_lt _ (by decide)
          generalize NB / 16 % 64 = v at *
          have hix : ∀ w, (Instr.index 9 (.string sal) (.int .u32 (v : Int))).run Tryd.prog w = .ok (.int .u8 (al.getD v 0 : Nat)) w := fun w => by rw [← HS.out]; exact run_idx w al HAB.out .u32 v (by rw [HAL.out]; exact hv)
          clear HO
          go_wp2_with fail
          refine (writeByte_any w.heap.size w.heap.size (vals .u8 (lets al o')) _ _ HI2.out (by rw [vals_length, lets_length]; omega) HB2.out.size).mono ?_
          rintro e w3 ⟨rfl, hI3, hbel3⟩
          have HI3 : Hid (Bld w3 w.heap.size (lets al (o' ++ [v]))) := Lib.hid (by rw [lets_append]; unfold Bld; rw [vals_append]; exact hI3)
          have HB3 : Hid (Below w.heap.size w w3) := Lib.hid (HB2.out.trans hbel3)
          clear hI3 hbel3 HI2 HB2
          go_wp2
          go_roundw
          case rel => exact ⟨4, o' ++ [v], by omega, rfl, HO2.out, by omega, HI3.out, HB3.out⟩
          case measure => simp [intOf]
        · obtain rfl : j = 12 := by omega
          rw [show ((12 : Nat) : Int) = (12 : Int) from rfl]
          have hand : bits .and .u32 ((NB : Int) / 64) 63 = ((NB / 64 % 64 : Nat) : Int) := and63 (NB / 64) (by omega)
          have HO2 : Hid ((o' ++ [NB / 64 % 64]) ++ drain NB 6 = o ++ drain NB (h + 8)) := Lib.hid (by rw [← HO.out, List.append_assoc]; exact congrArg _ (drain_step NB 12 (by omega) (by omega)).symm)
          have hv : NB / 64 % 64 < 64 := Nat.mod_lt _ (by decide)
          generalize NB / 64 % 64 = v at *
          have hix : ∀ w, (Instr.index 9 (.string sal) (.int .u32 (v : Int))).run Tryd.prog w = .ok (.int .u8 (al.getD v 0 : Nat)) w := fun w => by rw [← HS.out]; exact run_idx w al HAB.out .u32 v (by rw [HAL.out]; exact hv)
          clear HO
          go_wp2_with fail
          refine (writeByte_any w.heap.size w.heap.size (vals .u8 (lets al o')) _ _ HI2.out (by rw [vals_length, lets_length]; omega) HB2.out.size).mono ?_
          rintro e w3 ⟨rfl, hI3, hbel3⟩
          have HI3 : Hid (Bld w3 w.heap.size (lets al (o' ++ [v]))) := Lib.hid (by rw [lets_append]; unfold Bld; rw [vals_append]; exact hI3)
          have HB3 : Hid (Below w.heap.size w w3) := Lib.hid (HB2.out.trans hbel3)
          clear hI3 hbel3 HI2 HB2
          go_wp2
          go_roundw
          case rel => exact ⟨6, o' ++ [v], by omega, rfl, HO2.out, by omega, HI3.out, HB3.out⟩
          case measure => simp [intOf]
    · obtain rfl : k = bs.length := by omega
      rw [List.take_length] at *
      have HF := Lib.hid (efin_erun bs HBs.out [] 0)
      generalize erun ⟨[], 0, 0⟩ bs = st at *
      obtain ⟨o, B, h⟩ := st
      obtain ⟨hh, hBl⟩ := hheld
      simp only at hh hBl hlen hI
      have HI := Lib.hid hI
      have HB := Lib.hid hbel
      clear hI hbel
      rcases hh with rfl | rfl | rfl
      · rw [efin0, List.nil_append] at HF
        have HI4 : Hid (Bld wr w.heap.size (lets al (enc bs))) := Lib.hid (by rw [← HF.out]; exact HI.out)
        clear HI HF
        rw [show ((0 : Nat) : Int) = (0 : Int) from rfl]
        go_wp2_with fail
        refine (string_any w.heap.size w.heap.size ((lets al (enc bs)).map UInt8.ofNat) _ (by rw [cells_str (lets_Bs HAB.out _)]; exact HI4.out) HB.out.size).mono ?_
        rintro e w5 ⟨rfl, hbel5⟩
        have HB5 : Hid (Below w.heap.size w w5) := Lib.hid (HB.out.trans hbel5)
        clear hbel5
        go_wp2
        go_ret
        exact ⟨rfl, HB5.out⟩
      · rw [efin2, List.nil_append] at HF
        rw [show ((2 : Nat) : Int) = (2 : Int) from rfl]
        have hand : bits .and .u32 ((B : Int) * 16 % 4294967296) 63 = ((B * 16 % 64 : Nat) : Int) := by
          have := and63 (B * 16 % 4294967296) (Nat.mod_lt _ (by decide))
          rw [show B * 16 % 4294967296 % 64 = B * 16 % 64 by omega] at this
          exact this
        have hv : B * 16 % 64 < 64 := Nat.mod_lt _ (by decide)
        generalize B * 16 % 64 = v at *
        have hix : ∀ w, (Instr.index 9 (.string sal) (.int .u32 (v : Int))).run Tryd.prog w = .ok (.int .u8 (al.getD v 0 : Nat)) w := fun w => by rw [← HS.out]; exact run_idx w al HAB.out .u32 v (by rw [HAL.out]; exact hv)
        go_wp2_with fail
        refine (writeByte_any w.heap.size w.heap.size (vals .u8 (lets al o)) _ _ HI.out (by rw [vals_length, lets_length]; omega) HB.out.size).mono ?_
        rintro e w3 ⟨rfl, hI3, hbel3⟩
        have HI3 : Hid (Bld w3 w.heap.size (lets al (enc bs))) := Lib.hid (by rw [← HF.out, lets_append]; unfold Bld; rw [vals_append]; exact hI3)
        have HB3 : Hid (Below w.heap.size w w3) := Lib.hid (HB.out.trans hbel3)
        clear hI3 hbel3 HI HB HF
        go_wp2_with fail
        refine (string_any w.heap.size w.heap.size ((lets al (enc bs)).map UInt8.ofNat) _ (by rw [cells_str (lets_Bs HAB.out _)]; exact HI3.out) HB3.out.size).mono ?_
        rintro e w5 ⟨rfl, hbel5⟩
        have HB5 : Hid (Below w.heap.size w w5) := Lib.hid (HB3.out.trans hbel5)
        clear hbel5
        go_wp2
        go_ret
        exact ⟨rfl, HB5.out⟩
      · rw [efin4, List.nil_append] at HF
        rw [show ((4 : Nat) : Int) = (4 : Int) from rfl]
        have hand : bits .and .u32 ((B : Int) * 4 % 4294967296) 63 = ((B * 4 % 64 : Nat) : Int) := by
          have := and63 (B * 4 % 4294967296) (Nat.mod_lt _ (by decide))
          rw [show B * 4 % 4294967296 % 64 = B * 4 % 64 by omega] at this
          exact this
        have hv : B * 4 % 64 < 64 := Nat.mod_lt _ (by decide)
        generalize B * 4 % 64 = v at *
        have hix : ∀ w, (Instr.index 9 (.string sal) (.int .u32 (v : Int))).run Tryd.prog w = .ok (.int .u8 (al.getD v 0 : Nat)) w := fun w => by rw [← HS.out]; exact run_idx w al HAB.out .u32 v (by rw [HAL.out]; exact hv)
        go_wp2_with fail
        refine (writeByte_any w.heap.size w.heap.size (vals .u8 (lets al o)) _ _ HI.out (by rw [vals_length, lets_length]; omega) HB.out.size).mono ?_
        rintro e w3 ⟨rfl, hI3, hbel3⟩
        have HI3 : Hid (Bld w3 w.heap.size (lets al (enc bs))) := Lib.hid (by rw [← HF.out, lets_append]; unfold Bld; rw [vals_append]; exact hI3)
        have HB3 : Hid (Below w.heap.size w w3) := Lib.hid (HB.out.trans hbel3)
        clear hI3 hbel3 HI HB HF
        go_wp2_with fail
        refine (string_any w.heap.size w.heap.size ((lets al (enc bs)).map UInt8.ofNat) _ (by rw [cells_str (lets_Bs HAB.out _)]; exact HI3.out) HB3.out.size).mono ?_
        rintro e w5 ⟨rfl, hbel5⟩
        have HB5 : Hid (Below w.heap.size w w5) := Lib.hid (HB3.out.trans hbel5)
        clear hbel5
        go_wp2
        go_ret
        exact ⟨rfl, HB5.out⟩
theorem url_str : str url = ⟨#[65, 66, 67, 68, 69, 70, 71, 72, 73, 74, 75, 76, 77, 78, 79, 80, 81, 82, 83, 84, 85, 86, 87, 88, 89, 90, 97, 98, 99, 100, 101, 102, 103, 104, 105, 106, 107, 108, 109, 110, 111, 112, 113, 114, 115, 116, 117, 118, 119, 120, 121, 122, 48, 49, 50, 51, 52, 53, 54, 55, 56, 57, 45, 95]⟩ := by kernel_rfl
theorem url_len : url.length = 64 := rfl
theorem url_Bs : Bs url := by unfold Bs; decide +kernel
/-- The encoding of bytes. -/
def encU (bs : List Nat) : List Nat := lets url (enc bs)
theorem encU_Bs (bs : List Nat) : Bs (encU bs) := lets_Bs url_Bs _
theorem encU_length (bs : List Nat) : (encU bs).length = len bs.length := by unfold encU; rw [lets_length, enc_length]
set_option maxHeartbeats 400000 in
theorem Encode_any (w : World) (A : Option Addr) (c : Nat) (bs : List Nat) (hR : RdB w w.heap.size A bs) (hb : Bs bs) (hm : bs.length ≤ 1000000) :
    Calls Tryd.prog 9 #[.slice A bs.length c] w fun e w' => e = .returned (.string (str (encU bs))) ∧ Below w.heap.size w w' := by
  have HC := Lib.hid (encode_any w A c bs url hR hb url_len url_Bs hm)
  rw [url_str] at HC
  clear hR hb
  go_enter Tryd.func9, Tryd.ntmps9
  go_wp2_with fail
  refine HC.out.mono ?_
  rintro e w1 ⟨rfl, hb1⟩
  clear HC
  have HB := Lib.hid hb1
  clear hb1
  have HE : Hid (str (lets url (enc bs)) = str (encU bs)) := Lib.hid rfl
  generalize str (lets url (enc bs)) = r at *
  go_wp2
  go_ret
  exact ⟨by rw [HE.out]; rfl, HB.out⟩
end Go.Proofs.YtcpifencjmlhaaaDoor.B64
