/-
  The walk of the statement DiskOwn: whatever the bytes it returns true, and nothing that was there before has changed.
-/
import Derived.Test.YtohdiepoeadenaaDApp
import Derived.Test.YtohdiepoeadenaaDLTor
import Derived.Laws.BitsAllLaws
namespace Go.Proofs.Ytohdiepoeadenaa.Dsk
open Go.RowKit
/-- The disks on the way. -/
def o1 (b : List UInt8) : Dk := ⟨splice a0.l 0 b, false, 1, false, 0, 0⟩
def o2 (b c : List UInt8) : Dk := ⟨splice (splice a0.l 0 b) 0 c, false, 2, false, 0, 0⟩
def o3 (b c : List UInt8) : Dk := ⟨splice (splice a0.l 0 b) 0 c, false, 2, true, 0, 0⟩
def o4 (b c : List UInt8) : Dk := ⟨splice (splice (splice a0.l 0 b) 0 c) 0 (c.take 0), true, 3, true, 0, 0⟩
theorem ow1 {b : List UInt8} (hb : b.length ≤ 500) : a0.write 0 b = (0, o1 b) := by
  have he : a0.err 0 b.length = 0 := Dk.err_ok rfl (by rw [a0_len]; omega)
  unfold Dk.write
  rw [if_neg (by rw [he]; simp), if_neg (show ¬ ((a0.set && a0.fw == 0) = true) by decide)]
  rfl
theorem o1_len {b : List UInt8} (hb : b.length ≤ 500) : (splice a0.l 0 b).length = 1024 := by
  rw [splice_length _ _ _ (by rw [a0_len]; omega), a0_len]
theorem o2_len {b c : List UInt8} (hb : b.length ≤ 500) (hc : c.length ≤ 500) : (splice (splice a0.l 0 b) 0 c).length = 1024 := by
  rw [splice_length _ _ _ (by rw [o1_len hb]; omega), o1_len hb]
theorem ow2 {b c : List UInt8} (hb : b.length ≤ 500) (hc : c.length ≤ 500) : (o1 b).write 0 c = (0, o2 b c) := by
  have he : (o1 b).err 0 c.length = 0 := Dk.err_ok rfl (by show ¬ ((0 : Int) < 0 ∨ (c.length : Int) < 0 ∨ ((splice a0.l 0 b).length : Int) - 0 < c.length); rw [o1_len hb]; omega)
  unfold Dk.write
  rw [if_neg (by rw [he]; simp), if_neg (show ¬ (((o1 b).set && (o1 b).fw == 0) = true) from (by decide : ¬ ((false && ((0 : Int) == 0)) = true)))]
  rfl
theorem ow4 {b c : List UInt8} (hb : b.length ≤ 500) (hc : c.length ≤ 500) : (o3 b c).write 0 c = (20, o4 b c) := by
  have he : (o3 b c).err 0 c.length = 0 := Dk.err_ok rfl (by show ¬ ((0 : Int) < 0 ∨ (c.length : Int) < 0 ∨ ((splice (splice a0.l 0 b) 0 c).length : Int) - 0 < c.length); rw [o2_len hb hc]; omega)
  unfold Dk.write
  rw [if_neg (by rw [he]; simp), if_pos (show (((o3 b c).set && (o3 b c).fw == 0) = true) from (by decide : ((true && ((0 : Int) == 0)) = true)))]
  rfl
theorem back {b : List UInt8} : ((splice a0.l 0 b).drop 0).take b.length = b := by simp [splice]
theorem xor_byte (x : UInt8) (k : Nat) (hk : k < 256) : ∃ y : UInt8, bits .xor .u8 (x.toNat : Int) (k : Int) = ((y.toNat : Nat) : Int) := by
  refine ⟨UInt8.ofNat (x.toNat ^^^ k), ?_⟩
  rw [u8_xor_nat x.toNat k x.toNat_lt hk, UInt8.toNat_ofNat', Nat.mod_eq_of_lt]
  exact Nat.xor_lt_two_pow (n := 8) x.toNat_lt hk
/-- Behind some rounds: a row of bytes, a disk, and all that was there. -/
def OInv (w : World) (B d g p n : Nat) (s : Dk) (wr : World) : Prop := (0 < n → LRow wr p n) ∧ Dsk wr d g s ∧ Below B w wr
set_option maxRecDepth 100000
set_option maxHeartbeats 1000000 in
theorem own_long (w : World) (A : Option Addr) (k : Nat) (b : List UInt8) (C : Option Addr) (m : Nat) (c : List UInt8) (h : 500 < b.length ∨ 500 < c.length) :
    Calls Try.prog 5 #[.slice A b.length k, .slice C c.length m] w fun e w' => e = .returned (.bool true) ∧ Below w.heap.size w w' := by
  have hx : (500 : Int) < b.length ∨ (¬ (500 : Int) < b.length ∧ (500 : Int) < c.length) := by omega
  clear h
  rcases hx with h1 | ⟨h1, h2⟩
  all_goals
    go_enter Try.func5, Try.ntmps5
    go_wp2_with fail
    refine (anchor_any w).mono ?_
    rintro e w1 ⟨rfl, hb1⟩
    have HB1 := Lib.hid hb1
    clear hb1
    go_wp2
    go_ret
    exact ⟨rfl, HB1.out⟩
set_option maxHeartbeats 4000000 in
theorem own_ok (w : World) (A : Option Addr) (k : Nat) (b : List UInt8) (C : Option Addr) (m : Nat) (c : List UInt8) (hb : b.length ≤ 500) (hc : c.length ≤ 500) (hbk : b.length ≤ k) (hcm : c.length ≤ m) (hA : A = none → k = 0) (hR : Rd w (· < w.heap.size) A b) (hRc : Rd w (· < w.heap.size) C c) :
    Calls Try.prog 5 #[.slice A b.length k, .slice C c.length m] w fun e w' => e = .returned (.bool true) ∧ Below w.heap.size w w' := by
  have h1 : ¬ (500 : Int) < b.length := by omega
  have h2 : ¬ (500 : Int) < c.length := by omega
  have HA := Lib.hid hA
  have HBl := Lib.hid hb
  have HCl := Lib.hid hc
  have HBk := Lib.hid hbk
  have HCm := Lib.hid hcm
  have HR := Lib.hid hR
  have HRc := Lib.hid hRc
  clear hb hc hbk hcm hR hRc hA
  go_enter Try.func5, Try.ntmps5
  go_wp2_with fail
  refine (anchor_any w).mono ?_
  rintro e w1 ⟨rfl, hb1⟩
  have HB1 := Lib.hid hb1
  clear hb1
  go_wp2_with fail
  refine (new_ok w1 1024 (by decide) (by decide)).mono ?_
  rintro e w2 ⟨rfl, h5, hb2, hz2⟩
  have H2 : Hid (Dsk w2 (w1.heap.size + 1) w1.heap.size a0) := Lib.hid h5
  have HB2 := Lib.hid (HB1.out.trans (hb2.mono HB1.out.size))
  have HQ := Lib.hid HB1.out.size
  have HZ2 := Lib.hid hz2
  clear h5 hb2 hz2 HB1
  generalize w1.heap.size = g at *
  have HB2' : Hid (Below w.heap.size w (w2.alloc (.cells #[] 5))) := Lib.hid (HB2.out.alloc HB2.out.size _)
  have HE := Lib.hid (own_empty w2)
  go_wp2_with (at_builtin; refine wpList_append_bytes rfl _ _ rfl w2.heap.size (.slice (some ⟨w2.heap.size, 0, none⟩) 0 0) [] rfl HE.out A k b rfl HA.out _ (HR.out.below HB2'.out (fun k h => h)) (by have := HBl.out; rw [List.length_nil]; omega) (by simp) ?_; intro v3 w3 hown3 hgrow3)
  have HB3 : Hid (Below w.heap.size w w3) := Lib.hid (HB2'.out.grown hgrow3 HB2'.out.size (fun j hj => by simp [Value.ownBlock] at hj; have := HB2.out.size; omega))
  have H3 : Hid (Dsk w3 (g + 1) g a0) := Lib.hid (by
    have hz := HZ2.out
    refine (H2.out.old ((Below.refl w2.heap.size w2).alloc (Nat.le_refl _) (.cells #[] 5))).below (B := g + 2) ?_ (by omega) (by omega)
    exact (Below.refl (g + 2) _).grown hgrow3 (by simp; omega) (fun j hj => by simp [Value.ownBlock] at hj; omega))
  rw [List.nil_append] at hown3
  obtain ⟨V, c3, rfl, hlc, p, hp, hrow, hrd⟩ := own_form hown3
  have HP : Hid (g + 2 ≤ p) := Lib.hid (by have := HZ2.out; omega)
  have HRow := Lib.hid hrow
  have HRd := Lib.hid hrd
  have HLc := Lib.hid hlc
  clear hrow hrd hlc hp hown3 hgrow3 HE HB2' HB2 H2
  have c1 := write_any w3 (g + 1) g a0 H3.out a0_ok 0 b V c3 _ HRd.out (by have := HP.out; omega) (by have := HP.out; omega) HLc.out (by decide) (by decide)
  rw [ow1 HBl.out] at c1
  go_wp2_with fail
  refine c1.mono ?_
  rintro e w4 ⟨rfl, h5, hb4, hz4⟩
  clear c1
  have HT : Hid (OInv w w.heap.size (g + 1) g p b.length (o1 b) w4) := Lib.hid ⟨fun h0 => (HRow.out h0).2.but hb4 (by have := HP.out; omega) (by have := HP.out; omega), h5, HB3.out.trans (hb4.below HB3.out.size (by have := HQ.out; omega) HQ.out)⟩
  have HV : Hid (0 < b.length → V = some ⟨p, 0, none⟩) := Lib.hid (fun h0 => (HRow.out h0).1)
  clear h5 hb4 hz4 HRow HRd HB3 H3
  go_wp2_with fail
  go_loopw [39] (fun i wr => ∃ j : Nat, j ≤ b.length ∧ i = .int .i64 j ∧ OInv w w.heap.size (g + 1) g p b.length (o1 b) wr) (fun i _ => b.length - (intOf i).toNat)
  case atStart => exact ⟨0, by omega, rfl, HT.out⟩
  case round =>
    obtain ⟨j, hj, rfl, hinv⟩ := hrel
    clear HT
    have HI := Lib.hid hinv
    clear hinv
    by_cases hlt : j < b.length
    · have hv := HV.out (by omega)
      subst hv
      obtain ⟨x, hc1⟩ := (HI.out.1 (by omega)).cell j hlt
      have hf1 := (HI.out.1 (by omega)).frozen j
      have hx := x.toNat_lt
      go_wp2
      go_roundw
      case rel =>
        refine ⟨j + 1, by omega, by go_num, ?_⟩
        obtain ⟨y, hy⟩ := xor_byte x 1 (by decide)
        rw [show ((1 : Nat) : Int) = 1 from rfl] at hy
        rw [hy]
        have := HP.out
        exact ⟨fun h0 => (HI.out.1 h0).put j y, ⟨HI.out.2.1.blk.other _ _ (by omega), HI.out.2.1.row.other _ _ (by omega), HI.out.2.1.ne⟩, HI.out.2.2.setCell (by show _ ≤ p; have := HQ.out; omega) _⟩
      case measure => simp [intOf]; omega
    · obtain ⟨hrw, hds, hbl⟩ := HI.out
      have HD := Lib.hid hds
      have HB := Lib.hid hbl
      clear hrw hds hbl HI HV HLc
      have c1 := read_ok wr (g + 1) g (o1 b) HD.out 0 b.length (by show (splice a0.l 0 b).length ≤ _; rw [o1_len HBl.out]; decide) rfl (by show _ ≤ (splice a0.l 0 b).length; rw [o1_len HBl.out]; have := HBl.out; omega)
      rw [show (o1 b).l = splice a0.l 0 b from rfl, back] at c1
      go_wp2_with fail
      refine c1.mono ?_
      rintro e w5 ⟨rfl, h5, hb5, hz5⟩
      clear c1
      have HT : Hid (OInv w w.heap.size (g + 1) g wr.heap.size b.length (o1 b) w5) := Lib.hid ⟨fun _ => LRow.of_blk h5 (Nat.le_refl _), HD.out.old hb5, HB.out.trans (hb5.mono HB.out.size)⟩
      have HP5 : Hid (g + 2 ≤ wr.heap.size) := Lib.hid HD.out.blk.lt
      clear h5 hb5 hz5 HD HB HP
      generalize wr.heap.size = q at *
      go_wp2_with fail
      obtain ⟨wo, hwo⟩ : ∃ wo, wo = wr := ⟨_, rfl⟩
      subst hwo
      go_loopw [58] (fun i wr => ∃ j : Nat, j ≤ b.length ∧ i = .int .i64 j ∧ OInv w w.heap.size (g + 1) g q b.length (o1 b) wr) (fun i _ => b.length - (intOf i).toNat)
      case atStart => exact ⟨0, by omega, rfl, HT.out⟩
      case round =>
        obtain ⟨j, hj, rfl, hinv⟩ := hrel
        clear HT
        have HI := Lib.hid hinv
        clear hinv
        by_cases hlt : j < b.length
        · obtain ⟨x, hc1⟩ := (HI.out.1 (by omega)).cell j hlt
          have hf1 := (HI.out.1 (by omega)).frozen j
          have hx := x.toNat_lt
          go_wp2
          go_roundw
          case rel =>
            refine ⟨j + 1, by omega, by go_num, ?_⟩
            obtain ⟨y, hy⟩ := xor_byte x 2 (by decide)
            rw [show ((2 : Nat) : Int) = 2 from rfl] at hy
            rw [hy]
            have := HP5.out
            exact ⟨fun h0 => (HI.out.1 h0).put j y, ⟨HI.out.2.1.blk.other _ _ (by omega), HI.out.2.1.row.other _ _ (by omega), HI.out.2.1.ne⟩, HI.out.2.2.setCell (by show _ ≤ q; have := HQ.out; omega) _⟩
          case measure => simp [intOf]; omega
        · obtain ⟨hrw, hds, hbl⟩ := HI.out
          have HD := Lib.hid hds
          have HB := Lib.hid hbl
          clear hrw hds hbl HI
          go_wp2_with fail
          refine (copy_any wr (g + 1) g (o1 b) HD.out (by show (splice a0.l 0 b).length ≤ _; rw [o1_len HBl.out]; decide)).mono ?_
          rintro e w6 ⟨rfl, h5, hb6, hz6⟩
          have H6 := Lib.hid h5
          have HD6 := Lib.hid (HD.out.old hb6)
          have HB6 := Lib.hid (HB.out.trans (hb6.mono HB.out.size))
          have HX : Hid (g + 2 ≤ wr.heap.size) := Lib.hid HD.out.blk.lt
          clear h5 hb6 hz6 HD HB
          generalize wr.heap.size = x at *
          have hq := HQ.out
          have hx := HX.out
          have HHx := Lib.hid (show w.heap.size ≤ x by omega)
          have c1 := write_any w6 x (x + 1) (o1 b) H6.out ⟨by show (splice a0.l 0 b).length ≤ _; rw [o1_len HBl.out]; decide, by show (0 : Int) ≤ 0; decide, by show (0 : Int) ≤ _; decide, by show (0 : Int) ≤ 0; decide, by show 1 ≤ _; decide⟩ 0 c C m _ (HRc.out.below HB6.out (fun k h => h)) (by omega) (by omega) HCm.out (by decide) (by decide)
          rw [ow2 HBl.out HCl.out] at c1
          clear hq hx
          go_wp2_with fail
          refine c1.mono ?_
          rintro e w7 ⟨rfl, h5, hb7, hz7⟩
          clear c1
          have H7 := Lib.hid h5
          have HD7 := Lib.hid (HD6.out.but hb7 (by have := HX.out; omega) (by have := HX.out; omega) (by have := HX.out; omega) (by have := HX.out; omega))
          have HB7 := Lib.hid (HB6.out.trans (hb7.below HB6.out.size HHx.out (by have := HHx.out; omega)))
          clear h5 hb7 hz7 H6 HD6 HB6
          go_wp2_with fail
          refine (light_ok w7 x (x + 1) _ H7.out 0 0 (by decide) (by decide)).mono ?_
          rintro e w8 ⟨rfl, h5, hb8, hz8⟩
          have H8 : Hid (Dsk w8 x (x + 1) (o3 b c)) := Lib.hid h5
          have HD8 := Lib.hid (HD7.out.but hb8 (by have := HX.out; omega) (by have := HX.out; omega) (by have := HX.out; omega) (by have := HX.out; omega))
          have HB8 := Lib.hid (HB7.out.trans (hb8.below HB7.out.size HHx.out (by have := HHx.out; omega)))
          clear h5 hb8 hz8 H7 HD7 HB7
          have c1 := write_any w8 x (x + 1) (o3 b c) H8.out ⟨by show (splice (splice a0.l 0 b) 0 c).length ≤ _; rw [o2_len HBl.out HCl.out]; decide, by show (0 : Int) ≤ 0; decide, by show (0 : Int) ≤ _; decide, by show (0 : Int) ≤ 0; decide, by show 2 ≤ _; decide⟩ 0 c C m _ (HRc.out.below HB8.out (fun k h => h)) (by have := HHx.out; omega) (by have := HHx.out; omega) HCm.out (by decide) (by decide)
          rw [ow4 HBl.out HCl.out] at c1
          go_wp2_with fail
          refine c1.mono ?_
          rintro e w9 ⟨rfl, h5, hb9, hz9⟩
          clear c1
          have H9 := Lib.hid h5
          have HD9 := Lib.hid (HD8.out.but hb9 (by have := HX.out; omega) (by have := HX.out; omega) (by have := HX.out; omega) (by have := HX.out; omega))
          have HB9 := Lib.hid (HB8.out.trans (hb9.below HB8.out.size HHx.out (by have := HHx.out; omega)))
          clear h5 hb9 hz9 H8 HD8 HB8
          have c1 := read_ok w9 (g + 1) g (o1 b) HD9.out 0 b.length (by show (splice a0.l 0 b).length ≤ _; rw [o1_len HBl.out]; decide) rfl (by show _ ≤ (splice a0.l 0 b).length; rw [o1_len HBl.out]; have := HBl.out; omega)
          rw [show (o1 b).l = splice a0.l 0 b from rfl, back] at c1
          go_wp2_with fail
          refine c1.mono ?_
          rintro e wx ⟨rfl, h5, hbx, hzx⟩
          clear c1
          have HX9 := Lib.hid (H9.out.old hbx)
          have HDx := Lib.hid (HD9.out.old hbx)
          have HBx := Lib.hid (HB9.out.trans (hbx.mono HB9.out.size))
          have hcv1 := conv_rd b.length b.length (Rd.of_blk h5) rfl
          have hcv2 : (convert 30 9 (.slice A b.length k)).run Try.prog wx = .ok (.string (mk b)) wx := conv_rd b.length k (HR.out.below HBx.out (fun k h => h)) rfl
          generalize w9.heap.size = y at *
          clear h5 hbx hzx
          go_wp2_with fail
          refine (up_any wx (g + 1) g _ HDx.out).mono ?_
          rintro e w' ⟨rfl, rfl⟩
          rw [show (!(o1 b).down) = true from rfl]
          go_wp2_with fail
          refine (up_any wx x (x + 1) _ HX9.out).mono ?_
          rintro e w' ⟨rfl, rfl⟩
          rw [show (!(o4 b c).down) = false from rfl]
          go_wp2_with fail
          refine (writes_any wx (g + 1) g _ HDx.out).mono ?_
          rintro e w' ⟨rfl, rfl⟩
          rw [show (o1 b).wr = 1 from rfl]
          go_wp2_with fail
          refine (writes_any wx x (x + 1) _ HX9.out).mono ?_
          rintro e w' ⟨rfl, rfl⟩
          rw [show (o4 b c).wr = 3 from rfl]
          go_wp2
          go_ret
          exact ⟨by simp, HBx.out⟩
theorem own_any (w : World) (A : Option Addr) (k : Nat) (b : List UInt8) (C : Option Addr) (m : Nat) (c : List UInt8) (hbk : b.length ≤ k) (hcm : c.length ≤ m) (_hx : k ≤ 2 ^ 63 - 1) (_hy : m ≤ 2 ^ 63 - 1) (hA : A = none → k = 0) (hR : Rd w (· < w.heap.size) A b) (hRc : Rd w (· < w.heap.size) C c) :
    Calls Try.prog 5 #[.slice A b.length k, .slice C c.length m] w fun e w' => e = .returned (.bool true) ∧ Below w.heap.size w w' := by
  by_cases h : 500 < b.length ∨ 500 < c.length
  · exact own_long w A k b C m c h
  · exact own_ok w A k b C m c (by omega) (by omega) hbk hcm hA hR hRc
end Go.Proofs.Ytohdiepoeadenaa.Dsk
