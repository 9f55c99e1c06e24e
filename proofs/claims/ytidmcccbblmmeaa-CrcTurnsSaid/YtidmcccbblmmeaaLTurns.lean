/-
  The walk of the statement CrcTurns: whatever the bytes, the place and the bits it returns true, and nothing that was there before has changed.
-/
import Derived.Test.YtidmcccbblmmeaaBytes
import Derived.BigRegion
namespace Go.Proofs.Ytidmcccbblmmeaa
open Go.RowKit
theorem sums_turn (p k : Nat) (h : p + k < 1000000) : ∃ j d r : Nat, j = p + k ∧ d = j / 8 ∧ r = j % 8 ∧ IntKind.i64.wrap ((p : Int) + (k : Int)) = (j : Int) ∧ IntKind.i64.wrap ((j : Int) / 8) = (d : Int) ∧ IntKind.i64.wrap ((j : Int) % 8) = (r : Int) := by
  refine ⟨p + k, (p + k) / 8, (p + k) % 8, rfl, rfl, rfl, ?_, ?_, ?_⟩
  · rw [IntKind.wrap_i64]; omega
  · rw [IntKind.wrap_i64]; omega
  · rw [IntKind.wrap_i64]; omega
theorem turn_num {x : Nat} (hx : x < 256) (j : Nat) : bits .xor .u8 (x : Int) (2 ^ (j % 8) % 256) = ((x ^^^ 2 ^ (j % 8) : Nat) : Int) := by
  have hb := Crc.bit_lt j
  have e : (2 : Int) ^ (j % 8) = ((2 ^ (j % 8) : Nat) : Int) := by
    rw [Int.natCast_pow]; rfl
  rw [e]
  generalize 2 ^ (j % 8) = y at *
  rw [show (y : Int) % 256 = (y : Int) by omega, u8_xor_nat x _ hx hb]
theorem bit_int (m k : Nat) : ((m : Int) / 2 ^ k) = ((m / 2 ^ k : Nat) : Int) := by
  rw [Int.natCast_ediv, Int.natCast_pow]; rfl
theorem div_lt32 {m : Nat} (k : Nat) (h : m < 4294967296) : m / 2 ^ k < 4294967296 := Nat.lt_of_le_of_lt (Nat.div_le_self _ _) h
theorem bit_off {m k : Nat} (h : m < 4294967296) (h0 : m / 2 ^ k % 2 = 0) : (bits .and .u32 ((m : Int) / 2 ^ k) 1 == 0) = true := by
  rw [bit_int, and_one _ (div_lt32 k h), h0]; rfl
theorem bit_on {m k : Nat} (h : m < 4294967296) (h1 : m / 2 ^ k % 2 = 1) : (bits .and .u32 ((m : Int) / 2 ^ k) 1 == 0) = false := by
  rw [bit_int, and_one _ (div_lt32 k h), h1]; rfl
set_option maxRecDepth 100000
set_option maxHeartbeats 1000000 in
theorem crcTurns_any (w : World) (A : Option Addr) (c : Nat) (bs : List Nat) (p : Int) (m : Nat) (hR : RdB w w.heap.size A bs) (hn : A = none → c = 0) (hc : bs.length ≤ c) (hb : Crc.Bs bs) (hm : bs.length ≤ 9223372036854775807) (hp1 : -9223372036854775808 ≤ p) (hp2 : p ≤ 9223372036854775807) (hm32 : m < 4294967296) :
    Calls Try.prog 5 #[.slice A bs.length c, .int .i64 p, .int .u32 (m : Int)] w fun e w' => e = .returned (.bool true) ∧ Below w.heap.size w w' := by
  have HR := Lib.hid hR
  have HBs := Lib.hid hb
  have HN := Lib.hid hn
  clear hR hb hn
  go_enter Try.func5, Try.ntmps5
  go_wp2_with fail
  refine (anchor_any w).mono ?_
  rintro e w1 ⟨rfl, hb1⟩
  have HB1 := Lib.hid hb1
  have hz1 := hb1.size
  clear hb1
  by_cases hlen : 2000 < bs.length
  · go_wp2
    go_ret
    exact ⟨rfl, HB1.out⟩
  have hd1 : decide ((2000 : Int) < (bs.length : Int)) = false := by simp; omega
  by_cases hneg : p < 0
  · go_wp2
    go_ret
    exact ⟨rfl, HB1.out⟩
  have hd2 : decide (p < 0) = false := by simp; omega
  obtain ⟨at', rfl⟩ : ∃ n : Nat, p = (n : Int) := ⟨p.toNat, by omega⟩
  by_cases hout : 8 * bs.length ≤ at'
  · have hd3 : decide (8 * (bs.length : Int) ≤ (at' : Int)) = true := by simp; omega
    go_wp2
    go_ret
    exact ⟨rfl, HB1.out⟩
  have hd3 : decide (8 * (bs.length : Int) ≤ (at' : Int)) = false := by simp; omega
  by_cases hz : m = 0
  · subst hz
    go_wp2
    go_ret
    exact ⟨rfl, HB1.out⟩
  have hd4 : ((m : Int) == 0) = false := by simp; omega
  have HR1 : Hid (RdB (w1.alloc (.cells #[] 5)) (w1.alloc (.cells #[] 5)).heap.size A bs) := Lib.hid ((HR.out.below (HB1.out.alloc hz1 _)).more (by simp; omega))
  go_wp2_with (at_builtin; refine wpList_append_bytes rfl _ _ rfl w1.heap.size _ [] rfl (empty_own w1) A c bs rfl HN.out HR1.out (by simp; omega) (by simp) ?_; intro v4 w4 hown4 hgrow4 hx4)
  clear hx4
  rw [List.nil_append] at hown4
  have HB4 : Hid (Below w.heap.size w w4) := Lib.hid ((HB1.out.alloc hz1 _).grown hgrow4 (by simp; omega) (fun j hj => by have := own_row (empty_own w1) j hj; omega))
  have hz4 : w1.heap.size ≤ w4.heap.size := by have := hgrow4.size; simp at this; omega
  obtain ⟨n, hbl⟩ : ∃ n, bs.length = n + 1 := ⟨bs.length - 1, by omega⟩
  obtain ⟨q, cap, hv4, hq⟩ : ∃ q cap, v4 = .slice (some ⟨q, 0, none⟩) bs.length cap ∧ w1.heap.size ≤ q := by
    rw [hbl] at hown4 ⊢
    exact own_slice hown4
  subst hv4
  have HO4 := Lib.hid hown4
  clear hown4 hgrow4 HR1 n hbl
  go_loopw [32] (fun i wr => ∃ k : Nat, k ≤ 32 ∧ i = .int .i64 k ∧ Below w.heap.size w wr ∧ ∃ cs : List Nat, Crc.Turned bs cs at' m k ∧ wr.ownsRow w1.heap.size 5 1 (.slice (some ⟨q, 0, none⟩) bs.length cap) bs.length (vals .u8 cs)) (fun i _ => 32 - (intOf i).toNat)
  case atStart => exact ⟨0, by omega, rfl, HB4.out, bs, Crc.Turned.start HBs.out _ _, HO4.out⟩
  case round =>
    obtain ⟨k, hk, rfl, hbel, cs, hT, hown⟩ := hrel
    have HB := Lib.hid hbel
    have HO := Lib.hid hown
    have HT := Lib.hid hT
    have hzw := hbel.size
    clear hbel hown hT HB4 HO4
    by_cases hlt : k < 32
    · rcases Nat.mod_two_eq_zero_or_one (m / 2 ^ k) with h0 | h1
      · have ht := bit_off hm32 h0
        have H0 := Lib.hid h0
        clear h0
        go_wp2
        go_roundw
        case rel => exact ⟨k + 1, by omega, by go_num, HB.out, cs, HT.out.keep H0.out, HO.out⟩
        case measure => simp [intOf]; omega
      · have ht := bit_on hm32 h1
        have H1 := Lib.hid h1
        clear h1
        by_cases hend : 8 * bs.length ≤ at' + k
        · have hd5 : decide (8 * (bs.length : Int) ≤ (at' : Int) + (k : Int)) = true := by simp; omega
          go_wp2
          go_ret
          exact ⟨rfl, HB.out⟩
        · have hd5 : decide (8 * (bs.length : Int) ≤ (at' : Int) + (k : Int)) = false := by simp; omega
          go_wp2
          obtain ⟨j, d, r, hj, hd, hr, e1, e2, e3⟩ := sums_turn at' k (by omega)
          have hlb : (d : Int) < (bs.length : Int) := by omega
          have hr8 : r < 8 := by omega
          have hcell : wr.cell? ⟨q, d, none⟩ = some (.int .u8 (cs.getD d 0 : Nat)) := by
            rw [HO.out.cellAt _ (by omega), vals_get _ _ _ (by rw [HT.out.1]; omega)]
          have hfz : wr.frozen? ⟨q, d, none⟩ = false := HO.out.frozenAt _
          have hx : cs.getD d 0 < 256 := HT.out.2.1.getD d
          have HJ := Lib.hid hj
          have HD := Lib.hid hd
          have HRm := Lib.hid hr
          clear hj hd hr
          generalize hg : cs.getD d 0 = x at *
          have HX := Lib.hid hg
          clear hg
          go_region
          clear e1 e2 e3
          go_wp2
          go_roundw
          case rel =>
            rw [turn_num hx j]
            have h1 := HT.out.turn H1.out (by omega)
            rw [← HJ.out, ← HD.out, HX.out] at h1
            have h2 := (HO.out.stored d (.int .u8 ((x ^^^ 2 ^ (j % 8) : Nat) : Int))).1
            rw [vals_set] at h2
            exact ⟨k + 1, by omega, by go_num, (HB.out.setCell (by show w.heap.size ≤ q; omega) _).drew, _, h1, h2⟩
          case measure => simp [intOf]; omega
    · obtain rfl : k = 32 := by omega
      rw [show ((32 : Nat) : Int) = (32 : Int) from rfl]
      clear hlt hk
      obtain ⟨X, cx, hv4, hcx, hcm, hXn, hXr, hXp⟩ := own_form (l := cs) (by rw [HT.out.1]; exact HO.out)
      have HD := Lib.hid (Crc.Turned.differs HBs.out HT.out (by omega) hz hm32)
      have HC := Lib.hid HT.out.2.1
      have HL := Lib.hid HT.out.1
      have HXr := Lib.hid hXr
      injection hv4 with hX hlx hcap
      subst hX hcap
      clear hlx hcm hXn hXr hXp
      go_wp2_with fail
      refine (sum_one wr _ _ _ _ bs rfl rfl ((HR.out.below HB.out).more hzw) hc HBs.out hm).mono ?_
      rintro e w5 ⟨rfl, hb5⟩
      have HB5 := Lib.hid (HB.out.trans (hb5.mono hzw))
      have hz5 := hb5.size
      have HX5 := Lib.hid ((HXr.out.below hb5).more hz5)
      clear hb5
      generalize Crc.sum bs = S1 at *
      go_wp2_with fail
      refine (sum_one w5 _ _ _ _ cs rfl HL.out HX5.out hcx HC.out (by rw [HL.out]; omega)).mono ?_
      rintro e w6 ⟨rfl, hb6⟩
      have HB6 := Lib.hid (HB5.out.trans (hb6.mono (by omega)))
      clear hb6
      generalize Crc.sum cs = S2 at *
      have hne : ((S1 : Int) != (S2 : Int)) = true := by have := HD.out; simp; omega
      go_wp2
      go_ret
      exact ⟨rfl, HB6.out⟩
end Go.Proofs.Ytidmcccbblmmeaa
