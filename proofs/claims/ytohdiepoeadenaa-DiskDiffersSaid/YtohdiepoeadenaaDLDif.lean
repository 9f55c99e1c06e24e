/-
  The walk of the statement DiskDiffers: whatever the bytes and the place it returns true, and nothing that was there before has changed.
-/
import Derived.Test.YtohdiepoeadenaaD6
import Derived.Test.YtohdiepoeadenaaDLTor
namespace Go.Proofs.Ytohdiepoeadenaa.Dsk
open Go.RowKit
def f1 (b : List UInt8) (a : Nat) : Dk := ⟨splice a0.l a b, false, 1, false, 0, 0⟩
def e0 : Dk := ⟨List.replicate 1025 0, false, 0, false, 0, 0⟩
theorem e0_len : e0.l.length = 1025 := by decide +kernel
theorem fw1 {b : List UInt8} {a : Nat} (hb : a + b.length ≤ 1024) : a0.write a b = (0, f1 b a) := by
  have he : a0.err a b.length = 0 := Dk.err_ok rfl (by rw [a0_len]; omega)
  unfold Dk.write
  rw [if_neg (by rw [he]; simp), if_neg (show ¬ ((a0.set && a0.fw == 0) = true) by decide)]
  rfl
theorem f1_len {b : List UInt8} {a : Nat} (hb : a + b.length ≤ 1024) : (splice a0.l a b).length = 1024 := by
  rw [splice_length _ _ _ (by rw [a0_len]; omega), a0_len]
/-- While the spans are looked at: both rows, the spans, and all that was there. -/
structure VInv (w : World) (B P1 P2 : Nat) (l1 l2 : List UInt8) (A : Option Addr) (ss : List Sp) (wr : World) : Prop where
  r1 : Blk wr P1 5 (bc l1)
  r2 : Blk wr P2 5 (bc l2)
  rs : RdC wr (fun _ => True) A (spanCells ss)
  bel : Below B w wr
theorem VInv.old {w : World} {B P1 P2 : Nat} {l1 l2 : List UInt8} {A : Option Addr} {ss : List Sp} {wr wr' : World} (hB : B ≤ w.heap.size) (h : VInv w B P1 P2 l1 l2 A ss wr) (hb : Below wr.heap.size wr wr') : VInv w B P1 P2 l1 l2 A ss wr' :=
  ⟨h.r1.below hb h.r1.lt, h.r2.below hb h.r2.lt, h.rs.old hb, h.bel.trans (hb.mono (Nat.le_trans hB h.bel.size))⟩
theorem run_max0 (E : Int) (lo : Nat) (h : lo = E.toNat) (w : World) : (Builtin.max_ #[3, 3] 3 #[.int .i64 E, .int .i64 0]).run Try.prog w = .ok (.int .i64 (lo : Int)) w := by
  rw [run_max_int2]
  congr 2
  split <;> omega
theorem byte_eq {x y : UInt8} (h : x = y) : ((x.toNat : Int) != (y.toNat : Int)) = false := by simp [h]
theorem byte_ne {x y : UInt8} (h : x ≠ y) : ((x.toNat : Int) == (y.toNat : Int)) = false := by
  simp only [beq_eq_false_iff_ne, ne_eq, Int.natCast_inj, UInt8.toNat_inj]
  exact h
set_option maxRecDepth 100000
set_option maxHeartbeats 1000000 in
theorem differs_bad (w : World) (A : Option Addr) (ca : Nat) (a : List UInt8) (C : Option Addr) (cb : Nat) (b : List UInt8) (x : Int) (h : 200 < a.length ∨ 200 < b.length ∨ x < 0 ∨ 800 < x) :
    Calls Try.prog 8 #[.slice A a.length ca, .slice C b.length cb, .int .i64 x] w fun e w' => e = .returned (.bool true) ∧ Below w.heap.size w w' := by
  have hx : (200 : Int) < a.length ∨ (¬ (200 : Int) < a.length ∧ (200 : Int) < b.length) ∨ (¬ (200 : Int) < a.length ∧ ¬ (200 : Int) < b.length ∧ x < 0) ∨ (¬ (200 : Int) < a.length ∧ ¬ (200 : Int) < b.length ∧ 0 ≤ x ∧ 800 < x) := by omega
  clear h
  rcases hx with h1 | ⟨h1, h2⟩ | ⟨h1, h2, h3⟩ | ⟨h1, h2, h3, h4⟩
  all_goals
    go_enter Try.func8, Try.ntmps8
    go_wp2_with fail
    refine (anchor_any w).mono ?_
    rintro e w1 ⟨rfl, hb1⟩
    have HB1 := Lib.hid hb1
    clear hb1
    go_wp2
    go_ret
    exact ⟨rfl, HB1.out⟩
set_option maxHeartbeats 4000000 in
theorem differs_ok (w : World) (A : Option Addr) (ca : Nat) (a : List UInt8) (C : Option Addr) (cb : Nat) (b : List UInt8) (x : Nat) (hal : a.length ≤ 200) (hbl : b.length ≤ 200) (hx : x ≤ 800) (hac : a.length ≤ ca) (hbc : b.length ≤ cb) (hR : Rd w (· < w.heap.size) A a) (hRb : Rd w (· < w.heap.size) C b) :
    Calls Try.prog 8 #[.slice A a.length ca, .slice C b.length cb, .int .i64 (x : Int)] w fun e w' => e = .returned (.bool true) ∧ Below w.heap.size w w' := by
  have h1 : ¬ (200 : Int) < a.length := by omega
  have h2 : ¬ (200 : Int) < b.length := by omega
  have h3 : ¬ (x : Int) < 0 := by omega
  have h4 : ¬ (800 : Int) < x := by omega
  have HAl := Lib.hid (show 100 + a.length ≤ 1024 by omega)
  have HBl := Lib.hid (show x + b.length ≤ 1024 by omega)
  have HAC := Lib.hid hac
  have HBC := Lib.hid hbc
  have HX := Lib.hid hx
  have HR := Lib.hid hR
  have HRb := Lib.hid hRb
  clear hal hbl hx hac hbc hR hRb
  go_enter Try.func8, Try.ntmps8
  go_wp2_with fail
  refine (anchor_any w).mono ?_
  rintro e w1 ⟨rfl, hb1⟩
  have HB1 := Lib.hid hb1
  clear hb1
  go_wp2_with fail
  refine (new_ok w1 1024 (by decide) (by decide)).mono ?_
  rintro e w2 ⟨rfl, h5, hb2, hz2⟩
  have H2 : Hid (Dsk w2 (w1.heap.size + 1) w1.heap.size a0) := Lib.hid h5
  have HB2 := Lib.hid (HB1.out.trans (hb2.mono HB1.out.size))
  have HQ := Lib.hid HB1.out.size
  have HZ2 := Lib.hid hz2
  clear h5 hb2 hz2 HB1
  generalize w1.heap.size = g at *
  go_wp2_with fail
  refine (new_ok w2 1024 (by decide) (by decide)).mono ?_
  rintro e w3 ⟨rfl, h5, hb3, hz3⟩
  rw [HZ2.out] at h5 hb3 hz3 ⊢
  have H3 := Lib.hid (H2.out.below hb3 (by omega) (by omega))
  have H3o : Hid (Dsk w3 (g + 2 + 1) (g + 2) a0) := Lib.hid h5
  have HB3 := Lib.hid (HB2.out.trans (hb3.mono (by have := HQ.out; omega)))
  have HZ3 := Lib.hid hz3
  clear h5 hb3 hz3 HB2 H2 HZ2
  go_wp2_with fail
  refine (new_ok w3 1025 (by decide) (by decide)).mono ?_
  rintro e w4 ⟨rfl, h5, hb4, hz4⟩
  rw [HZ3.out] at h5 hb4 hz4 ⊢
  have H4 := Lib.hid (H3.out.below hb4 (by omega) (by omega))
  have H4o := Lib.hid (H3o.out.below hb4 (by omega) (by omega))
  have H4x : Hid (Dsk w4 (g + 2 + 2 + 1) (g + 2 + 2) e0) := Lib.hid h5
  have HB4 := Lib.hid (HB3.out.trans (hb4.mono (by have := HQ.out; omega)))
  have HZ4 : Hid (w4.heap.size = g + 6) := Lib.hid hz4
  clear h5 hb4 hz4 HB3 H3 H3o HZ3
  have c1 := write_any w4 (g + 1) g a0 H4.out a0_ok 100 a A ca _ (HR.out.below HB4.out (fun k h => h)) (by have := HQ.out; omega) (by have := HQ.out; omega) HAC.out (by decide) (by decide)
  rw [show ((100 : Int)) = ((100 : Nat) : Int) from rfl, fw1 HAl.out, show ((100 : Nat) : Int) = ((100 : Int)) from rfl] at c1
  go_wp2_with fail
  refine c1.mono ?_
  rintro e w5 ⟨rfl, h5, hb5, hz5⟩
  clear c1
  have H5 := Lib.hid h5
  have H5o := Lib.hid (H4o.out.but hb5 (by omega) (by omega) (by omega) (by omega))
  have H5x := Lib.hid (H4x.out.but hb5 (by omega) (by omega) (by omega) (by omega))
  have HB5 := Lib.hid (HB4.out.trans (hb5.below HB4.out.size (by have := HQ.out; omega) HQ.out))
  clear h5 hb5 hz5 HB4 H4 H4o H4x
  have c1 := write_any w5 (g + 2 + 1) (g + 2) a0 H5o.out a0_ok x b C cb _ (HRb.out.below HB5.out (fun k h => h)) (by have := HQ.out; omega) (by have := HQ.out; omega) HBC.out (by omega) (by have := HX.out; omega)
  rw [fw1 HBl.out] at c1
  go_wp2_with fail
  refine c1.mono ?_
  rintro e w6 ⟨rfl, h5, hb6, hz6⟩
  clear c1
  have H6o := Lib.hid h5
  have H6 := Lib.hid (H5.out.but hb6 (by omega) (by omega) (by omega) (by omega))
  have H6x := Lib.hid (H5x.out.but hb6 (by omega) (by omega) (by omega) (by omega))
  have HB6 := Lib.hid (HB5.out.trans (hb6.below HB5.out.size (by have := HQ.out; omega) (by have := HQ.out; omega)))
  clear h5 hb6 hz6 HB5 H5 H5o H5x
  have HL1 : Hid ((f1 a 100).l.length = 1024) := Lib.hid (f1_len HAl.out)
  have HL2 : Hid ((f1 b x).l.length = 1024) := Lib.hid (f1_len HBl.out)
  have HD1 : Hid ((f1 a 100).down = false) := Lib.hid rfl
  have HD2 : Hid ((f1 b x).down = false) := Lib.hid rfl
  generalize f1 a 100 = s at *
  generalize f1 b x = t at *
  go_wp2_with fail
  refine (differ_any w6 _ _ _ H6.out _ _ _ H6o.out (by rw [HL1.out, HL2.out]) (by rw [HL1.out]; decide)).mono ?_
  rintro e w7 ⟨ss, As, cs, hwh, rfl, hrd, hsl, hb7⟩
  have HWh := Lib.hid hwh
  have HSs : Hid (RdC w7 (fun _ => True) As (spanCells ss)) := Lib.hid (fun h => by obtain ⟨ad, e, _, r⟩ := hrd h; exact ⟨ad, e, trivial, r⟩)
  have HSl : Hid (ss.length ≤ 1024) := Lib.hid (by have := HL1.out; omega)
  have H7 := Lib.hid (H6.out.old hb7)
  have H7o := Lib.hid (H6o.out.old hb7)
  have H7x := Lib.hid (H6x.out.old hb7)
  have HB7 := Lib.hid (HB6.out.trans (hb7.mono HB6.out.size))
  clear hwh hrd hsl hb7 HB6 H6 H6o H6x
  go_wp2_with fail
  refine (copy_any w7 _ _ _ H7.out (by rw [HL1.out]; decide)).mono ?_
  rintro e w8 ⟨rfl, h5, hb8, hz8⟩
  have H8c := Lib.hid h5
  have HSs8 := Lib.hid (HSs.out.old hb8)
  have H8 := Lib.hid (H7.out.old hb8)
  have H8o := Lib.hid (H7o.out.old hb8)
  have H8x := Lib.hid (H7x.out.old hb8)
  have HB8 := Lib.hid (HB7.out.trans (hb8.mono HB7.out.size))
  clear h5 hb8 hz8 HB7 H7 H7o H7x HSs
  generalize w7.heap.size = y at *
  go_wp2_with fail
  refine (differ_any w8 _ _ _ H8.out _ _ _ H8c.out rfl (by rw [HL1.out]; decide)).mono ?_
  rintro e w9 ⟨s0, Ac, cc, hwh, rfl, hrd, hsl, hb9⟩
  obtain rfl := hwh.same
  have HSs9 := Lib.hid (HSs8.out.old hb9)
  have H9 := Lib.hid (H8.out.old hb9)
  have H9o := Lib.hid (H8o.out.old hb9)
  have H9x := Lib.hid (H8x.out.old hb9)
  have HB9 := Lib.hid (HB8.out.trans (hb9.mono HB8.out.size))
  clear hwh hrd hsl hb9 HB8 H8 H8o H8x HSs8 H8c
  rw [show ([] : List Sp).length = 0 from rfl]
  go_wp2_with fail
  refine (differ_size w9 _ _ _ H9.out _ _ _ H9x.out (by rw [HL1.out, e0_len]; decide)).mono ?_
  rintro e w10 ⟨rfl, hb10⟩
  have HSs10 := Lib.hid (HSs9.out.old hb10)
  have H10 := Lib.hid (H9.out.old hb10)
  have H10o := Lib.hid (H9o.out.old hb10)
  have HB10 := Lib.hid (HB9.out.trans (hb10.mono HB9.out.size))
  clear hb10 HB9 H9 H9o H9x HSs9
  have c1 := read_ok w10 _ _ _ H10.out 0 1024 (by rw [HL1.out]; decide) HD1.out (by rw [HL1.out]; decide)
  rw [take_all HL1.out] at c1
  go_wp2_with fail
  refine c1.mono ?_
  rintro e w11 ⟨rfl, h5, hb11, hz11⟩
  clear c1
  have HP1 := Lib.hid h5
  have HSs11 := Lib.hid (HSs10.out.old hb11)
  have H11o := Lib.hid (H10o.out.old hb11)
  have HB11 := Lib.hid (HB10.out.trans (hb11.mono HB10.out.size))
  clear h5 hb11 hz11 HB10 H10 H10o HSs10
  generalize w10.heap.size = P1 at *
  have c1 := read_ok w11 _ _ _ H11o.out 0 1024 (by rw [HL2.out]; decide) HD2.out (by rw [HL2.out]; decide)
  rw [take_all HL2.out] at c1
  go_wp2_with fail
  refine c1.mono ?_
  rintro e w12 ⟨rfl, h5, hb12, hz12⟩
  clear c1
  have HI : Hid (VInv w w.heap.size P1 w11.heap.size s.l t.l As ss w12) := Lib.hid ⟨HP1.out.below hb12 HP1.out.lt, h5, HSs11.out.old hb12, HB11.out.trans (hb12.mono HB11.out.size)⟩
  clear h5 hb12 hz12 HB11 H11o HSs11 HP1
  generalize w11.heap.size = P2 at *
  generalize s.l = l at *
  generalize t.l = m at *
  go_wp2_with fail
  go_loopw [23, 130] (fun e i wr => ∃ k : Nat, k ≤ ss.length ∧ i = .int .i64 k ∧ e = .int .i64 (endAt ss k) ∧ VInv w w.heap.size P1 P2 l m As ss wr) (fun _ i _ => ss.length - (intOf i).toNat)
  case atStart => exact ⟨0, Nat.zero_le _, rfl, rfl, HI.out⟩
  case round =>
    obtain ⟨k, hk, rfl, rfl, hinv⟩ := hrel
    clear HI
    have HI := Lib.hid hinv
    clear hinv
    have hsl := HSl.out
    by_cases hlt : k < ss.length
    · obtain ⟨ad, hA, _, _, hcs⟩ := HI.out.rs (by rw [spanCells_length]; omega)
      subst hA
      have hgood := HWh.out.1 k hlt
      have hend : endAt ss (k + 1) = ((ss.getD k (0, 0)).1 : Int) + (ss.getD k (0, 0)).2 := by unfold endAt; rw [if_neg (by omega), Nat.add_sub_cancel]
      have hge : -1 ≤ endAt ss k := by unfold endAt; split <;> omega
      obtain ⟨e0', e1'⟩ := spanCells_get ss k (ss.getD k (0, 0)) (by rw [List.getElem?_eq_getElem hlt, List.getD_eq_getElem?_getD, List.getElem?_eq_getElem hlt]; rfl)
      have hc0 := hcs _ _ e0'
      have hc1 : wr.cell? ⟨(ad.add (k * 2)).block, (ad.add (k * 2)).off + 1, none⟩ = some (.int .i64 (((ss.getD k (0, 0)).2 : Nat) : Int)) := by have := hcs _ _ e1'; rw [← add_add] at this; exact this
      clear hcs e0' e1'
      generalize (ss.getD k (0, 0)).1 = a' at *
      generalize (ss.getD k (0, 0)).2 = n' at *
      obtain ⟨g1, g2, g3, g4, g5⟩ := hgood
      have HG4 := Lib.hid g4
      have HG5 := Lib.hid g5
      have HEn := Lib.hid hend
      rw [HL1.out] at g3
      clear g4 g5 hend
      obtain ⟨E, hE⟩ : ∃ E, E = endAt ss k := ⟨_, rfl⟩
      rw [← hE] at g1 hge HG4 ⊢
      clear hE
      obtain ⟨lo, hlo⟩ : ∃ lo, lo = E.toNat := ⟨_, rfl⟩
      have hrm := run_max0 E lo hlo
      have t1 : ¬ (a' : Int) ≤ E := by omega
      have t2 : ¬ (n' : Int) < 1 := by omega
      have t3 : ¬ (1024 : Int) - n' < a' := by omega
      have hEa : lo ≤ a' := by omega
      rw [← hlo] at HG4
      clear hlo
      have HI2 := Lib.hid (HI.out.old (Nat.le_refl _) ((Below.refl _ _).alloc (Nat.le_refl _) (.cells #[.int .i64 (a' : Int), .int .i64 (n' : Int)] 54)))
      have HK2 := Lib.hid (Blk.new wr 54 #[.int .i64 (a' : Int), .int .i64 (n' : Int)] _ rfl)
      go_wp2_with fail
      obtain ⟨wo, hwo⟩ : ∃ wo, wo = wr.alloc (.cells #[.int .i64 (a' : Int), .int .i64 (n' : Int)] 54) := ⟨_, rfl⟩
      rw [← hwo] at HI2 HK2 ⊢
      generalize wr.heap.size = q at *
      clear hwo hc0 hc1 hrm
      obtain ⟨wz, hwz⟩ : ∃ wz, wz = wr := ⟨_, rfl⟩
      subst hwz
      go_loopw [26] (fun i wr => ∃ n c : Nat, lo ≤ n ∧ n ≤ a' ∧ i = .int .i64 n ∧ wr = wo.drewN c) (fun i _ => a' - (intOf i).toNat)
      case atStart => exact ⟨lo, 0, Nat.le_refl _, hEa, rfl, rfl⟩
      case round =>
        obtain ⟨n, c, hn1, hn2, rfl, hwr⟩ := hrel
        have s0 : wr.cell? ⟨q, 0, none⟩ = some (.int .i64 (a' : Int)) := by rw [hwr]; exact HK2.out.cell 0
        have s1 : wr.cell? ⟨q, 1, none⟩ = some (.int .i64 (n' : Int)) := by rw [hwr]; exact HK2.out.cell 1
        by_cases hn : n < a'
        · have p1 : wr.cell? ⟨P1, n, none⟩ = some (.int .u8 ((l.getD n 0).toNat : Nat)) := by rw [hwr]; exact (HI2.out.r1.cell n).trans (bc_get _ _ (by rw [HL1.out]; omega))
          have p2 : wr.cell? ⟨P2, n, none⟩ = some (.int .u8 ((m.getD n 0).toNat : Nat)) := by rw [hwr]; exact (HI2.out.r2.cell n).trans (bc_get _ _ (by rw [HL2.out]; omega))
          rw [HG4.out n hn1 hn] at p1
          have HWr := Lib.hid hwr
          clear hwr
          generalize m.getD n 0 = x' at p1 p2
          go_wp2
          go_quiet (fail)
          go_wp2
          go_roundw
          case rel => exact ⟨n + 1, c + nq, by omega, by omega, by go_num, by rw [HWr.out, drewN_two]⟩
          case measure => simp [intOf]; omega
        · have HWr := Lib.hid hwr
          clear hwr
          go_wp2_with fail
          obtain ⟨wx, hwx⟩ : ∃ wx, wx = wr := ⟨_, rfl⟩
          subst hwx
          clear s0 s1
          go_loopw [27] (fun i wr => ∃ n c : Nat, a' ≤ n ∧ n ≤ a' + n' ∧ i = .int .i64 n ∧ wr = wo.drewN c) (fun i _ => a' + n' - (intOf i).toNat)
          case atStart => exact ⟨a', c, Nat.le_refl _, by omega, rfl, HWr.out⟩
          case round =>
            clear hn hn1 hn2 HWr
            obtain ⟨n, c, hn1, hn2, rfl, hwr⟩ := hrel
            have s0 : wr.cell? ⟨q, 0, none⟩ = some (.int .i64 (a' : Int)) := by rw [hwr]; exact HK2.out.cell 0
            have s1 : wr.cell? ⟨q, 1, none⟩ = some (.int .i64 (n' : Int)) := by rw [hwr]; exact HK2.out.cell 1
            by_cases hn : n < a' + n'
            · have p1 : wr.cell? ⟨P1, n, none⟩ = some (.int .u8 ((l.getD n 0).toNat : Nat)) := by rw [hwr]; exact (HI2.out.r1.cell n).trans (bc_get _ _ (by rw [HL1.out]; omega))
              have p2 : wr.cell? ⟨P2, n, none⟩ = some (.int .u8 ((m.getD n 0).toNat : Nat)) := by rw [hwr]; exact (HI2.out.r2.cell n).trans (bc_get _ _ (by rw [HL2.out]; omega))
              have hne := byte_ne (HG5.out n hn1 hn)
              have HWr := Lib.hid hwr
              clear hwr
              generalize l.getD n 0 = x' at p1 hne
              generalize m.getD n 0 = y' at p2 hne
              have hn' : (n : Int) < a' + n' := by omega
              go_wp2
              go_quiet (fail)
              go_wp2
              go_roundw
              case rel => exact ⟨n + 1, c + nq, by omega, by omega, by go_num, by rw [HWr.out, drewN_two]⟩
              case measure => simp [intOf]; omega
            · have HWr := Lib.hid hwr
              clear hwr
              have hn' : ¬ (n : Int) < a' + n' := by omega
              go_wp2
              go_roundw
              case rel =>
                refine ⟨k + 1, by omega, by go_num, by rw [HEn.out], ?_⟩
                rw [HWr.out]
                exact HI2.out.old (Nat.le_refl _) (below_drewN (Below.refl _ _) _)
              case measure => simp [intOf]; omega
    · have hkl : k = ss.length := by omega
      have hEl : endAt ss k ≤ 1024 := by have h1 := HWh.out.2.2; rw [HL1.out] at h1; rw [hkl]; exact h1
      have hEq : Eq' l m (endAt ss k).toNat 1024 := by have h1 := HWh.out.2.1; rw [HL1.out] at h1; rw [hkl]; exact h1
      have HEq := Lib.hid hEq
      clear hEq hkl
      generalize endAt ss k = E at *
      obtain ⟨lo, hlo⟩ : ∃ lo, lo = E.toNat := ⟨_, rfl⟩
      have hrm := run_max0 E lo hlo
      have hEn : lo ≤ 1024 := by omega
      rw [← hlo] at HEq
      clear hlo
      obtain ⟨X1, hX1, hX1'⟩ := run_from P1 1024 lo hEn
      obtain ⟨X2, hX2, hX2'⟩ := run_from P2 1024 lo hEn
      have cv : ∀ (P : Nat) (X : Option Addr) (z : List UInt8) (j : Nat), z.length = 1024 → Blk wr P 5 (bc z) → (lo < 1024 → X = some ⟨P, lo, none⟩) → (convert 30 9 (.slice X (1024 - lo) (1024 - lo))).run Try.prog (wr.drewN j) = .ok (.string (mk (z.drop lo))) (wr.drewN j) := by
        intro P X z j hz hb hx
        have hb : Blk (wr.drewN j) P 5 (bc z) := hb
        refine conv_rd (S := (· = P)) _ _ (fun h0 => ?_) (by rw [List.length_drop, hz])
        rw [List.length_drop, hz] at h0
        rw [hx (by omega)]
        have := Rd.of_part (a := lo) (n := 1024 - lo) hb
        rw [List.take_of_length_le (by rw [List.length_drop, hz]; omega)] at this
        exact this (by rw [List.length_drop, hz]; exact h0)
      have cv1 := fun j => cv P1 X1 l j HL1.out HI.out.r1 hX1'
      have cv2 := fun j => cv P2 X2 m j HL2.out HI.out.r2 hX2'
      have hlm : l.drop lo = m.drop lo := by
        refine List.ext_getElem (by rw [List.length_drop, List.length_drop, HL1.out, HL2.out]) fun i h1 h2 => ?_
        rw [List.length_drop, HL1.out] at h1
        have := HEq.out (lo + i) (by omega) (by omega)
        rw [List.getD_eq_getElem?_getD, List.getD_eq_getElem?_getD, List.getElem?_eq_getElem (by rw [HL1.out]; omega), List.getElem?_eq_getElem (by rw [HL2.out]; omega)] at this
        rw [List.getElem_drop, List.getElem_drop]
        exact this
      simp only [← hlm] at cv2
      generalize mk (l.drop lo) = str at *
      have HBe := Lib.hid HI.out.bel
      clear cv hX1' hX2' hlm
      go_wp2
      go_quiet (fail)
      go_wp2
      go_ret
      exact ⟨by simp, below_drewN HBe.out _⟩
theorem differs_any (w : World) (A : Option Addr) (ca : Nat) (a : List UInt8) (C : Option Addr) (cb : Nat) (b : List UInt8) (x : Int) (hx0 : -9223372036854775808 ≤ x) (hx1 : x ≤ 9223372036854775807) (hac : a.length ≤ ca) (hbc : b.length ≤ cb) (_ha : ca ≤ 2 ^ 63 - 1) (_hb : cb ≤ 2 ^ 63 - 1) (hR : Rd w (· < w.heap.size) A a) (hRb : Rd w (· < w.heap.size) C b) :
    Calls Try.prog 8 #[.slice A a.length ca, .slice C b.length cb, .int .i64 x] w fun e w' => e = .returned (.bool true) ∧ Below w.heap.size w w' := by
  by_cases h : 200 < a.length ∨ 200 < b.length ∨ x < 0 ∨ 800 < x
  · exact differs_bad w A ca a C cb b x h
  · obtain ⟨x, rfl⟩ : ∃ k : Nat, x = (k : Int) := ⟨x.toNat, by omega⟩
    exact differs_ok w A ca a C cb b x (by omega) (by omega) (by omega) hac hbc hR hRb
end Go.Proofs.Ytohdiepoeadenaa.Dsk
