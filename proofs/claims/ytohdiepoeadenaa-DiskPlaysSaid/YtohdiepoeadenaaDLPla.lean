/-
  The walk of the statement DiskPlays: whatever the size and the steps it returns true, and nothing that was there before has changed.
-/
import Derived.Test.YtohdiepoeadenaaE3
import Derived.Test.YtohdiepoeadenaaDLTor
import Derived.Deep.RegionHeld3
import Derived.Deep.QuietTactic
import Derived.BigQuiet
namespace Go.Proofs.Ytohdiepoeadenaa.Dsk
open Go.RowKit
theorem below_drewN' {B : Nat} {a w : World} (h : Below B a w) (n : Nat) : Below B a (w.drewN n) := ⟨h.os, h.tape, h.output, h.size, h.block⟩
theorem up_quiet {w : World} {d g : Nat} {s : Dk} (h : Dsk w d g s) (n : Nat) : Calls Try.prog 19 #[.pointer (some ⟨d, 0, none⟩)] (w.drewN n) fun e w' => e = .returned (.bool (!s.down)) ∧ w' = w.drewN n :=
  (up_any (w.drewN n) d g s ⟨h.blk, h.row, h.ne⟩).mono fun _ _ ⟨a, b⟩ => ⟨a, b.symm⟩
theorem size_quiet {w : World} {d g : Nat} {s : Dk} (h : Dsk w d g s) (n : Nat) : Calls Try.prog 20 #[.pointer (some ⟨d, 0, none⟩)] (w.drewN n) fun e w' => e = .returned (.int .i64 (s.l.length : Nat)) ∧ w' = w.drewN n :=
  (size_any (w.drewN n) d g s ⟨h.blk, h.row, h.ne⟩).mono fun _ _ ⟨a, b⟩ => ⟨a, b.symm⟩
theorem writes_quiet {w : World} {d g : Nat} {s : Dk} (h : Dsk w d g s) (n : Nat) : Calls Try.prog 21 #[.pointer (some ⟨d, 0, none⟩)] (w.drewN n) fun e w' => e = .returned (.int .i64 (s.wr : Nat)) ∧ w' = w.drewN n :=
  (writes_any (w.drewN n) d g s ⟨h.blk, h.row, h.ne⟩).mono fun _ _ ⟨a, b⟩ => ⟨a, b.symm⟩
set_option maxRecDepth 100000
set_option maxHeartbeats 1000000 in
theorem plays_long (w : World) (size : Int) (Z : Option Addr) (cz : Nat) (os : List OpD) (h : 60 < os.length ∨ (4096 < size ∧ size ≤ 1048576)) :
    Calls Try.prog 3 #[.int .i64 size, .slice Z os.length cz] w fun e w' => e = .returned (.bool true) ∧ Below w.heap.size w w' := by
  have hx : (60 : Int) < os.length ∨ (¬ (60 : Int) < os.length ∧ 4096 < size ∧ size ≤ 1048576) := by omega
  clear h
  rcases hx with h1 | ⟨h1, h2, h3⟩
  all_goals
    go_enter Try.func3, Try.ntmps3
    go_wp2_with fail
    refine (anchor_any w).mono ?_
    rintro e w1 ⟨rfl, hb1⟩
    have HB1 := Lib.hid hb1
    clear hb1
    go_wp2
    go_ret
    exact ⟨rfl, HB1.out⟩
set_option maxHeartbeats 1000000 in
theorem plays_none (w : World) (size : Int) (Z : Option Addr) (cz : Nat) (os : List OpD) (hl : ¬ 60 < os.length) (h : size < 1024 ∨ 1048576 < size) :
    Calls Try.prog 3 #[.int .i64 size, .slice Z os.length cz] w fun e w' => e = .returned (.bool true) ∧ Below w.heap.size w w' := by
  have hx : (¬ (60 : Int) < os.length ∧ ¬ 4096 < size ∧ size < 1024) ∨ (¬ (60 : Int) < os.length ∧ 4096 < size ∧ ¬ size ≤ 1048576 ∧ ¬ size < 1024 ∧ 1048576 < size) := by omega
  have HS := Lib.hid h
  clear h hl
  rcases hx with ⟨h1, h2, h3⟩ | ⟨h1, h2, h3, h4, h5⟩
  all_goals
    go_enter Try.func3, Try.ntmps3
    go_wp2_with fail
    refine (anchor_any w).mono ?_
    rintro e w1 ⟨rfl, hb1⟩
    have HB1 := Lib.hid hb1
    clear hb1
    go_wp2_with fail
    refine (new_bad w1 size HS.out).mono ?_
    rintro e w2 ⟨rfl, rfl⟩
    go_wp2
    go_ret
    exact ⟨rfl, HB1.out⟩
set_option maxHeartbeats 8000000 in
theorem plays_ok (w : World) (size : Nat) (Z : Option Addr) (cz : Nat) (os : List OpD) (hl : os.length ≤ 60) (hs0 : 1024 ≤ size) (hs1 : size ≤ 4096) (hZ : RdO w w.heap.size Z os) :
    Calls Try.prog 3 #[.int .i64 (size : Int), .slice Z os.length cz] w fun e w' => e = .returned (.bool true) ∧ Below w.heap.size w w' := by
  have h1 : ¬ (60 : Int) < os.length := by omega
  have h2 : ¬ (4096 : Int) < size := by omega
  have h3 : ¬ (size : Int) < 1024 := by omega
  have h4 : ¬ (1048576 : Int) < size := by omega
  have HL := Lib.hid hl
  have HS0 := Lib.hid hs0
  have HS1 := Lib.hid hs1
  have HZ := Lib.hid hZ
  clear hl hs0 hs1 hZ
  go_enter Try.func3, Try.ntmps3
  go_wp2_with fail
  refine (anchor_any w).mono ?_
  rintro e w1 ⟨rfl, hb1⟩
  have HB1 := Lib.hid hb1
  clear hb1
  go_wp2_with fail
  refine (new_ok w1 size HS0.out (by have := HS1.out; omega)).mono ?_
  rintro e w2 ⟨rfl, h5, hb2, hz2⟩
  have H2 := Lib.hid h5
  have HB2 := Lib.hid (HB1.out.trans (hb2.mono HB1.out.size))
  have HQ := Lib.hid HB1.out.size
  have HZ2 := Lib.hid hz2
  clear h5 hb2 hz2 HB1
  generalize w1.heap.size = g at *
  go_wp2_with fail
  refine (rnew_ok w2 size (by have := HS1.out; omega)).mono ?_
  rintro e w3 ⟨rfl, h5, hb3, hz3⟩
  rw [HZ2.out] at h5 hb3 hz3 ⊢
  have HI : Hid (PInv w w.heap.size size 0 (g + 2 + 1) (g + 2) (g + 1) g ⟨List.replicate size 0, false, 0, false, 0, 0⟩ 0 w3) := Lib.hid (by
    have hq := HQ.out
    exact ⟨H2.out.below hb3 (by omega) (by omega), h5, ⟨by simp, by show (0 : Int) ≤ 0; decide, by show (0 : Int) ≤ _; decide, by show (0 : Int) ≤ 0; decide, Nat.le_refl _⟩, HB2.out.trans (hb3.mono (by omega)), by omega, hq, by omega, by omega, by omega, by omega, by omega, by omega⟩)
  clear h5 hb3 hz3 HB2 H2 HZ2
  generalize g + 2 + 1 = m at *
  generalize g + 2 = mg at *
  go_wp2_with fail
  go_loopw [5, 52] (fun v i wr => ∃ (k d g : Nat) (s : Dk) (y : Int), k ≤ os.length ∧ v = .pointer (some ⟨d, 0, none⟩) ∧ i = .int .i64 k ∧ PInv w w.heap.size size k m mg d g s y wr) (fun _ i _ => os.length - (intOf i).toNat)
  case atStart => exact ⟨0, g + 1, g, _, 0, Nat.zero_le _, rfl, rfl, HI.out⟩
  case round =>
    clear HI HQ
    obtain ⟨k, d, g, s, y, hk, rfl, rfl, hinv⟩ := hrel
    have HI := Lib.hid hinv
    clear hinv
    have hl := HL.out
    by_cases hlt : k < os.length
    · obtain ⟨o, hoe⟩ : ∃ o, os[k]? = some o := ⟨os[k], List.getElem?_eq_getElem hlt⟩
      obtain ⟨ad, rfl, hab, q0, q1, q2, q3, hrd, hfine⟩ := HZ.out k o hoe
      have hbel := HI.out.bel
      have c0 : wr.cell? (ad.add (k * 4)) = some (.int .i64 o.kind) := (hbel.cell (by rw [block_add]; exact hab)).trans q0
      have c1 : wr.cell? ⟨(ad.add (k * 4)).block, (ad.add (k * 4)).off + 1, none⟩ = some (.int .i64 o.at') := (hbel.cell (by rw [block_add]; exact hab)).trans q1
      have c2 : wr.cell? ⟨(ad.add (k * 4)).block, (ad.add (k * 4)).off + 2, none⟩ = some (.int .i64 o.n) := (hbel.cell (by rw [block_add]; exact hab)).trans q2
      have c3 : wr.cell? ⟨(ad.add (k * 4)).block, (ad.add (k * 4)).off + 3, none⟩ = some (.slice o.A o.data.length o.c) := (hbel.cell (by rw [block_add]; exact hab)).trans q3
      have HF := Lib.hid hfine
      have HRd := Lib.hid hrd
      have ha0 := hfine.a0
      have ha1 := hfine.a1
      have hn1 := hfine.n1
      have HC1 := Lib.hid hfine.c1
      clear q0 q1 q2 q3 hrd hfine hoe hbel hab
      cases o with
      | mk kind a n b A c =>
      simp only at c0 c1 c2 c3 ha0 ha1 hn1 HC1 HRd
      clear HF
      by_cases hlong : (300 : Int) < b.length
      · go_wp2
        go_ret
        exact ⟨rfl, HI.out.bel.alloc HI.out.bel.size _⟩
      have HI2 := Lib.hid (HI.out.old ((Below.refl _ _).alloc (Nat.le_refl _) (.cells #[.int .i64 kind, .int .i64 a, .int .i64 n, .slice A b.length c] 32)) (Nat.le_refl _))
      have HK2 := Lib.hid (Blk.new wr 32 #[.int .i64 kind, .int .i64 a, .int .i64 n, .slice A b.length c] _ rfl)
      by_cases k1 : kind = 1
      · subst k1
        have hsz1 := HS1.out
        have hok := HI2.out.fit.ok (by omega) (by omega)
        have HC := Lib.hid (fun (W : World) (h : Dsk W d g s) (hr : Rd W (· < w.heap.size) A b) => write_any W d g s h hok a b A c _ hr (by have := HI2.out.bd; omega) (by have := HI2.out.bg; omega) HC1.out ha0 ha1)
        have HCr := Lib.hid (fun (W : World) (h : Rsk W m mg s y) (hr : Rd W (· < w.heap.size) A b) => rwrite_any W m mg s y h hok a b A c _ hr (by have := HI2.out.bm; omega) (by have := HI2.out.bn; omega) HC1.out (by omega) ha0 ha1)
        have HFt := Lib.hid (HI2.out.fit.write a b)
        have qd := HI.out.dsk.blk.lt
        have qg := HI.out.dsk.row.lt
        have qm := HI.out.rsk.blk.lt
        have qn := HI.out.rsk.row.lt
        have Nd := Lib.hid (show wr.heap.size ≠ d by omega)
        have Ng := Lib.hid (show wr.heap.size ≠ g by omega)
        have Nm := Lib.hid (show wr.heap.size ≠ m by omega)
        have Nn := Lib.hid (show wr.heap.size ≠ mg by omega)
        clear qd qg qm qn hok hsz1
        generalize s.write a b = T at *
        go_wp2
        have HI3 := Lib.hid (HI2.out.old ((Below.refl _ _).drew) (Nat.le_refl _))
        have HK3 : Hid (Blk (wr.alloc (.cells #[.int .i64 1, .int .i64 a, .int .i64 n, .slice A b.length c] 32)).drew wr.heap.size _ _) := Lib.hid HK2.out
        have HR3 : Hid (Rd (wr.alloc (.cells #[.int .i64 1, .int .i64 a, .int .i64 n, .slice A b.length c] 32)).drew (· < w.heap.size) A b) := Lib.hid (HRd.out.below HI3.out.bel (fun k h => h))
        generalize wr.heap.size = q at *
        go_region_held3 (fun w' => w'.cell? ⟨q, 1, none⟩ = some (.int .i64 a) ∧ w'.cell? ⟨q, 3, none⟩ = some (.slice A b.length c))
          (first
            | exact ⟨HK3.out.cell 1, HK3.out.cell 3⟩
            | exact ⟨HKA.out.cell 1, HKA.out.cell 3⟩
            | exact ⟨HKB.out.cell 1, HKB.out.cell 3⟩
            | exact ⟨HKC.out.cell 1, HKC.out.cell 3⟩)
          (first
            | (go_at_call 12; ((with_reducible refine (HC.out _ HI3.out.dsk HR3.out).mono ?_); rintro e wA ⟨rfl, hA1, hA2, hA3⟩; have HKA := Lib.hid (HK3.out.but hA2 Nd.out Ng.out); have HDA := Lib.hid hA1; have HRA := Lib.hid (HI3.out.rsk.but hA2 HI3.out.n1.symm HI3.out.n3.symm HI3.out.n2.symm HI3.out.n4.symm); have HBA := Lib.hid (hA2.below HI3.out.bel.size HI3.out.bd HI3.out.bg); have HrA := Lib.hid (HR3.out.below HBA.out (fun k h => h)); clear hA1 hA2 hA3))
            | (go_at_call 13; ((with_reducible refine (HCr.out _ HI3.out.rsk HR3.out).mono ?_); rintro e wB ⟨rfl, hA1, hA2, hA3⟩; have HKB := Lib.hid (HK3.out.but hA2 Nm.out Nn.out); have HRB := Lib.hid hA1; have HDB := Lib.hid (HI3.out.dsk.but hA2 HI3.out.n1 HI3.out.n2 HI3.out.n3 HI3.out.n4); have HBB := Lib.hid (hA2.below HI3.out.bel.size HI3.out.bm HI3.out.bn); have HrB := Lib.hid (HR3.out.below HBB.out (fun k h => h)); clear hA1 hA2 hA3))
            | (go_at_call 13; ((with_reducible refine (HCr.out _ HRA.out HrA.out).mono ?_); rintro e wC ⟨rfl, hA1, hA2, hA3⟩; have HKC := Lib.hid (HKA.out.but hA2 Nm.out Nn.out); have HPI := Lib.hid (HI3.out.both (HDA.out.but hA2 HI3.out.n1 HI3.out.n2 HI3.out.n3 HI3.out.n4) hA1 HFt.out (HBA.out.trans (hA2.below (Nat.le_trans HI3.out.bel.size HBA.out.size) HI3.out.bm HI3.out.bn))); clear hA1 hA2 hA3))
            | (go_at_call 12; ((with_reducible refine (HC.out _ HDB.out HrB.out).mono ?_); rintro e wC ⟨rfl, hA1, hA2, hA3⟩; have HKC := Lib.hid (HKB.out.but hA2 Nd.out Ng.out); have HPI := Lib.hid (HI3.out.both hA1 (HRB.out.but hA2 HI3.out.n1.symm HI3.out.n3.symm HI3.out.n2.symm HI3.out.n4.symm) HFt.out (HBB.out.trans (hA2.below (Nat.le_trans HI3.out.bel.size HBB.out.size) HI3.out.bd HI3.out.bg))); clear hA1 hA2 hA3)))
        all_goals
          clear HC HCr HFt Nd Ng Nm Nn HKC HK3 HR3 HI3
          have hne : (T.1 != T.1) = false := by simp
          go_wp2
          have HP := Lib.hid HPI.out
          clear HPI HI HI2
          have hup := up_quiet HP.out.dsk
          have hsz := size_quiet HP.out.dsk
          have hwq := writes_quiet HP.out.dsk
          rw [HP.out.fit.len] at hsz
          have r1 := HP.out.rsk.c1
          have r4 := HP.out.rsk.c4
          have hbo := bool_off (T.2).down
          have HDl := Lib.hid (show (T.2).down = (T.2).down from rfl)
          generalize (T.2).down = dn at hup r1 hbo
          generalize (T.2).wr = wn at hwq r4
          go_wp2
          go_quiet (first
            | (go_at_call 19; with_reducible exact Calls.quiet_of_same (hup _))
            | (go_at_call 20; with_reducible exact Calls.quiet_of_same (hsz _))
            | (go_at_call 21; with_reducible exact Calls.quiet_of_same (hwq _)))
          go_wp2
          go_roundw
          case rel => exact ⟨k + 1, d, g, T.2, y, by omega, rfl, by go_num, HP.out.old (below_drewN' (Below.refl _ _) _) (Nat.le_refl _)⟩
          case measure => simp [intOf]; omega
      have b1 : (kind == 1) = false := by simpa using k1
      by_cases k2 : kind = 2
      · subst k2
        have hsz1 := HS1.out
        have hlen := HI2.out.fit.len
        by_cases he : s.err a n = 0
        · obtain ⟨na, nn, hda⟩ : ∃ na nn : Nat, (a = (na : Int) ∧ n = (nn : Int)) := by
            have hn0 : 0 ≤ n := by
              have hd : s.down = false := by
                cases hx : s.down with
                | false => rfl
                | true => rw [Dk.err_down hx] at he; cases he
              have hx : ¬ (a < 0 ∨ n < 0 ∨ (s.l.length : Int) - a < n) := fun hx => by rw [Dk.err_bad hd hx] at he; cases he
              omega
            obtain ⟨nn, rfl⟩ : ∃ nn : Nat, n = (nn : Int) := ⟨n.toNat, by omega⟩
            obtain ⟨_, h6, _⟩ := Dk.err_zero he
            exact ⟨a.toNat, nn, by omega, rfl⟩
          obtain ⟨rfl, rfl⟩ := hda
          obtain ⟨hd0, _, hin⟩ := Dk.err_zero he
          have r1 := read_ok (wr.alloc (.cells #[.int .i64 2, .int .i64 (na : Int), .int .i64 (nn : Int), .slice A b.length c] 32)) d g s HI2.out.dsk na nn (by omega) hd0 (by omega)
          have HIn := Lib.hid (show na + nn ≤ s.l.length by omega)
          have HD0 := Lib.hid hd0
          clear he hin hd0 hlen
          go_wp2_with fail
          generalize (wr.alloc (.cells #[.int .i64 2, .int .i64 (na : Int), .int .i64 (nn : Int), .slice A b.length c] 32)) = wo at *
          refine r1.mono ?_
          rintro e w4 ⟨rfl, h5, hb4, hz4⟩
          clear r1
          have HK4 := Lib.hid h5
          have HI4 := Lib.hid (HI2.out.old hb4 (Nat.le_refl _))
          have HO4 := Lib.hid (HK2.out.below hb4 HK2.out.lt)
          clear h5 hb4 hz4 HK2
          generalize wo.heap.size = q4 at *
          generalize wr.heap.size = q at *
          have x1 : w4.cell? ⟨q, 1, none⟩ = some (.int .i64 (na : Int)) := HO4.out.cell 1
          have x2 : w4.cell? ⟨q, 2, none⟩ = some (.int .i64 (nn : Int)) := HO4.out.cell 2
          have r2 := rread_ok w4 m mg s y HI4.out.rsk na nn (by rw [HI4.out.fit.len]; omega) HD0.out HIn.out
          go_wp2_with fail
          refine r2.mono ?_
          rintro e w5 ⟨P, c5, rfl, hP, rfl⟩
          clear r2
          have hln : nn = ((s.l.drop na).take nn).length := by have := HIn.out; rw [List.length_take, List.length_drop]; omega
          have cv1 := conv_rd nn nn (Rd.of_blk HK4.out) hln
          have cv2 := conv_rd nn c5 hP hln
          clear hP hln
          generalize mk ((s.l.drop na).take nn) = str at *
          clear HI2
          have HI2 := HI4
          clear HI4 hsz1
          go_wp2
          clear cv1 cv2 x1 x2
          generalize w4 = wx at *
          have HP := Lib.hid (⟨HI2.out.dsk, HI2.out.rsk, HI2.out.fit.more, HI2.out.bel, HI2.out.bd, HI2.out.bg, HI2.out.bm, HI2.out.bn, HI2.out.n1, HI2.out.n2, HI2.out.n3, HI2.out.n4⟩ : PInv w w.heap.size size (k + 1) m mg d g s y wx)
          clear HI HI2
          have hup := up_quiet HP.out.dsk
          have hsz := size_quiet HP.out.dsk
          have hwq := writes_quiet HP.out.dsk
          rw [HP.out.fit.len] at hsz
          have r1 := HP.out.rsk.c1
          have r4 := HP.out.rsk.c4
          have hbo := bool_off (s).down
          have HDl := Lib.hid (show (s).down = (s).down from rfl)
          generalize (s).down = dn at hup r1 hbo
          generalize (s).wr = wn at hwq r4
          go_wp2
          go_quiet (first
            | (go_at_call 19; with_reducible exact Calls.quiet_of_same (hup _))
            | (go_at_call 20; with_reducible exact Calls.quiet_of_same (hsz _))
            | (go_at_call 21; with_reducible exact Calls.quiet_of_same (hwq _)))
          go_wp2
          go_roundw
          case rel => exact ⟨k + 1, d, g, s, y, by omega, rfl, by go_num, HP.out.old (below_drewN' (Below.refl _ _) _) (Nat.le_refl _)⟩
          case measure => simp [intOf]; omega
        · have r1 := read_bad (wr.alloc (.cells #[.int .i64 2, .int .i64 a, .int .i64 n, .slice A b.length c] 32)) d g s HI2.out.dsk a n ha0 ha1 (by omega) he
          have r2 := rread_bad (wr.alloc (.cells #[.int .i64 2, .int .i64 a, .int .i64 n, .slice A b.length c] 32)) m mg s y HI2.out.rsk a n ha0 ha1 hn1 (by omega) he
          clear he hlen
          generalize s.err a n = E at *
          have cv := conv_rd 0 0 (Rd.nil (wr.alloc (.cells #[.int .i64 2, .int .i64 a, .int .i64 n, .slice A b.length c] 32)) (fun _ => True) none) rfl
          go_wp2_with fail
          refine r1.mono ?_
          rintro e w4 ⟨rfl, rfl⟩
          clear r1
          go_wp2_with fail
          refine r2.mono ?_
          rintro e w4 ⟨rfl, rfl⟩
          clear r2 hsz1
          go_wp2
          clear cv
          generalize (wr.alloc (.cells #[.int .i64 2, .int .i64 a, .int .i64 n, .slice A b.length c] 32)) = wx at *
          have HP := Lib.hid (⟨HI2.out.dsk, HI2.out.rsk, HI2.out.fit.more, HI2.out.bel, HI2.out.bd, HI2.out.bg, HI2.out.bm, HI2.out.bn, HI2.out.n1, HI2.out.n2, HI2.out.n3, HI2.out.n4⟩ : PInv w w.heap.size size (k + 1) m mg d g s y wx)
          clear HI HI2
          have hup := up_quiet HP.out.dsk
          have hsz := size_quiet HP.out.dsk
          have hwq := writes_quiet HP.out.dsk
          rw [HP.out.fit.len] at hsz
          have r1 := HP.out.rsk.c1
          have r4 := HP.out.rsk.c4
          have hbo := bool_off (s).down
          have HDl := Lib.hid (show (s).down = (s).down from rfl)
          generalize (s).down = dn at hup r1 hbo
          generalize (s).wr = wn at hwq r4
          go_wp2
          go_quiet (first
            | (go_at_call 19; with_reducible exact Calls.quiet_of_same (hup _))
            | (go_at_call 20; with_reducible exact Calls.quiet_of_same (hsz _))
            | (go_at_call 21; with_reducible exact Calls.quiet_of_same (hwq _)))
          go_wp2
          go_roundw
          case rel => exact ⟨k + 1, d, g, s, y, by omega, rfl, by go_num, HP.out.old (below_drewN' (Below.refl _ _) _) (Nat.le_refl _)⟩
          case measure => simp [intOf]; omega
      have b2 : (kind == 2) = false := by simpa using k2
      by_cases k3 : kind = 3
      · subst k3
        by_cases hbad : a < 0 ∨ n < 0
        · have r1 := light_bad (wr.alloc (.cells #[.int .i64 3, .int .i64 a, .int .i64 n, .slice A b.length c] 32)) d a n hbad
          have hx : (a < 0) ∨ (0 ≤ a ∧ n < 0) := by omega
          clear hbad
          rcases hx with h6 | ⟨h6, h7⟩
          all_goals
            go_wp2_with fail
            refine r1.mono ?_
            rintro e w4 ⟨rfl, rfl⟩
            clear r1
            go_wp2
            generalize (wr.alloc (.cells #[.int .i64 3, .int .i64 a, .int .i64 n, .slice A b.length c] 32)) = wx at *
            have HP := Lib.hid (⟨HI2.out.dsk, HI2.out.rsk, HI2.out.fit.more, HI2.out.bel, HI2.out.bd, HI2.out.bg, HI2.out.bm, HI2.out.bn, HI2.out.n1, HI2.out.n2, HI2.out.n3, HI2.out.n4⟩ : PInv w w.heap.size size (k + 1) m mg d g s y wx)
            clear HI HI2
            have hup := up_quiet HP.out.dsk
            have hsz := size_quiet HP.out.dsk
            have hwq := writes_quiet HP.out.dsk
            rw [HP.out.fit.len] at hsz
            have r1 := HP.out.rsk.c1
            have r4 := HP.out.rsk.c4
            have hbo := bool_off (s).down
            have HDl := Lib.hid (show (s).down = (s).down from rfl)
            generalize (s).down = dn at hup r1 hbo
            generalize (s).wr = wn at hwq r4
            go_wp2
            go_quiet (first
              | (go_at_call 19; with_reducible exact Calls.quiet_of_same (hup _))
              | (go_at_call 20; with_reducible exact Calls.quiet_of_same (hsz _))
              | (go_at_call 21; with_reducible exact Calls.quiet_of_same (hwq _)))
            go_wp2
            go_roundw
            case rel => exact ⟨k + 1, d, g, s, y, by omega, rfl, by go_num, HP.out.old (below_drewN' (Below.refl _ _) _) (Nat.le_refl _)⟩
            case measure => simp [intOf]; omega
        · have h6 : 0 ≤ a := by omega
          have h7 : 0 ≤ n := by omega
          clear hbad
          go_wp2_with fail
          generalize (wr.alloc (.cells #[.int .i64 3, .int .i64 a, .int .i64 n, .slice A b.length c] 32)) = wo at *
          refine (light_ok wo d g s HI2.out.dsk a n h6 h7).mono ?_
          rintro e w4 ⟨rfl, h5, hb4, hz4⟩
          have H4 : Hid (Dsk w4 d g (s.lit a n)) := Lib.hid h5
          have HR4 := Lib.hid (HI2.out.rsk.but hb4 HI2.out.n1.symm HI2.out.n3.symm HI2.out.n2.symm HI2.out.n4.symm)
          have HB4 := Lib.hid (HI2.out.bel.trans (hb4.below HI2.out.bel.size HI2.out.bd HI2.out.bg))
          have qd := HI.out.dsk.blk.lt
          have qg := HI.out.dsk.row.lt
          have qm := HI.out.rsk.blk.lt
          have HO4 := Lib.hid (HK2.out.but hb4 (by omega) (by omega))
          have qm1 : ¬ (wr.heap.size = m) := by omega
          have qm2 : ¬ (m = wr.heap.size) := by omega
          clear qd qg qm
          clear h5 hb4 hz4 HK2
          generalize wr.heap.size = q at *
          have x1 : w4.cell? ⟨q, 1, none⟩ = some (.int .i64 a) := HO4.out.cell 1
          have x2 : w4.cell? ⟨q, 2, none⟩ = some (.int .i64 n) := HO4.out.cell 2
          have m2 := HR4.out.c2
          have m3 := HR4.out.c3
          have g2 := HR4.out.fz 2
          have g3 := HR4.out.fz 3
          go_wp2
          go_region
          go_wp2
          have HPI : Hid (PInv w w.heap.size size (k + 1) m mg d g (s.lit a n) n ((w4.setCell ⟨m, 2, none⟩ (.int .i64 a)).setCell ⟨m, 3, none⟩ (.int .i64 n)).drew) := Lib.hid
            ⟨⟨(H4.out.blk.other _ _ HI2.out.n1).other _ _ HI2.out.n1, (H4.out.row.other _ _ HI2.out.n3).other _ _ HI2.out.n3, H4.out.ne⟩,
             ⟨(HR4.out.blk.put 2 (.int .i64 a)).put 3 (.int .i64 n), (HR4.out.row.other _ _ HR4.out.ne.symm).other _ _ HR4.out.ne.symm, HR4.out.ne, fun _ => rfl⟩,
             HI2.out.fit.lit h6 ha1 h7, ((HB4.out.setCell HI2.out.bm _).setCell HI2.out.bm _).drew, HI2.out.bd, HI2.out.bg, HI2.out.bm, HI2.out.bn, HI2.out.n1, HI2.out.n2, HI2.out.n3, HI2.out.n4⟩
          clear x1 x2 m2 m3 g2 g3 H4 HR4 HB4 HO4
          generalize ((w4.setCell ⟨m, 2, none⟩ (.int .i64 a)).setCell ⟨m, 3, none⟩ (.int .i64 n)).drew = wx at *
          have HP := Lib.hid HPI.out
          clear HPI HI HI2
          have hup := up_quiet HP.out.dsk
          have hsz := size_quiet HP.out.dsk
          have hwq := writes_quiet HP.out.dsk
          rw [HP.out.fit.len] at hsz
          have r1 := HP.out.rsk.c1
          have r4 := HP.out.rsk.c4
          have hbo := bool_off ((s.lit a n)).down
          have HDl := Lib.hid (show ((s.lit a n)).down = ((s.lit a n)).down from rfl)
          generalize ((s.lit a n)).down = dn at hup r1 hbo
          generalize ((s.lit a n)).wr = wn at hwq r4
          go_wp2
          go_quiet (first
            | (go_at_call 19; with_reducible exact Calls.quiet_of_same (hup _))
            | (go_at_call 20; with_reducible exact Calls.quiet_of_same (hsz _))
            | (go_at_call 21; with_reducible exact Calls.quiet_of_same (hwq _)))
          go_wp2
          go_roundw
          case rel => exact ⟨k + 1, d, g, (s.lit a n), n, by omega, rfl, by go_num, HP.out.old (below_drewN' (Below.refl _ _) _) (Nat.le_refl _)⟩
          case measure => simp [intOf]; omega
      have b3 : (kind == 3) = false := by simpa using k3
      by_cases k4 : kind = 4
      · subst k4
        go_wp2_with fail
        generalize (wr.alloc (.cells #[.int .i64 4, .int .i64 a, .int .i64 n, .slice A b.length c] 32)) = wo at *
        refine (start_any wo d g s HI2.out.dsk).mono ?_
        rintro e w4 ⟨rfl, h5, hb4, hz4⟩
        have H4 : Hid (Dsk w4 d g s.started) := Lib.hid h5
        have HR4 := Lib.hid (HI2.out.rsk.but hb4 HI2.out.n1.symm HI2.out.n3.symm HI2.out.n2.symm HI2.out.n4.symm)
        have HB4 := Lib.hid (HI2.out.bel.trans (hb4.below HI2.out.bel.size HI2.out.bd HI2.out.bg))
        have m1 := HR4.out.c1
        have m2 := HR4.out.c2
        have g1 := HR4.out.fz 1
        have g2 := HR4.out.fz 2
        clear h5 hb4 hz4
        go_wp2
        have HPI : Hid (PInv w w.heap.size size (k + 1) m mg d g s.started y ((w4.setCell ⟨m, 1, none⟩ (.bool false)).setCell ⟨m, 2, none⟩ (.int .i64 (-1)))) := Lib.hid
          ⟨⟨(H4.out.blk.other _ _ HI2.out.n1).other _ _ HI2.out.n1, (H4.out.row.other _ _ HI2.out.n3).other _ _ HI2.out.n3, H4.out.ne⟩,
           ⟨(HR4.out.blk.put 1 (.bool false)).put 2 (.int .i64 (-1)), (HR4.out.row.other _ _ HR4.out.ne.symm).other _ _ HR4.out.ne.symm, HR4.out.ne, fun h => by cases h⟩,
           HI2.out.fit.started, (HB4.out.setCell HI2.out.bm _).setCell HI2.out.bm _, HI2.out.bd, HI2.out.bg, HI2.out.bm, HI2.out.bn, HI2.out.n1, HI2.out.n2, HI2.out.n3, HI2.out.n4⟩
        clear m1 m2 g1 g2 H4 HR4 HB4
        generalize ((w4.setCell ⟨m, 1, none⟩ (.bool false)).setCell ⟨m, 2, none⟩ (.int .i64 (-1))) = wx at *
        have HP := Lib.hid HPI.out
        clear HPI HI HI2
        have hup := up_quiet HP.out.dsk
        have hsz := size_quiet HP.out.dsk
        have hwq := writes_quiet HP.out.dsk
        rw [HP.out.fit.len] at hsz
        have r1 := HP.out.rsk.c1
        have r4 := HP.out.rsk.c4
        have hbo := bool_off (s.started).down
        have HDl := Lib.hid (show (s.started).down = (s.started).down from rfl)
        generalize (s.started).down = dn at hup r1 hbo
        generalize (s.started).wr = wn at hwq r4
        go_wp2
        go_quiet (first
          | (go_at_call 19; with_reducible exact Calls.quiet_of_same (hup _))
          | (go_at_call 20; with_reducible exact Calls.quiet_of_same (hsz _))
          | (go_at_call 21; with_reducible exact Calls.quiet_of_same (hwq _)))
        go_wp2
        go_roundw
        case rel => exact ⟨k + 1, d, g, s.started, y, by omega, rfl, by go_num, HP.out.old (below_drewN' (Below.refl _ _) _) (Nat.le_refl _)⟩
        case measure => simp [intOf]; omega
      have b4 : (kind == 4) = false := by simpa using k4
      by_cases k5 : kind = 5
      · subst k5
        have kc := conv_const
        go_wp2_with fail
        generalize (wr.alloc (.cells #[.int .i64 5, .int .i64 a, .int .i64 n, .slice A b.length c] 32)) = wo at *
        have hsz1 := HS1.out
        have hlen := HI2.out.fit.len
        refine (copy_any wo d g s HI2.out.dsk (by omega)).mono ?_
        rintro e w4 ⟨rfl, h5, hb4, hz4⟩
        have H4 := Lib.hid h5
        have HI4 := Lib.hid (HI2.out.old hb4 (Nat.le_refl _))
        have hbo := HI2.out.bel.size
        have HM := Lib.hid HI2.out.rsk.blk.lt
        have HMg := Lib.hid HI2.out.rsk.row.lt
        have HDl := Lib.hid HI2.out.dsk.blk.lt
        have HGl := Lib.hid HI2.out.dsk.row.lt
        clear h5 hb4 hlen
        have HZ4 := Lib.hid hz4
        have HBo := Lib.hid hbo
        clear hz4 hbo
        generalize wo.heap.size = q at *
        go_wp2_with fail
        generalize hw : w4.alloc _ = v4
        have hR : Rd v4 (· = w4.heap.size) (some ⟨w4.heap.size, 0, none⟩) [111, 116, 104, 101, 114] := by rw [← hw]; exact lit_rd w4 [111, 116, 104, 101, 114] _ rfl _
        have hB : Below w4.heap.size w4 v4 := by rw [← hw]; exact (Below.refl _ _).alloc (Nat.le_refl _) _
        clear hw
        have hz4 := HZ4.out
        have hdl := HDl.out
        have hgl := HGl.out
        have hm := HM.out
        have hmg := HMg.out
        have hbo := HBo.out
        have hd4 := HI4.out.bd
        have hg4 := HI4.out.bg
        refine (write_any v4 d g s (HI4.out.dsk.old hB) (HI4.out.fit.ok (by omega) (by omega)) 0 [111, 116, 104, 101, 114] _ 5 _ hR (by omega) (by omega) (by decide) (by decide) (by decide)).mono ?_
        rintro e w5 ⟨rfl, h5, hb5, hz5⟩
        have HPI : Hid (PInv w w.heap.size size (k + 1) m mg q (q + 1) s y w5) := Lib.hid
          ⟨(H4.out.old hB).but hb5 (by omega) (by omega) (by omega) (by omega), (HI4.out.rsk.old hB).but hb5 HI4.out.n1.symm HI4.out.n3.symm HI4.out.n2.symm HI4.out.n4.symm, HI4.out.fit.more,
           (HI4.out.bel.trans (hB.mono HI4.out.bel.size)).trans (hb5.below (Nat.le_trans HI4.out.bel.size hB.size) hd4 hg4), hbo, by omega, HI4.out.bm, HI4.out.bn, by omega, by omega, by omega, by omega⟩
        clear h5 hb5 hz5 hR hB kc hz4 hdl hgl hm hmg hbo hd4 hg4 H4 HI4 HM HMg HDl HGl HZ4 HBo
        generalize (s.write 0 [111, 116, 104, 101, 114]).1 = E at *
        go_wp2
        have HP := Lib.hid HPI.out
        clear HPI HI HI2
        have hup := up_quiet HP.out.dsk
        have hsz := size_quiet HP.out.dsk
        have hwq := writes_quiet HP.out.dsk
        rw [HP.out.fit.len] at hsz
        have r1 := HP.out.rsk.c1
        have r4 := HP.out.rsk.c4
        have hbo := bool_off (s).down
        have HDl := Lib.hid (show (s).down = (s).down from rfl)
        generalize (s).down = dn at hup r1 hbo
        generalize (s).wr = wn at hwq r4
        go_wp2
        go_quiet (first
          | (go_at_call 19; with_reducible exact Calls.quiet_of_same (hup _))
          | (go_at_call 20; with_reducible exact Calls.quiet_of_same (hsz _))
          | (go_at_call 21; with_reducible exact Calls.quiet_of_same (hwq _)))
        go_wp2
        go_roundw
        case rel => exact ⟨k + 1, q, (q + 1), s, y, by omega, rfl, by go_num, HP.out.old (below_drewN' (Below.refl _ _) _) (Nat.le_refl _)⟩
        case measure => simp [intOf]; omega
      have b5 : (kind == 5) = false := by simpa using k5
      clear k1 k2 k3 k4 k5
      go_wp2
      generalize (wr.alloc (.cells #[.int .i64 kind, .int .i64 a, .int .i64 n, .slice A b.length c] 32)) = wx at *
      have HP := Lib.hid (⟨HI2.out.dsk, HI2.out.rsk, HI2.out.fit.more, HI2.out.bel, HI2.out.bd, HI2.out.bg, HI2.out.bm, HI2.out.bn, HI2.out.n1, HI2.out.n2, HI2.out.n3, HI2.out.n4⟩ : PInv w w.heap.size size (k + 1) m mg d g s y wx)
      clear HI HI2
      have hup := up_quiet HP.out.dsk
      have hsz := size_quiet HP.out.dsk
      have hwq := writes_quiet HP.out.dsk
      rw [HP.out.fit.len] at hsz
      have r1 := HP.out.rsk.c1
      have r4 := HP.out.rsk.c4
      have hbo := bool_off (s).down
      have HDl := Lib.hid (show (s).down = (s).down from rfl)
      generalize (s).down = dn at hup r1 hbo
      generalize (s).wr = wn at hwq r4
      go_wp2
      go_quiet (first
        | (go_at_call 19; with_reducible exact Calls.quiet_of_same (hup _))
        | (go_at_call 20; with_reducible exact Calls.quiet_of_same (hsz _))
        | (go_at_call 21; with_reducible exact Calls.quiet_of_same (hwq _)))
      go_wp2
      go_roundw
      case rel => exact ⟨k + 1, d, g, s, y, by omega, rfl, by go_num, HP.out.old (below_drewN' (Below.refl _ _) _) (Nat.le_refl _)⟩
      case measure => simp [intOf]; omega
    · go_wp2_with fail
      refine (start_any wr d g s HI.out.dsk).mono ?_
      rintro e w4 ⟨rfl, h5, hb4, hz4⟩
      have H4 : Hid (Dsk w4 d g s.started) := Lib.hid h5
      have HR4 := Lib.hid (HI.out.rsk.but hb4 HI.out.n1.symm HI.out.n3.symm HI.out.n2.symm HI.out.n4.symm)
      have HB4 := Lib.hid (HI.out.bel.trans (hb4.below HI.out.bel.size HI.out.bd HI.out.bg))
      clear h5 hb4 hz4
      have hlen := HI.out.fit.len
      have hsz1 := HS1.out
      have c1 := read_ok w4 d g s.started H4.out 0 size (by show s.l.length ≤ _; omega) rfl (by show _ ≤ s.l.length; omega)
      rw [show s.started.l = s.l from rfl, take_all hlen] at c1
      have HLen := Lib.hid hlen
      clear hlen hsz1
      go_wp2_with fail
      refine c1.mono ?_
      rintro e w5 ⟨rfl, h5, hb5, hz5⟩
      clear c1
      have HR5 := Lib.hid (HR4.out.old hb5)
      have HB5 := Lib.hid (HB4.out.trans (hb5.mono HB4.out.size))
      have cv1 : ∀ j, (convert 30 9 (.slice (some ⟨w4.heap.size, 0, none⟩) size size)).run Try.prog (w5.drewN j) = .ok (.string (mk s.l)) (w5.drewN j) := fun j => conv_rd size size (Rd.of_blk (show Blk (w5.drewN j) _ _ _ from h5)) HLen.out.symm
      have cv2 : ∀ j, (convert 30 9 (.slice (some ⟨mg, 0, none⟩) size size)).run Try.prog (w5.drewN j) = .ok (.string (mk s.l)) (w5.drewN j) := fun j => conv_rd size size (Rd.of_blk (show Blk (w5.drewN j) _ _ _ from HR5.out.row)) HLen.out.symm
      have r0 := HR5.out.c0
      rw [HLen.out] at r0
      clear h5 hb5 hz5 HR4 H4 HB4 HR5
      generalize w4.heap.size = q at *
      generalize mk s.l = str at *
      go_wp2
      go_quiet (fail)
      go_wp2
      go_ret
      exact ⟨by simp, below_drewN' HB5.out _⟩
theorem plays_any (w : World) (size : Int) (Z : Option Addr) (cz : Nat) (os : List OpD) (_h0 : -9223372036854775808 ≤ size) (_h1 : size ≤ 9223372036854775807) (_hx : cz ≤ 2 ^ 63 - 1) (hZ : RdO w w.heap.size Z os) :
    Calls Try.prog 3 #[.int .i64 size, .slice Z os.length cz] w fun e w' => e = .returned (.bool true) ∧ Below w.heap.size w w' := by
  by_cases h : 60 < os.length ∨ (4096 < size ∧ size ≤ 1048576)
  · exact plays_long w size Z cz os h
  by_cases h2 : size < 1024 ∨ 1048576 < size
  · exact plays_none w size Z cz os (by omega) h2
  · obtain ⟨size, rfl⟩ : ∃ k : Nat, size = (k : Int) := ⟨size.toNat, by omega⟩
    exact plays_ok w size Z cz os (by omega) (by omega) (by omega) hZ
end Go.Proofs.Ytohdiepoeadenaa.Dsk
