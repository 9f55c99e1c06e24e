/-
  The walk of the statement WalOpens.
-/
import Derived.Test.YtffbkkdnklhfmaaL5
import Derived.Test.YtffbkkdnklhfmaaDNum
import Derived.Deep.QuietTactic
import Derived.BigQuiet
namespace Go.Proofs.Ytffbkkdnklhfmaa.Dsk
open Go.RowKit
/-- While the records are appended. -/
structure PInv (w : World) (d g0 lb N k : Nat) (rs : List (List UInt8)) (s : Dk) (S : Nat → Prop) (c : Lc) (wr : World) : Prop where
  well : Well wr d g0 lb S s c (2 + 2 * k) N
  set : s.set = false
  rs : c.rs = rs.take k
  q : c.q ≤ 16 + 209 * k
  own : ∀ j, S j → w.heap.size ≤ j
  bel : Below w.heap.size w wr
/-- While it is opened and crashes. -/
structure QuInv (w : World) (d g0 B n : Nat) (rs : List (List UInt8)) (A : Option Addr) (s : Dk) (c : Lc) (wr : World) : Prop where
  has : Has wr d g0 s n 4096 c
  eq : c.rs = rs
  want : RdL wr (fun j => B ≤ j) A rs
  bel : Below w.heap.size w wr
theorem RdL.tight {w : World} {S : Nat → Prop} {A : Option Addr} {rs : List (List UInt8)} (h : RdL w S A rs) : RdL w (fun k => S k ∧ k < w.heap.size) A rs := fun i x hi => by
  obtain ⟨ad, Bx, c, e1, e2, e3, e4, e5, e6⟩ := h i x hi
  exact ⟨ad, Bx, c, e1, ⟨e2, e3⟩, e3, e4, e5, fun hl => by
    obtain ⟨a, f1, f2, f3, f4⟩ := e6 hl
    exact ⟨a, f1, ⟨f2, f3⟩, f3, f4⟩⟩
set_option maxRecDepth 100000
set_option maxHeartbeats 16000000 in
theorem opens_ok (w : World) (A B C : Option Addr) (ka kb kc : Nat) (rs : List (List UInt8)) (b : List UInt8) (zs : List Int) (hA : RdL w (· < w.heap.size) A rs) (hB : Rd w (· < w.heap.size) B b) (hC : RdI w (· < w.heap.size) C zs) (hkb : b.length ≤ kb) (hkb0 : B = none → kb = 0) (hkn : A = none → ka = 0) (hn : rs.length ≤ 5) (hb2 : b.length ≤ 200) (hz : zs.length ≤ 12) :
    Calls Try.prog 5 #[.slice A rs.length ka, .slice B b.length kb, .slice C zs.length kc] w fun e w' => e = .returned (.bool true) ∧ Below w.heap.size w w' := by
  obtain ⟨n, hnn⟩ : ∃ n, n = rs.length := ⟨_, rfl⟩
  obtain ⟨m, hm⟩ : ∃ m, m = b.length := ⟨_, rfl⟩
  obtain ⟨z, hzz⟩ : ∃ z, z = zs.length := ⟨_, rfl⟩
  have HN := Lib.hid hnn
  have HM := Lib.hid hm
  have HZ := Lib.hid hzz
  have HA := Lib.hid hA
  have HB := Lib.hid hB
  have HC := Lib.hid hC
  have HK := Lib.hid hkb
  have HK0 := Lib.hid hkb0
  have HKn := Lib.hid hkn
  have HL := Lib.hid (⟨hn, hb2, hz⟩ : rs.length ≤ 5 ∧ b.length ≤ 200 ∧ zs.length ≤ 12)
  have x1 : ¬ (5 : Int) < n := by omega
  have x4 : ¬ (200 : Int) < m := by omega
  have x5 : ¬ (12 : Int) < z := by omega
  rw [← hnn, ← hm, ← hzz]
  clear hA hB hC hkb hkb0 hn hb2 hz hnn hm hzz hkn
  go_enter Try.func5, Try.ntmps5
  go_wp2_with fail
  refine (anchor_any w).mono ?_
  rintro e w1 ⟨rfl, hb1⟩
  have HB1 := Lib.hid hb1
  clear hb1
  go_wp2_with fail
  refine (new_ok w1 4096 (by omega) (by omega)).mono ?_
  rintro e w2 ⟨rfl, h2, hb2, hz2⟩
  obtain ⟨d, hd⟩ : ∃ d, d = w1.heap.size + 1 := ⟨_, rfl⟩
  obtain ⟨g0, hg0⟩ : ∃ g0, g0 = w1.heap.size := ⟨_, rfl⟩
  rw [← hg0, show g0 + 1 = d by omega] at h2
  have H2 := Lib.hid h2
  have HB2 := Lib.hid (HB1.out.trans (hb2.mono HB1.out.size))
  have HDG : Hid (w.heap.size ≤ d ∧ w.heap.size ≤ g0 ∧ d < w2.heap.size ∧ g0 < w2.heap.size) := Lib.hid (by have := HB1.out.size; omega)
  rw [← hd]
  clear h2 hb2 hz2 hd hg0
  go_wp2_with fail
  refine (open_new w2 d g0 4096 H2.out (by omega) (by omega)).mono ?_
  rintro e w3 ⟨lb, s, rfl, hlb, hb3, hset, hw3⟩
  have HLB : Hid (w.heap.size ≤ w2.heap.size ∧ w2.heap.size ≤ lb) := Lib.hid ⟨HB2.out.size, hlb⟩
  have HI : Hid (PInv w d g0 lb 4096 0 rs s _ ⟨4096 / 2, false, 0, 1, [], 16⟩ w3) := Lib.hid ⟨hw3, hset, rfl, Nat.le_refl _, fun j e => Nat.le_trans HB2.out.size e.1, HB2.out.trans (hb3.below HB2.out.size HDG.out.1 HDG.out.2.1)⟩
  clear hlb hb3 hset hw3 H2
  go_wp2
  go_loopw [51] (fun i wr => ∃ (k : Nat) (s : Dk) (S : Nat → Prop) (c : Lc), k ≤ n ∧ i = .int .i64 (k : Int) ∧ PInv w d g0 lb 4096 k rs s S c wr) (fun i _ => n - (intOf i).toNat)
  case atStart => exact ⟨0, s, _, _, Nat.zero_le _, rfl, HI.out⟩
  case round =>
    clear HI
    obtain ⟨k, s, S, c, hk, rfl, hinv⟩ := hrel
    have HI := Lib.hid hinv
    clear hinv
    by_cases hlt : k < n
    · obtain ⟨x, hx⟩ : ∃ x, rs[k]? = some x := ⟨_, List.getElem?_eq_getElem (by have := HN.out; omega)⟩
      obtain ⟨ad, Ax, cx, rfl, had, _, hcx, hxc, hrx⟩ := HA.out k x hx
      have h1 : wr.cell? (ad.add k) = some (.slice Ax x.length cx) := (HI.out.bel.cell (by rw [block_add]; exact had)).trans hcx
      have hrx2 := hrx.below HI.out.bel (fun k h => h)
      obtain ⟨l, hl⟩ : ∃ l, l = x.length := ⟨_, rfl⟩
      have HLx := Lib.hid hl
      rw [← hl] at h1
      have HX := Lib.hid hx
      have HXc := Lib.hid hxc
      have HRx := Lib.hid hrx2
      have hn6 := HL.out.1
      rw [← HN.out] at hn6
      clear hx had hcx hxc hrx hrx2 hl
      by_cases hbad : l < 1 ∨ 200 < l
      · have hb2 : (l : Int) < 1 ∨ (¬ (l : Int) < 1 ∧ (200 : Int) < l) := by omega
        clear hbad
        rcases hb2 with y1 | ⟨y1, y2⟩
        all_goals
          go_wp2
          go_ret
          exact ⟨rfl, HI.out.bel⟩
      · have y1 : ¬ (l : Int) < 1 := by omega
        have y2 : ¬ (200 : Int) < l := by omega
        have happ := append_calm wr d g0 lb S s c (2 + 2 * k) 4096 HI.out.well HI.out.set (by omega) (by omega) (· < w.heap.size) Ax cx x HRx.out (fun j hj => by
          have h1 := HDG.out
          have h2 := HLB.out
          have hj' : j < w.heap.size := hj
          exact ⟨by omega, by omega, by omega, fun e => by have := HI.out.own j e; omega⟩) HXc.out (by have := HLx.out; omega) (by have := HLx.out; omega) (by have := HLx.out; have := HI.out.q; have := HI.out.well.sz; omega)
        rw [← HLx.out] at happ
        have HApp := Lib.hid happ
        have HY : Hid (l ≤ 200) := Lib.hid (by omega)
        clear happ hbad
        go_wp2_with fail
        refine HApp.out.mono ?_
        rintro e w5 ⟨s5, S5, rfl, hk5, hS5, hset5, hw5⟩
        have HI5 : Hid (PInv w d g0 lb 4096 (k + 1) rs s5 S5 (c.plus x) w5) := Lib.hid ⟨by rw [show 2 + 2 * (k + 1) = 2 + 2 * k + 2 by omega]; exact hw5, hset5, by
            show c.rs ++ [x] = _
            rw [HI.out.rs, List.take_add_one, HX.out]; rfl, by
            show c.q + (9 + x.length) ≤ _
            have := HI.out.q; have := HLx.out; have := HY.out; omega, fun j e => by
            rcases hS5 j e with e | e
            · exact HI.out.own j e
            · have := HI.out.bel.size; omega, HI.out.bel.trans (hk5.below HI.out.bel.size (fun j e => by
            have h1 := HDG.out
            have h2 := HLB.out
            rcases e with e | e | e | e
            · omega
            · omega
            · omega
            · exact HI.out.own j e))⟩
        clear hk5 hS5 hset5 hw5 HApp
        go_wp2
        go_roundw
        case rel => exact ⟨k + 1, s5, S5, _, by omega, by go_num, HI5.out⟩
        case measure => simp [intOf]; omega
    · obtain rfl : k = n := by omega
      have HRs : Hid (c.rs = rs) := Lib.hid (by rw [HI.out.rs, HN.out, List.take_length])
      have hk6 := HL.out.1
      rw [← HN.out] at hk6
      have HK6 := Lib.hid hk6
      clear hk6 hlt hk
      have HLt := Lib.hid (light_log HI.out.well 0 (m : Int) (by decide) (by decide) (by omega))
      go_wp2_with fail
      refine HLt.out.mono ?_
      rintro e w4 ⟨rfl, hw4, hb4⟩
      have HW4 := Lib.hid hw4
      have HB4 : Hid (Below w.heap.size w w4) := Lib.hid (HI.out.bel.trans (hb4.below HI.out.bel.size HDG.out.1 HDG.out.2.1))
      clear hw4 hb4 HLt
      have HO0 := Lib.hid (own8_empty w4)
      have hms : m + 1 ≤ 201 := by omega
      have hbz := HB4.out.size
      go_wp2_with (first
        | (at_builtin; refine wpList_append_own8 rfl _ _ rfl w4.heap.size (.slice (some ⟨w4.heap.size, 0, none⟩) 0 0) [] rfl HO0.out B kb b (show Value.slice B m kb = .slice B b.length kb by rw [HM.out]) HK0.out (· < w.heap.size) (HB.out.below ((HB4.out.alloc HB4.out.size _)) (fun k h => h)) (by have := HL.out.2.1; simp; omega) (by simp) ?_; intro v1 wc hO1 hgc; have HBc : Hid (Below w4.heap.size w4 wc) := Lib.hid (((Below.refl w4.heap.size w4).alloc (Nat.le_refl _) (.cells #[] 5)).grown hgc (by simp) (fun j hj => by have hj2 : some w4.heap.size = some j := hj; injection hj2 with hj2; omega)); have HO1 := Lib.hid hO1; have HF1 := Lib.hid hO1.rd; have HV1 := Lib.hid (fun j e => (World.ownsRow.lt hO1 j e).1); have HO1b : Hid (Own (wc.alloc (.cells #[.int .u8 1] 5)) w4.heap.size v1 ([] ++ b)) := Lib.hid (own_below hO1 ((Below.refl wc.heap.size wc).alloc (Nat.le_refl _) (.cells #[.int .u8 1] 5))); clear hO1 hgc)
        | (at_builtin; refine wpList_append_own8 rfl _ _ rfl w4.heap.size v1 ([] ++ b) rfl HO1b.out (some ⟨wc.heap.size, 0, none⟩) 1 [1] rfl (fun h => by cases h) (· = wc.heap.size) (Rd.of_blk (heap_alloc_new wc _)) (by have := HL.out.2.1; simp; omega) (by have := HBc.out.size; simp; omega) ?_; intro v2 wd hO2 hgd; have HBd : Hid (Below w4.heap.size w4 wd) := Lib.hid ((HBc.out.alloc HBc.out.size (.cells #[.int .u8 1] 5)).grown hgd (by have := HBc.out.size; simp; omega) HV1.out); obtain ⟨A2, c2, rfl, hc2, _, hr2⟩ := hO2.rd; have HR2 := Lib.hid hr2; have HC2 := Lib.hid hc2; clear hO2 hgd hr2 hc2)
        | fail)
      have HBd2 : Hid (Below w.heap.size w wd) := Lib.hid (HB4.out.trans (HBd.out.mono hbz))
      have hw4t : Well w4 d g0 lb (fun j => S j ∧ j < w4.heap.size) _ c _ 4096 := ⟨HW4.out.sys.tight, HW4.out.ok, HW4.out.len, HW4.out.sz, HW4.out.up, HW4.out.was, HW4.out.wk, HW4.out.bl⟩
      have hwl := hw4t.old HBd.out
      have happ := append_dark wd d g0 lb _ _ c _ 4096 hwl rfl rfl (by have := HK6.out; omega) (by omega) (fun j => w4.heap.size ≤ j) A2 c2 ([] ++ b ++ [1]) HR2.out (fun j hj => by
        have h1 := HW4.out.sys.dsk.blk.lt
        have h2 := HW4.out.sys.dsk.row.lt
        have h3 := HW4.out.sys.log.lt
        have hj' : w4.heap.size ≤ j := hj
        exact ⟨by omega, by omega, by omega, fun e => by have := e.2; omega⟩) HC2.out (by simp) (by have := HL.out.2.1; simp; omega) (by have := HL.out.2.1; have := HI.out.q; have := HK6.out; have := HI.out.well.sz; simp; omega)
      rw [show ([] ++ b ++ [1] : List UInt8).length = b.length + 1 by simp] at happ
      have HApp := Lib.hid happ
      clear happ hwl hw4t HO0
      refine HApp.out.mono ?_
      rintro e w5 ⟨s5, rfl, hk5, hh5⟩
      have HH5 := Lib.hid hh5
      have HB5 : Hid (Below w.heap.size w w5) := Lib.hid (HBd2.out.trans (hk5.below HBd2.out.size (fun j e => by
        have h1 := HDG.out
        have h2 := HLB.out
        rcases e with e | e | e | e
        · omega
        · omega
        · omega
        · exact HI.out.own j e.1)))
      have HDG5 : Hid (d < w5.heap.size ∧ g0 < w5.heap.size) := Lib.hid ⟨hh5.dsk.blk.lt, hh5.dsk.row.lt⟩
      have HSto := Lib.hid (stored_any w5 d g0 _ _ 4096 c hh5 (by omega))
      clear hk5 hh5 HApp HBc HBd HO1 HO1b HF1 HV1 HR2 HC2
      go_wp2_with fail
      refine HSto.out.mono ?_
      rintro e w6 ⟨AW, cw, rfl, hrx, hbx⟩
      have HQ : Hid (QuInv w d g0 w5.heap.size (2 + 2 * k + 1 + 0) rs AW s5 c w6) := Lib.hid ⟨HH5.out.old hbx, HRs.out, by
        have h := hrx.rdl
        rw [HRs.out] at h
        exact h, HB5.out.trans (hbx.mono HB5.out.size)⟩
      have hcl : c.rs.length = k := by rw [HRs.out, HN.out]
      rw [hcl]
      clear hrx hbx HSto hcl HH5
      go_wp2
      go_loopw [86] (fun i wr => ∃ (j : Nat) (s : Dk) (c : Lc), j ≤ z ∧ i = .int .i64 (j : Int) ∧ QuInv w d g0 w5.heap.size (2 + 2 * k + 1 + j) rs AW s c wr) (fun i _ => z - (intOf i).toNat)
      case atStart => exact ⟨0, s5, c, Nat.zero_le _, rfl, HQ.out⟩
      case round =>
        clear HQ
        obtain ⟨j, sj, cj, hj, rfl, hq⟩ := hrel
        have HQ := Lib.hid hq
        clear hq
        by_cases hlt : j < z
        · obtain ⟨y, hy⟩ : ∃ y, zs[j]? = some y := ⟨_, List.getElem?_eq_getElem (by have := HZ.out; omega)⟩
          obtain ⟨ad, rfl, had, hcl⟩ := HC.out (by have := HZ.out; omega)
          have h1 : wr.cell? (ad.add j) = some (.int .i64 y) := (HQ.out.bel.cell (by rw [block_add]; exact had)).trans (hcl j y hy)
          clear had hcl hy
          by_cases hneg : y < 0
          · go_wp2
            go_ret
            exact ⟨rfl, HQ.out.bel⟩
          · have HY : Hid (0 ≤ y) := Lib.hid (by omega)
            have HJ : Hid (j ≤ 12 ∧ k ≤ 5) := Lib.hid (by have := HL.out; have := HZ.out; have := HN.out; omega)
            have HSt := Lib.hid (start_log HQ.out.has)
            go_wp2_with fail
            refine HSt.out.mono ?_
            rintro e v1 ⟨rfl, hh1, hb1⟩
            have HLi := Lib.hid (light_has hh1 0 y (by decide) (by decide) HY.out)
            clear HSt
            go_wp2_with fail
            refine HLi.out.mono ?_
            rintro e v2 ⟨rfl, hh2, hb2⟩
            have HOp := Lib.hid (open_has v2 d g0 _ _ 4096 cj hh2 rfl (by have := HJ.out; omega) (by omega))
            clear HLi
            have HB12 := Lib.hid (hb1.trans hb2)
            clear hh1 hb1 hh2 hb2
            go_wp2_with fail
            refine HOp.out.mono ?_
            rintro e v3 ⟨hb3, s3, c3, hc3, hh3, he3⟩
            have HB13 := Lib.hid (HB12.out.trans hb3)
            have HH3 := Lib.hid hh3
            have hrs3 : c3.rs = rs := hc3.trans HQ.out.eq
            have HR3 := Lib.hid hrs3
            have HE3 := Lib.hid he3
            have hsz5 := HB5.out.size
            have HBv : Hid (Below w.heap.size w v3) := Lib.hid (HQ.out.bel.trans (HB13.out.below HQ.out.bel.size HDG.out.1 HDG.out.2.1))
            have HW3 : Hid (RdL v3 (fun j => w5.heap.size ≤ j) AW rs) := Lib.hid (HQ.out.want.keep (fun q hq hl => HB13.out.block q hl (by rintro rfl; have h5 := HDG5.out.1; have hq' : w5.heap.size ≤ q := hq; omega) (by rintro rfl; have h5 := HDG5.out.2; have hq' : w5.heap.size ≤ q := hq; omega)) HB13.out.size)
            have HSto := Lib.hid (stored_any v3 d g0 _ _ 4096 c3 hh3 (by omega))
            clear hb3 hc3 hh3 he3 hrs3 HB12 HOp HQ
            have tail : ∀ e, (∃ lb, e = Ending.returned (.tuple #[.pointer (some ⟨lb, 0, none⟩), .int .i64 0])) ∨ e = .returned (.tuple #[.pointer none, .int .i64 20]) → True := fun _ _ => trivial
            clear tail
            rcases HE3.out with ⟨lb3, rfl⟩ | rfl
            all_goals
              go_wp2_with fail
              refine HSto.out.mono ?_
              rintro e v4 ⟨A4, k4, rfl, hr4, hb4⟩
              have hcl4 : c3.rs.length = k := by rw [HR3.out, HN.out]
              have hd4 := hr4.rdl
              rw [HR3.out] at hd4
              have HQ4 : Hid (QuInv w d g0 w5.heap.size (2 + 2 * k + 1 + j + 1) rs AW s3 c3 v4) := Lib.hid ⟨HH3.out.old hb4, HR3.out, HW3.out.old hb4, HBv.out.trans (hb4.mono HBv.out.size)⟩
              have hsm := same_any v4 _ _ A4 AW k4 cw rs rs hd4 HQ4.out.want (by have := HL.out.1; omega)
              rw [show decide (rs = rs) = true by simp, ← HN.out] at hsm
              have HSm := Lib.hid hsm
              rw [hcl4]
              clear hcl4 hd4 hr4 hb4 hsm HSto HH3 HW3 HR3 HE3
              go_wp2_with fail
              refine HSm.out.mono ?_
              rintro e v5 ⟨rfl, hb5⟩
              have HQ5 : Hid (QuInv w d g0 w5.heap.size (2 + 2 * k + 1 + (j + 1)) rs AW s3 c3 v5) := Lib.hid ⟨HQ4.out.has.old hb5, HQ4.out.eq, HQ4.out.want.old hb5, HQ4.out.bel.trans (hb5.mono HQ4.out.bel.size)⟩
              clear hb5 HSm HQ4
              go_wp2
              go_roundw
              case rel => exact ⟨j + 1, s3, c3, by omega, by go_num, HQ5.out⟩
              case measure => simp [intOf]; omega
        · obtain rfl : j = z := by omega
          have HJ : Hid (j ≤ 12 ∧ k ≤ 5) := Lib.hid (by have := HL.out; have := HZ.out; have := HN.out; omega)
          have HSt := Lib.hid (start_log HQ.out.has)
          go_wp2_with fail
          refine HSt.out.mono ?_
          rintro e v1 ⟨rfl, hh1, hb1⟩
          have HOp := Lib.hid (open_calm v1 d g0 _ _ 4096 cj hh1 rfl rfl (by have := HJ.out; omega) (by omega))
          have HB1' := Lib.hid hb1
          have HZ1 := Lib.hid (show v1.heap.size ≥ wr.heap.size from hb1.size)
          clear HSt hh1 hb1
          go_wp2_with fail
          refine HOp.out.mono ?_
          rintro e v2 ⟨lb2, s2, rfl, hlb2, hb2, hset2, hw2⟩
          have HB12 := Lib.hid (HB1'.out.trans hb2)
          have hsz5 := HB5.out.size
          have HBv : Hid (Below w.heap.size w v2) := Lib.hid (HQ.out.bel.trans (HB12.out.below HQ.out.bel.size HDG.out.1 HDG.out.2.1))
          have HW2 : Hid (RdL v2 (fun j => w5.heap.size ≤ j ∧ j < wr.heap.size) AW rs) := Lib.hid (by
            have ht : RdL wr (fun j => w5.heap.size ≤ j ∧ j < wr.heap.size) AW rs := HQ.out.want.tight
            exact ht.keep (fun q hq hl => HB12.out.block q hl (by rintro rfl; have h5 := HDG5.out.1; have hq' := hq.1; omega) (by rintro rfl; have h5 := HDG5.out.2; have hq' := hq.1; omega)) HB12.out.size)
          have hrs2 : cj.rs = rs := HQ.out.eq
          have HRec := Lib.hid (records_log hw2 (by omega))
          have HLb : Hid (wr.heap.size ≤ lb2 ∧ w.heap.size ≤ wr.heap.size) := Lib.hid ⟨Nat.le_trans HZ1.out hlb2, HQ.out.bel.size⟩
          clear hlb2 hb2 hset2 HOp hw2
          go_wp2_with fail
          refine HRec.out.mono ?_
          rintro e v3 ⟨r3, rfl, hr3, _, hk3⟩
          have hd3 := hr3.rdl
          rw [hrs2] at hd3
          have HBw : Hid (Below w.heap.size w v3) := Lib.hid (HBv.out.trans (hk3.below HBv.out.size (fun k e => by have := HLb.out; omega)))
          have HW3 := Lib.hid (HW2.out.keep (w' := v3) (fun q hq hl => hk3.block q hl (by have := HLb.out; have := hq.2; omega)) hk3.size)
          have hl3 : cj.rs.length = k := by rw [hrs2, HN.out]
          have hsm := same_any v3 _ _ (some ⟨r3, 0, none⟩) AW k cw rs rs hd3 HW3.out (by have := HL.out.1; omega)
          rw [show decide (rs = rs) = true by simp, ← HN.out] at hsm
          have HSm := Lib.hid hsm
          have hs2 := fun W (hb : Below v3.heap.size v3 W) => same_any W _ _ AW A cw ka rs rs (HW3.out.old hb) (HA.out.keep (fun q hq hl => (HBw.out.trans (hb.mono HBw.out.size)).block q hq) (HBw.out.trans (hb.mono HBw.out.size)).size) (by have := HL.out.1; omega)
          rw [show decide (rs = rs) = true by simp, ← HN.out] at hs2
          have HS2 := Lib.hid hs2
          rw [hl3]
          clear hd3 hr3 hk3 hsm hs2 hl3 hrs2 HRec
          go_wp2_with fail
          refine HSm.out.mono ?_
          rintro e v4 ⟨rfl, hb4⟩
          have HS3 := Lib.hid (HS2.out v4 hb4)
          have HB4' := Lib.hid (HBw.out.trans (hb4.mono HBw.out.size))
          clear hb4 HSm HS2
          go_wp2_with fail
          refine HS3.out.mono ?_
          rintro e v5 ⟨rfl, hb5⟩
          have HB5' := Lib.hid (HB4'.out.trans (hb5.mono HB4'.out.size))
          clear hb5
          go_wp2
          go_ret
          exact ⟨rfl, HB5'.out⟩
set_option maxRecDepth 100000 in
set_option maxHeartbeats 4000000 in
theorem opens_none (w : World) (A B C : Option Addr) (n m z ka kb kc : Nat) (h : 5 < n ∨ 200 < m ∨ 12 < z) :
    Calls Try.prog 5 #[.slice A n ka, .slice B m kb, .slice C z kc] w fun e w' => e = .returned (.bool true) ∧ Below w.heap.size w w' := by
  have hx : (5 : Int) < n ∨ (¬ (5 : Int) < n ∧ (200 : Int) < m) ∨ (¬ (5 : Int) < n ∧ ¬ (200 : Int) < m ∧ (12 : Int) < z) := by omega
  clear h
  rcases hx with h1 | ⟨h1, h2⟩ | ⟨h1, h2, h3⟩
  all_goals
    go_enter Try.func5, Try.ntmps5
    go_wp2_with fail
    refine (anchor_any w).mono ?_
    rintro e w1 ⟨rfl, hb1⟩
    have HB1 := Lib.hid hb1
    clear hb1
    go_wp2
    go_ret
    exact ⟨rfl, HB1.out⟩
theorem opens_any (w : World) (A B C : Option Addr) (ka kb kc : Nat) (rs : List (List UInt8)) (b : List UInt8) (zs : List Int) (hA : RdL w (· < w.heap.size) A rs) (hB : Rd w (· < w.heap.size) B b) (hC : RdI w (· < w.heap.size) C zs) (hkb : b.length ≤ kb) (hkb0 : B = none → kb = 0) (hkn : A = none → ka = 0) :
    Calls Try.prog 5 #[.slice A rs.length ka, .slice B b.length kb, .slice C zs.length kc] w fun e w' => e = .returned (.bool true) ∧ Below w.heap.size w w' := by
  by_cases h : 5 < rs.length ∨ 200 < b.length ∨ 12 < zs.length
  · exact opens_none w A B C _ _ _ ka kb kc h
  · exact opens_ok w A B C ka kb kc rs b zs hA hB hC hkb hkb0 hkn (by omega) (by omega) (by omega)
end Go.Proofs.Ytffbkkdnklhfmaa.Dsk
