/-
  The walk of the statement WalTorn: whatever the records and the fuse it returns true, and nothing that was there before has changed.
-/
import Derived.Test.YtffbkkdnklhfmaaL3
import Derived.Deep.QuietTactic
import Derived.BigQuiet
namespace Go.Proofs.Ytffbkkdnklhfmaa.Dsk
open Go.RowKit
set_option maxRecDepth 100000 in
set_option maxHeartbeats 4000000 in
theorem torn_none (w : World) (A B : Option Addr) (n m ka kb : Nat) (fw by' : Int) (h : 6 < n ∨ m < 1 ∨ 300 < m ∨ fw < 0 ∨ 3 < fw ∨ by' < 0) :
    Calls Try.prog 4 #[.slice A n ka, .slice B m kb, .int .i64 fw, .int .i64 by'] w fun e w' => e = .returned (.bool true) ∧ Below w.heap.size w w' := by
  have hx : (6 : Int) < n ∨ (¬ (6 : Int) < n ∧ (m : Int) < 1) ∨ (¬ (6 : Int) < n ∧ ¬ (m : Int) < 1 ∧ (300 : Int) < m) ∨ (¬ (6 : Int) < n ∧ ¬ (m : Int) < 1 ∧ ¬ (300 : Int) < m ∧ fw < 0) ∨ (¬ (6 : Int) < n ∧ ¬ (m : Int) < 1 ∧ ¬ (300 : Int) < m ∧ ¬ fw < 0 ∧ 3 < fw) ∨ (¬ (6 : Int) < n ∧ ¬ (m : Int) < 1 ∧ ¬ (300 : Int) < m ∧ ¬ fw < 0 ∧ ¬ 3 < fw ∧ by' < 0) := by omega
  clear h
  rcases hx with h1 | ⟨h1, h2⟩ | ⟨h1, h2, h3⟩ | ⟨h1, h2, h3, h4⟩ | ⟨h1, h2, h3, h4, h5⟩ | ⟨h1, h2, h3, h4, h5, h6⟩
  all_goals
    go_enter Try.func4, Try.ntmps4
    go_wp2_with fail
    refine (anchor_any w).mono ?_
    rintro e w1 ⟨rfl, hb1⟩
    have HB1 := Lib.hid hb1
    clear hb1
    go_wp2
    go_ret
    exact ⟨rfl, HB1.out⟩
/-- While the records are appended. -/
structure TInv (w : World) (d g0 lb N k : Nat) (rs : List (List UInt8)) (s : Dk) (S : Nat → Prop) (c : Lc) (wr : World) : Prop where
  well : Well wr d g0 lb S s c (2 + 2 * k) N
  set : s.set = false
  rs : c.rs = rs.take k
  q : c.q ≤ 16 + 309 * k
  own : ∀ j, S j → w.heap.size ≤ j
  bel : Below w.heap.size w wr
set_option maxRecDepth 100000
set_option maxHeartbeats 16000000 in
theorem torn_ok (w : World) (A B : Option Addr) (ka kb : Nat) (rs : List (List UInt8)) (b : List UInt8) (fw by' : Int) (hA : RdL w (· < w.heap.size) A rs) (hB : Rd w (· < w.heap.size) B b) (hkb : b.length ≤ kb) (hkn : A = none → ka = 0) (hn : rs.length ≤ 6) (hb1 : 1 ≤ b.length) (hb2 : b.length ≤ 300) (hw1 : 0 ≤ fw) (hw2 : fw ≤ 3) (hby : 0 ≤ by') :
    Calls Try.prog 4 #[.slice A rs.length ka, .slice B b.length kb, .int .i64 fw, .int .i64 by'] w fun e w' => e = .returned (.bool true) ∧ Below w.heap.size w w' := by
  obtain ⟨n, hnn⟩ : ∃ n, n = rs.length := ⟨_, rfl⟩
  obtain ⟨m, hm⟩ : ∃ m, m = b.length := ⟨_, rfl⟩
  have HN := Lib.hid hnn
  have HM := Lib.hid hm
  have HA := Lib.hid hA
  have HB := Lib.hid hB
  have HK := Lib.hid hkb
  have HKn := Lib.hid hkn
  have HL := Lib.hid (⟨hn, hb1, hb2⟩ : rs.length ≤ 6 ∧ 1 ≤ b.length ∧ b.length ≤ 300)
  have HW := Lib.hid (⟨hw1, hw2, hby⟩ : 0 ≤ fw ∧ fw ≤ 3 ∧ 0 ≤ by')
  have x1 : ¬ (6 : Int) < n := by omega
  have x3 : ¬ (m : Int) < 1 := by omega
  have x4 : ¬ (300 : Int) < m := by omega
  have x5 : ¬ fw < 0 := by omega
  have x6 : ¬ 3 < fw := by omega
  have x7 : ¬ by' < 0 := by omega
  rw [← hnn, ← hm]
  clear hA hB hkb hn hb1 hb2 hw1 hw2 hby hnn hm hkn
  go_enter Try.func4, Try.ntmps4
  go_wp2_with fail
  refine (anchor_any w).mono ?_
  rintro e w1 ⟨rfl, hb1⟩
  have HB1 := Lib.hid hb1
  clear hb1
  go_wp2_with fail
  refine (new_ok w1 8192 (by omega) (by omega)).mono ?_
  rintro e w2 ⟨rfl, h2, hb2, hz2⟩
  obtain ⟨d, hd⟩ : ∃ d, d = w1.heap.size + 1 := ⟨_, rfl⟩
  obtain ⟨g0, hg0⟩ : ∃ g0, g0 = w1.heap.size := ⟨_, rfl⟩
  rw [← hg0, show g0 + 1 = d by omega] at h2
  have H2 := Lib.hid h2
  have HB2 := Lib.hid (HB1.out.trans (hb2.mono HB1.out.size))
  have HDG : Hid (w.heap.size ≤ d ∧ w.heap.size ≤ g0 ∧ d < w2.heap.size ∧ g0 < w2.heap.size) := Lib.hid (by have := HB1.out.size; omega)
  rw [← hd]
  clear h2 hb2 hz2 hd hg0
  go_wp2_with fail
  refine (open_new w2 d g0 8192 H2.out (by omega) (by omega)).mono ?_
  rintro e w3 ⟨lb, s, rfl, hlb, hb3, hset, hw3⟩
  have HLB : Hid (w.heap.size ≤ w2.heap.size ∧ w2.heap.size ≤ lb) := Lib.hid ⟨HB2.out.size, hlb⟩
  have HI : Hid (TInv w d g0 lb 8192 0 rs s _ ⟨8192 / 2, false, 0, 1, [], 16⟩ w3) := Lib.hid ⟨hw3, hset, rfl, Nat.le_refl _, fun j e => Nat.le_trans HB2.out.size e.1, HB2.out.trans (hb3.below HB2.out.size HDG.out.1 HDG.out.2.1)⟩
  clear hlb hb3 hset hw3 H2
  go_wp2
  go_loopw [62] (fun i wr => ∃ (k : Nat) (s : Dk) (S : Nat → Prop) (c : Lc), k ≤ n ∧ i = .int .i64 (k : Int) ∧ TInv w d g0 lb 8192 k rs s S c wr) (fun i _ => n - (intOf i).toNat)
  case atStart => exact ⟨0, s, _, _, Nat.zero_le _, rfl, HI.out⟩
  case round =>
    clear HI
    obtain ⟨k, s, S, c, hk, rfl, hinv⟩ := hrel
    have HI := Lib.hid hinv
    clear hinv
    by_cases hlt : k < n
    · obtain ⟨x, hx⟩ : ∃ x, rs[k]? = some x := ⟨_, List.getElem?_eq_getElem (by have := HN.out; omega)⟩
      obtain ⟨ad, Ax, cx, rfl, had, _, hcx, hxc, hrx⟩ := HA.out k x hx
      have h1 : wr.cell? (ad.add k) = some (.slice Ax x.length cx) := (HI.out.bel.cell (by rw [block_add]; exact had)).trans hcx
      have hrx2 := hrx.below HI.out.bel (fun k h => h)
      obtain ⟨l, hl⟩ : ∃ l, l = x.length := ⟨_, rfl⟩
      have HLx := Lib.hid hl
      rw [← hl] at h1
      have HX := Lib.hid hx
      have HXc := Lib.hid hxc
      have HRx := Lib.hid hrx2
      have hn6 := HL.out.1
      rw [← HN.out] at hn6
      clear hx had hcx hxc hrx hrx2 hl
      by_cases hbad : l < 1 ∨ 300 < l
      · have hb2 : (l : Int) < 1 ∨ (¬ (l : Int) < 1 ∧ (300 : Int) < l) := by omega
        clear hbad
        rcases hb2 with y1 | ⟨y1, y2⟩
        all_goals
          go_wp2
          go_ret
          exact ⟨rfl, HI.out.bel⟩
      · have y1 : ¬ (l : Int) < 1 := by omega
        have y2 : ¬ (300 : Int) < l := by omega
        have happ := append_calm wr d g0 lb S s c (2 + 2 * k) 8192 HI.out.well HI.out.set (by omega) (by omega) (· < w.heap.size) Ax cx x HRx.out (fun j hj => by
          have h1 := HDG.out
          have h2 := HLB.out
          have hj' : j < w.heap.size := hj
          exact ⟨by omega, by omega, by omega, fun e => by have := HI.out.own j e; omega⟩) HXc.out (by have := HLx.out; omega) (by have := HLx.out; omega) (by have := HLx.out; have := HI.out.q; have := HI.out.well.sz; omega)
        rw [← HLx.out] at happ
        have HApp := Lib.hid happ
        have HY : Hid (l ≤ 300) := Lib.hid (by omega)
        clear happ hbad
        go_wp2_with fail
        refine HApp.out.mono ?_
        rintro e w5 ⟨s5, S5, rfl, hk5, hS5, hset5, hw5⟩
        have HI5 : Hid (TInv w d g0 lb 8192 (k + 1) rs s5 S5 (c.plus x) w5) := Lib.hid ⟨by rw [show 2 + 2 * (k + 1) = 2 + 2 * k + 2 by omega]; exact hw5, hset5, by
            show c.rs ++ [x] = _
            rw [HI.out.rs, List.take_add_one, HX.out]; rfl, by
            show c.q + (9 + x.length) ≤ _
            have := HI.out.q; have := HLx.out; have := HY.out; omega, fun j e => by
            rcases hS5 j e with e | e
            · exact HI.out.own j e
            · have := HI.out.bel.size; omega, HI.out.bel.trans (hk5.below HI.out.bel.size (fun j e => by
            have h1 := HDG.out
            have h2 := HLB.out
            rcases e with e | e | e | e
            · omega
            · omega
            · omega
            · exact HI.out.own j e))⟩
        clear hk5 hS5 hset5 hw5 HApp
        go_wp2
        go_roundw
        case rel => exact ⟨k + 1, s5, S5, _, by omega, by go_num, HI5.out⟩
        case measure => simp [intOf]; omega
    · obtain rfl : k = n := by omega
      have HRs : Hid (c.rs = rs) := Lib.hid (by rw [HI.out.rs, HN.out, List.take_length])
      have hk6 := HL.out.1
      rw [← HN.out] at hk6
      have HK6 := Lib.hid hk6
      clear hk6 hlt hk
      have HLt := Lib.hid (light_log HI.out.well fw by' HW.out.1 (by have := HW.out.2.1; omega) HW.out.2.2)
      go_wp2_with fail
      refine HLt.out.mono ?_
      rintro e w4 ⟨rfl, hw4, hb4⟩
      have HW4 := Lib.hid hw4
      have HB4 : Hid (Below w.heap.size w w4) := Lib.hid (HI.out.bel.trans (hb4.below HI.out.bel.size HDG.out.1 HDG.out.2.1))
      clear hw4 hb4 HLt
      have hq6 : c.q ≤ 1870 := by have := HI.out.q; have := HK6.out; omega
      have happ := append_cut w4 d g0 lb S _ c _ 8192 HW4.out (by have := HK6.out; omega) (by omega) (· < w.heap.size) B kb b (HB.out.below HB4.out (fun k h => h)) (fun j hj => by
        have h1 := HDG.out
        have h2 := HLB.out
        have hj' : j < w.heap.size := hj
        exact ⟨by omega, by omega, by omega, fun e => by have := HI.out.own j e; omega⟩) HK.out HL.out.2.1 (by have := HL.out; omega) (by have := HL.out; have := HI.out.well.sz; omega)
      rw [← HM.out] at happ
      have HApp := Lib.hid happ
      clear happ hq6
      go_wp2_with fail
      refine HApp.out.mono ?_
      rintro e w5 ⟨s5, c5, hk5, hh5, ho5⟩
      have HH5 := Lib.hid hh5
      have HB5 : Hid (Below w.heap.size w w5) := Lib.hid (HB4.out.trans (hk5.below HB4.out.size (fun j e => by
        have h1 := HDG.out
        have h2 := HLB.out
        rcases e with e | e | e | e
        · omega
        · omega
        · omega
        · exact HI.out.own j e)))
      obtain ⟨f, rfl, HF⟩ : ∃ f : Int, e = .returned (.int .i64 f) ∧ Hid ((f = 0 ∧ c5.rs = rs ++ [b]) ∨ (f = 20 ∧ c5.rs = rs) ∨ (f = 20 ∧ c5.rs = rs ++ [b])) := by
        have hp : (c.plus b).rs = rs ++ [b] := by show c.rs ++ [b] = _; rw [HRs.out]
        rcases ho5 with ⟨e1, e2⟩ | ⟨e1, e2 | e2⟩
        · exact ⟨0, e1, Lib.hid (.inl ⟨rfl, by rw [e2, hp]⟩)⟩
        · exact ⟨20, e1, Lib.hid (.inr (.inl ⟨rfl, by rw [e2, HRs.out]⟩))⟩
        · exact ⟨20, e1, Lib.hid (.inr (.inr ⟨rfl, by rw [e2, hp]⟩))⟩
      clear hk5 hh5 ho5 HApp HW4
      have HSt := Lib.hid (start_log HH5.out)
      go_wp2_with fail
      refine HSt.out.mono ?_
      rintro e w6 ⟨rfl, hh6, hb6⟩
      have HH6 := Lib.hid hh6
      have HB6 : Hid (Below w.heap.size w w6) := Lib.hid (HB5.out.trans (hb6.below HB5.out.size HDG.out.1 HDG.out.2.1))
      clear hh6 hb6 HSt HH5
      have HOp := Lib.hid (open_calm w6 d g0 _ _ 8192 c5 HH6.out rfl rfl (by have := HK6.out; omega) (by omega))
      go_wp2_with fail
      refine HOp.out.mono ?_
      rintro e w7 ⟨lb7, s7, rfl, hlb7, hb7, hset7, hw7⟩
      have HW7 := Lib.hid hw7
      have HB7 : Hid (Below w.heap.size w w7) := Lib.hid (HB6.out.trans (hb7.below HB6.out.size HDG.out.1 HDG.out.2.1))
      have HLB7 : Hid (w.heap.size ≤ w6.heap.size ∧ w6.heap.size ≤ lb7 ∧ lb7 < w7.heap.size ∧ d < w6.heap.size ∧ g0 < w6.heap.size) := Lib.hid ⟨HB6.out.size, hlb7, hw7.sys.log.lt, HH6.out.dsk.blk.lt, HH6.out.dsk.row.lt⟩
      have HOp2 := Lib.hid (open_calm w7 d g0 s7 _ 8192 _ HW7.out.has HW7.out.up hset7 (by have := HK6.out; omega) (by omega))
      clear hlb7 hb7 hset7 hw7 HOp HH6
      go_wp2_with fail
      refine HOp2.out.mono ?_
      rintro e w8 ⟨lb8, s8, rfl, hlb8, hb8, hset8, hw8⟩
      have HW8 := Lib.hid hw8
      have HB8 : Hid (Below w.heap.size w w8) := Lib.hid (HB7.out.trans (hb8.below HB7.out.size HDG.out.1 HDG.out.2.1))
      have HM8 := Lib.hid (HW7.out.sys.disk hw8.sys.dsk hb8)
      have HLB8 : Hid (w7.heap.size ≤ lb8 ∧ lb8 < w8.heap.size) := Lib.hid ⟨hlb8, hw8.sys.log.lt⟩
      clear hlb8 hb8 hset8 hw8 HOp2
      obtain ⟨rm, hrm⟩ : ∃ rm, rm = c5.rs := ⟨_, rfl⟩
      have hcnt : rm.length ≤ 1000000 := by
        have h1 := HW7.out.wk.ch.count
        have h2 := HW7.out.wk.qsz
        have h3 := HW7.out.sz
        rw [hrm]
        show ({ c5 with was := false } : Lc).rs.length ≤ _
        omega
      have HCnt := Lib.hid hcnt
      rw [← hrm] at HF
      have hRm := fun W (hS : Sys W d g0 lb7 (fun k => w6.heap.size ≤ k ∧ k < lb7) s8 { c5 with was := false }) => records_any W d g0 lb7 _ s8 _ hS (by show c5.rs.length ≤ _; rw [← hrm]; exact hcnt)
      have HRm : Hid (∀ W, Sys W d g0 lb7 (fun k => w6.heap.size ≤ k ∧ k < lb7) s8 { c5 with was := false } → Calls Try.prog 14 #[.pointer (some ⟨lb7, 0, none⟩)] W fun e w' => ∃ r, e = .returned (.slice (some ⟨r, 0, none⟩) rm.length rm.length) ∧ RL w' (fun k => W.heap.size ≤ k) r rm ∧ Sys w' d g0 lb7 (fun k => w6.heap.size ≤ k ∧ k < lb7) s8 { c5 with was := false } ∧ Kp (fun k => k = lb7) W w') := Lib.hid (fun W hS => by
        refine (hRm W hS).mono ?_
        rintro e w' ⟨r, e1, e2, e3, e4⟩
        rw [seen_id rfl HW8.out.up] at e3
        rw [hrm]
        exact ⟨r, e1, e2, e3, e4⟩)
      have HRn : Hid (∀ W, Sys W d g0 lb8 (fun k => w7.heap.size ≤ k ∧ k < lb8) s8 { ({ c5 with was := false } : Lc) with was := false } → Calls Try.prog 14 #[.pointer (some ⟨lb8, 0, none⟩)] W fun e w' => ∃ r, e = .returned (.slice (some ⟨r, 0, none⟩) rm.length rm.length) ∧ RL w' (fun k => W.heap.size ≤ k) r rm ∧ Kp (fun k => k = lb8) W w') := Lib.hid (fun W hS => by
        refine (records_any W d g0 lb8 _ s8 _ hS (by show c5.rs.length ≤ _; rw [← hrm]; exact hcnt)).mono ?_
        rintro e w' ⟨r, e1, e2, e3, e4⟩
        rw [hrm]
        exact ⟨r, e1, e2, e4⟩)
      clear hRm hrm hcnt HW7
      go_wp2_with fail
      refine (HRm.out w8 HM8.out).mono ?_
      rintro e w9 ⟨r9, rfl, hr9, hs9, hk9⟩
      have HR9 := Lib.hid hr9
      have HM9 := Lib.hid hs9
      have HB9 : Hid (Below w.heap.size w w9) := Lib.hid (HB8.out.trans (hk9.below HB8.out.size (fun k e => by have := HLB7.out; omega)))
      have HN9 := Lib.hid (HW8.out.sys.keep (w' := w9) (fun k hk hl => hk9.block k hl (by
        have h1 := HLB7.out
        have h2 := HLB8.out
        rintro rfl
        rcases hk with e | e | e | e
        · omega
        · omega
        · omega
        · have := e.1; omega)) hk9.size)
      have HZ9 := Lib.hid hk9.size
      clear hr9 hs9 hk9 HM8 HW8
      go_wp2_with fail
      refine (HRn.out w9 HN9.out).mono ?_
      rintro e wa ⟨ra, rfl, hra, hka⟩
      have HRa := Lib.hid hra
      have HBa : Hid (Below w.heap.size w wa) := Lib.hid (HB9.out.trans (hka.below HB9.out.size (fun k e => by have := HLB7.out; have := HLB8.out; omega)))
      have HMa := Lib.hid (HM9.out.keep (w' := wa) (fun k hk hl => hka.block k hl (by
        have h1 := HLB7.out
        have h2 := HLB8.out
        rintro rfl
        rcases hk with e | e | e | e
        · omega
        · omega
        · omega
        · have := e.2; omega)) hka.size)
      have HR9a := Lib.hid ((RL.rdl HR9.out).keep (w' := wa) (fun k hk hl => hka.block k hl (by
        have h1 := HN9.out.log.lt
        rintro rfl
        have hk' : w8.heap.size ≤ k := hk
        have := HLB8.out
        omega)) hka.size)
      clear hra hka HN9 HM9
      have HSm := Lib.hid (same_any wa _ _ (some ⟨r9, 0, none⟩) (some ⟨ra, 0, none⟩) rm.length rm.length rm rm HR9a.out HRa.out.rdl HCnt.out)
      rw [show decide (rm = rm) = true by simp] at HSm
      go_wp2_with fail
      refine HSm.out.mono ?_
      rintro e wb ⟨rfl, hbb⟩
      have HBb := Lib.hid (HBa.out.trans (hbb.mono HBa.out.size))
      have HMb := Lib.hid (HMa.out.old hbb)
      clear hbb HSm HR9a HRa HMa
      have HO0 := Lib.hid (own_list wb w.heap.size)
      have HSrc : Hid (Srcs (wb.alloc (.cells #[] 33)) w.heap.size A rs) := Lib.hid (RdL.srcs (HA.out.keep (fun k hk hl => (HBb.out.alloc HBb.out.size _).block k hk) (by have := HBb.out.size; simp; omega)))
      have hbs := HBb.out.size
      go_wp2_with (first
        | (at_builtin; refine wpList_append_list rfl _ _ rfl w.heap.size wb.heap.size (.slice (some ⟨wb.heap.size, 0, none⟩) 0 0) [] rs rfl HO0.out A ka (show Value.slice A k ka = .slice A rs.length ka by rw [HN.out]) HKn.out HSrc.out hbs (by simp) (by have := HL.out.1; simp; omega) ?_; intro v1 wc HO1 HBc; obtain ⟨A1, c1, rfl⟩ := HO1.out.form; have hbc := HBc.out.size; simp at hbc; have HBc2 : Hid (Below w.heap.size w wc) := Lib.hid ((HBb.out.alloc hbs _).trans (HBc.out.mono hbs)); have HSrc2 := Lib.hid (srcs_one wc w.heap.size B m kb b HM.out HK.out (HB.out.below HBc2.out (fun k h => h)) _ rfl _ rfl); have HO1b := Lib.hid (HO1.out.old ((Below.refl wc.heap.size wc).alloc (Nat.le_refl _) (.cells #[.slice B m kb] 33))))
        | (at_builtin; refine wpList_append_list rfl _ _ rfl w.heap.size wb.heap.size _ ([] ++ rs) [b] rfl HO1b.out _ 1 rfl (fun h => by cases h) HSrc2.out hbs (by simp; omega) (by have := HL.out.1; simp; omega) ?_; intro v2 wd HO2 HBd; obtain ⟨A2, c2, rfl⟩ := HO2.out.form))
      rw [List.nil_append] at HO2
      have HO2' := Lib.hid (HO2.out.rdl rfl)
      have HBd2 : Hid (Below w.heap.size w wd) := Lib.hid ((HBc2.out.alloc HBc2.out.size _).trans (HBd.out.mono hbs))
      have HBbd : Hid (Below wb.heap.size wb wd) := Lib.hid ((((Below.refl wb.heap.size wb).alloc (Nat.le_refl _) (.cells #[] 33)).trans HBc.out).alloc (by omega) _ |>.trans HBd.out)
      have HMd := Lib.hid (HMb.out.old HBbd.out)
      have HZb : Hid (lb7 < wb.heap.size) := Lib.hid HMb.out.log.lt
      clear HO0 HSrc HSrc2 HO1 HO1b HBc HBc2 HBd HBbd HMb
      refine (HRm.out wd HMd.out).mono ?_
      rintro e we ⟨re, rfl, hre, hse, hke⟩
      have HRe := Lib.hid (RL.rdl hre)
      have HBe : Hid (Below w.heap.size w we) := Lib.hid (HBd2.out.trans (hke.below HBd2.out.size (fun k e => by have := HLB7.out; omega)))
      have HAll := Lib.hid (HO2'.out.keep (w' := we) (fun k hk hl => hke.block k hl (by
        have h1 := HLB7.out
        have h2 := HZb.out
        rintro rfl
        rcases hk with e | e
        · omega
        · omega)) hke.size)
      clear hre hse hke HO2' HMd
      have hsA := same_any we _ _ (some ⟨re, 0, none⟩) A2 rm.length c2 rm (rs ++ [b]) HRe.out HAll.out HCnt.out
      rw [List.length_append, List.length_singleton] at hsA
      have HSA := Lib.hid hsA
      have HSR := Lib.hid (fun W (hb : Below we.heap.size we W) => same_any W _ _ (some ⟨re, 0, none⟩) A rm.length ka rm rs (HRe.out.old hb) (HA.out.keep (fun k hk hl => (HBe.out.trans (hb.mono HBe.out.size)).block k hk) (HBe.out.trans (hb.mono HBe.out.size)).size) HCnt.out)
      rw [← HN.out] at HSR
      clear hsA
      rcases HF.out with ⟨rfl, he⟩ | ⟨rfl, he⟩ | ⟨rfl, he⟩
      · rw [show decide (rm = rs ++ [b]) = true by rw [he]; simp] at HSA
        clear he
        go_wp2_with fail
        refine HSA.out.mono ?_
        rintro e wf ⟨rfl, hbf⟩
        have HBf := Lib.hid (HBe.out.trans (hbf.mono HBe.out.size))
        clear hbf
        go_wp2
        go_ret
        exact ⟨rfl, HBf.out⟩
      · rw [show decide (rm = rs ++ [b]) = false by rw [he]; simp] at HSA
        rw [show decide (rm = rs) = true by rw [he]; simp] at HSR
        clear he
        go_wp2_with fail
        refine HSA.out.mono ?_
        rintro e wf ⟨rfl, hbf⟩
        have HBf := Lib.hid (HBe.out.trans (hbf.mono HBe.out.size))
        have HS2 := Lib.hid (HSR.out wf hbf)
        clear hbf
        go_wp2_with fail
        refine HS2.out.mono ?_
        rintro e wg ⟨rfl, hbg⟩
        have HBg := Lib.hid (HBf.out.trans (hbg.mono HBf.out.size))
        clear hbg
        go_wp2
        go_ret
        exact ⟨rfl, HBg.out⟩
      · rw [show decide (rm = rs ++ [b]) = true by rw [he]; simp] at HSA
        clear he
        go_wp2_with fail
        refine HSA.out.mono ?_
        rintro e wf ⟨rfl, hbf⟩
        have HBf := Lib.hid (HBe.out.trans (hbf.mono HBe.out.size))
        clear hbf
        go_wp2
        go_ret
        exact ⟨rfl, HBf.out⟩
theorem torn_any (w : World) (A B : Option Addr) (ka kb : Nat) (rs : List (List UInt8)) (b : List UInt8) (fw by' : Int) (hA : RdL w (· < w.heap.size) A rs) (hB : Rd w (· < w.heap.size) B b) (hkb : b.length ≤ kb) (hkn : A = none → ka = 0) :
    Calls Try.prog 4 #[.slice A rs.length ka, .slice B b.length kb, .int .i64 fw, .int .i64 by'] w fun e w' => e = .returned (.bool true) ∧ Below w.heap.size w w' := by
  by_cases h : 6 < rs.length ∨ b.length < 1 ∨ 300 < b.length ∨ fw < 0 ∨ 3 < fw ∨ by' < 0
  · exact torn_none w A B _ _ ka kb fw by' h
  · exact torn_ok w A B ka kb rs b fw by' hA hB hkb hkn (by omega) (by omega) (by omega) (by omega) (by omega) (by omega)
end Go.Proofs.Ytffbkkdnklhfmaa.Dsk
