/-
  The walk of the statement WalForged: whatever the payloads and the fuse it returns true, and nothing that was there before has changed.
-/
import Derived.Test.YtffbkkdnklhfmaaL2
import Derived.Deep.QuietTactic
import Derived.BigQuiet
namespace Go.Proofs.Ytffbkkdnklhfmaa.Dsk
open Go.RowKit
set_option maxRecDepth 100000 in
set_option maxHeartbeats 4000000 in
theorem forged_none (w : World) (A B : Option Addr) (n m ka kb : Nat) (wr by' : Int) (h : n < 1 ∨ 600 < n ∨ m < 1 ∨ 600 < m ∨ wr < 0 ∨ 2 < wr ∨ by' < 0) :
    Calls Try.prog 6 #[.slice A n ka, .int .i64 wr, .int .i64 by', .slice B m kb] w fun e w' => e = .returned (.bool true) ∧ Below w.heap.size w w' := by
  have hx : (n : Int) < 1 ∨ (¬ (n : Int) < 1 ∧ (600 : Int) < n) ∨ (¬ (n : Int) < 1 ∧ ¬ (600 : Int) < n ∧ (m : Int) < 1) ∨ (¬ (n : Int) < 1 ∧ ¬ (600 : Int) < n ∧ ¬ (m : Int) < 1 ∧ (600 : Int) < m) ∨ (¬ (n : Int) < 1 ∧ ¬ (600 : Int) < n ∧ ¬ (m : Int) < 1 ∧ ¬ (600 : Int) < m ∧ wr < 0) ∨ (¬ (n : Int) < 1 ∧ ¬ (600 : Int) < n ∧ ¬ (m : Int) < 1 ∧ ¬ (600 : Int) < m ∧ ¬ wr < 0 ∧ 2 < wr) ∨ (¬ (n : Int) < 1 ∧ ¬ (600 : Int) < n ∧ ¬ (m : Int) < 1 ∧ ¬ (600 : Int) < m ∧ ¬ wr < 0 ∧ ¬ 2 < wr ∧ by' < 0) := by omega
  clear h
  rcases hx with h1 | ⟨h1, h2⟩ | ⟨h1, h2, h3⟩ | ⟨h1, h2, h3, h4⟩ | ⟨h1, h2, h3, h4, h5⟩ | ⟨h1, h2, h3, h4, h5, h6⟩ | ⟨h1, h2, h3, h4, h5, h6, h7⟩
  all_goals
    go_enter Try.func6, Try.ntmps6
    go_wp2_with fail
    refine (anchor_any w).mono ?_
    rintro e w1 ⟨rfl, hb1⟩
    have HB1 := Lib.hid hb1
    clear hb1
    go_wp2
    go_ret
    exact ⟨rfl, HB1.out⟩
set_option maxRecDepth 100000
set_option maxHeartbeats 8000000 in
theorem forged_ok (w : World) (A B : Option Addr) (ka kb : Nat) (a b : List UInt8) (wr by' : Int) (hA : Rd w (· < w.heap.size) A a) (hB : Rd w (· < w.heap.size) B b) (hka : a.length ≤ ka) (hkb : b.length ≤ kb) (ha1 : 1 ≤ a.length) (ha2 : a.length ≤ 600) (hb1 : 1 ≤ b.length) (hb2 : b.length ≤ 600) (hw1 : 0 ≤ wr) (hw2 : wr ≤ 2) (hby : 0 ≤ by') :
    Calls Try.prog 6 #[.slice A a.length ka, .int .i64 wr, .int .i64 by', .slice B b.length kb] w fun e w' => e = .returned (.bool true) ∧ Below w.heap.size w w' := by
  obtain ⟨n, hn⟩ : ∃ n, n = a.length := ⟨_, rfl⟩
  obtain ⟨m, hm⟩ : ∃ m, m = b.length := ⟨_, rfl⟩
  have HN := Lib.hid hn
  have HM := Lib.hid hm
  have HA := Lib.hid hA
  have HB := Lib.hid hB
  have HK := Lib.hid (⟨hka, hkb⟩ : a.length ≤ ka ∧ b.length ≤ kb)
  have HL := Lib.hid (⟨ha1, ha2, hb1, hb2⟩ : 1 ≤ a.length ∧ a.length ≤ 600 ∧ 1 ≤ b.length ∧ b.length ≤ 600)
  have HW := Lib.hid (⟨hw1, hw2, hby⟩ : 0 ≤ wr ∧ wr ≤ 2 ∧ 0 ≤ by')
  have x1 : ¬ (n : Int) < 1 := by omega
  have x2 : ¬ (600 : Int) < n := by omega
  have x3 : ¬ (m : Int) < 1 := by omega
  have x4 : ¬ (600 : Int) < m := by omega
  have x5 : ¬ wr < 0 := by omega
  have x6 : ¬ 2 < wr := by omega
  have x7 : ¬ by' < 0 := by omega
  rw [← hn, ← hm]
  clear hA hB hka hkb ha1 ha2 hb1 hb2 hw1 hw2 hby hn hm
  go_enter Try.func6, Try.ntmps6
  go_wp2_with fail
  refine (anchor_any w).mono ?_
  rintro e w1 ⟨rfl, hb1⟩
  have HB1 := Lib.hid hb1
  clear hb1
  go_wp2_with fail
  refine (new_ok w1 4096 (by omega) (by omega)).mono ?_
  rintro e w2 ⟨rfl, h2, hb2, hz2⟩
  obtain ⟨d, hd⟩ : ∃ d, d = w1.heap.size + 1 := ⟨_, rfl⟩
  obtain ⟨g0, hg0⟩ : ∃ g0, g0 = w1.heap.size := ⟨_, rfl⟩
  rw [← hg0, show g0 + 1 = d by omega] at h2
  have H2 := Lib.hid h2
  have HB2 := Lib.hid (HB1.out.trans (hb2.mono HB1.out.size))
  have HDG : Hid (w.heap.size ≤ d ∧ w.heap.size ≤ g0 ∧ d < w2.heap.size ∧ g0 < w2.heap.size) := Lib.hid (by have := HB1.out.size; omega)
  rw [← hd]
  clear h2 hb2 hz2 hd hg0
  go_wp2_with fail
  refine (open_new w2 d g0 4096 H2.out (by omega) (by omega)).mono ?_
  rintro e w3 ⟨lb, s, rfl, hlb, hb3, hset, hw3⟩
  have HW3 := Lib.hid hw3
  have HB3 : Hid (Below w.heap.size w w3) := Lib.hid (HB2.out.trans (hb3.below HB2.out.size HDG.out.1 HDG.out.2.1))
  have HLB : Hid (w.heap.size ≤ w2.heap.size ∧ w2.heap.size ≤ lb) := Lib.hid ⟨HB2.out.size, hlb⟩
  clear hlb hb3 hset hw3 H2
  have HLt := Lib.hid (light_log HW3.out wr by' HW.out.1 (by have := HW.out.2.1; omega) HW.out.2.2)
  go_wp2_with fail
  refine HLt.out.mono ?_
  rintro e w4 ⟨rfl, hw4, hb4⟩
  have HW4 := Lib.hid hw4
  have HB4 : Hid (Below w.heap.size w w4) := Lib.hid (HB3.out.trans (hb4.below HB3.out.size HDG.out.1 HDG.out.2.1))
  clear hw4 hb4 HLt HW3
  have happ := append_cut w4 d g0 lb _ _ _ 2 4096 HW4.out (by omega) (by omega) (· < w.heap.size) A ka a (HA.out.below HB4.out (fun k h => h)) (fun k hk => by
    have h1 := HDG.out
    have h2 := HLB.out
    have hk' : k < w.heap.size := hk
    exact ⟨by omega, by omega, by omega, fun e => by have := e.1; omega⟩) HK.out.1 HL.out.1 (by have := HL.out; omega) (by have := HL.out; show 16 + (9 + a.length) ≤ 4096 / 2; omega)
  rw [← HN.out] at happ
  have HApp := Lib.hid happ
  clear happ
  go_wp2_with fail
  refine HApp.out.mono ?_
  rintro e w5 ⟨s5, c5, hk5, hh5, ho5⟩
  have HH5 := Lib.hid hh5
  have HB5 : Hid (Below w.heap.size w w5) := Lib.hid (HB4.out.trans (hk5.below HB4.out.size (fun k e => by
    have h1 := HDG.out
    have h2 := HLB.out
    rcases e with e | e | e | e
    · omega
    · omega
    · omega
    · have := e.1; omega)))
  obtain ⟨f, rfl, HF⟩ : ∃ f : Int, e = .returned (.int .i64 f) ∧ Hid ((f = 0 ∧ c5 = (⟨4096 / 2, false, 0, 1, [], 16⟩ : Lc).plus a) ∨ (f = 20 ∧ (c5 = (⟨4096 / 2, false, 0, 1, [], 16⟩ : Lc) ∨ c5 = (⟨4096 / 2, false, 0, 1, [], 16⟩ : Lc).plus a))) := by
    rcases ho5 with ⟨e1, e2⟩ | ⟨e1, e2⟩
    · exact ⟨0, e1, Lib.hid (.inl ⟨rfl, e2⟩)⟩
    · exact ⟨20, e1, Lib.hid (.inr ⟨rfl, e2⟩)⟩
  clear hk5 hh5 ho5 HApp HW4
  have HSt := Lib.hid (start_log HH5.out)
  go_wp2_with fail
  refine HSt.out.mono ?_
  rintro e w6 ⟨rfl, hh6, hb6⟩
  have HH6 := Lib.hid hh6
  have HB6 : Hid (Below w.heap.size w w6) := Lib.hid (HB5.out.trans (hb6.below HB5.out.size HDG.out.1 HDG.out.2.1))
  clear hh6 hb6 HSt HH5
  have HOp := Lib.hid (open_calm w6 d g0 _ _ 4096 c5 HH6.out rfl rfl (by omega) (by omega))
  go_wp2_with fail
  refine HOp.out.mono ?_
  rintro e w7 ⟨lb7, s7, rfl, hlb7, hb7, hset7, hw7⟩
  have HW7 := Lib.hid hw7
  have HB7 : Hid (Below w.heap.size w w7) := Lib.hid (HB6.out.trans (hb7.below HB6.out.size HDG.out.1 HDG.out.2.1))
  have HLB7 : Hid (w.heap.size ≤ w6.heap.size ∧ w6.heap.size ≤ lb7) := Lib.hid ⟨HB6.out.size, hlb7⟩
  have HSET7 := Lib.hid hset7
  clear hlb7 hb7 hset7 hw7 HOp HH6
  have hq5 : c5.q ≤ 16 + (9 + a.length) ∧ c5.sz = 2048 := by
    rcases HF.out with ⟨_, e⟩ | ⟨_, e | e⟩ <;> rw [e] <;> exact ⟨by simp [Lc.plus], rfl⟩
  have happ := append_calm w7 d g0 lb7 _ s7 _ _ 4096 HW7.out HSET7.out (by omega) (by omega) (· < w.heap.size) B kb b (HB.out.below HB7.out (fun k h => h)) (fun k hk => by
    have h1 := HDG.out
    have h2 := HLB7.out
    have hk' : k < w.heap.size := hk
    exact ⟨by omega, by omega, by omega, fun e => by have := e.1; omega⟩) HK.out.2 HL.out.2.2.1 (by have := HL.out; omega) (by have := HL.out; show c5.q + (9 + b.length) ≤ c5.sz; omega)
  rw [← HM.out] at happ
  have HApp := Lib.hid happ
  clear happ hq5
  go_wp2_with fail
  refine HApp.out.mono ?_
  rintro e w8 ⟨s8, S8, rfl, hk8, hS8, hset8, hw8⟩
  have HW8 := Lib.hid hw8
  have HB8 : Hid (Below w.heap.size w w8) := Lib.hid (HB7.out.trans (hk8.below HB7.out.size (fun k e => by
    have h1 := HDG.out
    have h2 := HLB7.out
    rcases e with e | e | e | e
    · omega
    · omega
    · omega
    · have := e.1; omega)))
  clear hk8 hS8 hset8 hw8 HApp HW7
  obtain ⟨c8, hc8⟩ : ∃ c8 : Lc, c8 = ({ c5 with was := false } : Lc).plus b := ⟨_, rfl⟩
  rw [← hc8] at HW8
  have hways : (c8.rs = [b] ∧ f = 20) ∨ (c8.rs = [a, b] ∧ (f = 0 ∨ f = 20)) := by
    rw [hc8]
    rcases HF.out with ⟨h1, e⟩ | ⟨h1, e | e⟩
    · rw [e]; exact .inr ⟨rfl, .inl h1⟩
    · rw [e]; exact .inl ⟨rfl, h1⟩
    · rw [e]; exact .inr ⟨rfl, .inr h1⟩
  have HWays := Lib.hid hways
  clear hc8 hways HF
  have HRec := Lib.hid (records_log HW8.out (by omega))
  go_wp2_with fail
  refine HRec.out.mono ?_
  rintro e w9 ⟨r, rfl, hr9, hw9, hk9⟩
  have HR9 := Lib.hid hr9
  have HB9 : Hid (Below w.heap.size w w9) := Lib.hid (HB8.out.trans (hk9.below HB8.out.size (fun k e => by have := HLB7.out; omega)))
  have HSto := Lib.hid (stored_any w9 d g0 _ _ 4096 c8 hw9.has (by omega))
  clear hr9 hw9 hk9 HRec HW8
  go_wp2_with fail
  refine HSto.out.mono ?_
  rintro e wx ⟨Ax, cx, rfl, hrx, hbx⟩
  have HBX : Hid (Below w.heap.size w wx) := Lib.hid (HB9.out.trans (hbx.mono HB9.out.size))
  have HRX := Lib.hid hrx
  have HRLx : Hid (RL wx (fun k => w8.heap.size ≤ k) r c8.rs) := Lib.hid (by
    obtain ⟨q1, q2, q3⟩ := HR9.out
    refine ⟨q1, Nat.lt_of_lt_of_le q2 hbx.size, fun i x hi => ?_⟩
    obtain ⟨p, c, e1, e2, e3, e4, e5, e6, e7⟩ := q3 i x hi
    exact ⟨p, c, (hbx.cell q2).trans e1, e2, e3, e4, e5.old hbx, fun j => fz_old (e6 j) hbx (rd_lt e5 e7), e7⟩)
  have hsame := fun j => same_q (wx.drewN j) _ _ (some ⟨r, 0, none⟩) Ax c8.rs.length cx c8.rs c8.rs (RdL.old (HRLx.out.rdl) (below_drewN (Below.refl _ _) j)) (RdL.old (HRX.out.rdl) (below_drewN (Below.refl _ _) j)) (by rcases HWays.out with ⟨e, _⟩ | ⟨e, _⟩ <;> rw [e] <;> simp)
  simp only [decide_true] at hsame
  have cvb := fun j => conv_rd (w := wx.drewN j) m kb (HB.out.below (below_drewN HBX.out j) (fun k h => h)) HM.out
  have cva := fun j => conv_rd (w := wx.drewN j) n ka (HA.out.below (below_drewN HBX.out j) (fun k h => h)) HN.out
  clear hrx hbx HSto
  have hmt := mk_toList
  rcases HWays.out with ⟨hrs, hf⟩ | ⟨hrs, hf⟩
  · rw [hrs] at hsame HRLx ⊢
    subst hf
    obtain ⟨p0, k0, hc0, _, _, _, hr0, _⟩ := HRLx.out.2.2 0 b rfl
    rw [← HM.out] at hc0
    have cv0 := fun j => conv_rd (w := wx.drewN j) m k0 (hr0.old (below_drewN (Below.refl _ _) j)) HM.out
    have HSm : Hid (∀ j, Calls Try.prog 15 #[.slice (some ⟨r, 0, none⟩) 1 1, .slice Ax 1 cx] (wx.drewN j) fun e w' => e = .returned (.bool true) ∧ ∃ m, w' = (wx.drewN j).drewN m) := Lib.hid hsame
    clear hsame hr0 hrs
    rw [show ([b] : List (List UInt8)).length = 1 from rfl]
    go_wp2
    go_quiet ((go_at_call 15; with_reducible exact Calls.quiet_of (HSm.out _)))
    go_wp2
    go_quiet (fail)
    go_wp2
    go_ret
    exact ⟨rfl, below_drewN (below_drewN HBX.out _) _⟩
  · rw [hrs] at hsame HRLx ⊢
    obtain ⟨p0, k0, hc0, _, _, _, hr0, _⟩ := HRLx.out.2.2 0 a rfl
    obtain ⟨p1, k1, hc1, _, _, _, hr1, _⟩ := HRLx.out.2.2 1 b rfl
    rw [← HN.out] at hc0
    rw [← HM.out] at hc1
    have cv0 := fun j => conv_rd (w := wx.drewN j) n k0 (hr0.old (below_drewN (Below.refl _ _) j)) HN.out
    have cv1 := fun j => conv_rd (w := wx.drewN j) m k1 (hr1.old (below_drewN (Below.refl _ _) j)) HM.out
    have HSm : Hid (∀ j, Calls Try.prog 15 #[.slice (some ⟨r, 0, none⟩) 2 2, .slice Ax 2 cx] (wx.drewN j) fun e w' => e = .returned (.bool true) ∧ ∃ m, w' = (wx.drewN j).drewN m) := Lib.hid hsame
    clear hsame hr0 hr1 hrs hf
    rw [show ([a, b] : List (List UInt8)).length = 2 from rfl]
    go_wp2
    go_quiet ((go_at_call 15; with_reducible exact Calls.quiet_of (HSm.out _)))
    go_wp2
    go_quiet (fail)
    go_wp2
    go_ret
    exact ⟨rfl, below_drewN (below_drewN HBX.out _) _⟩
theorem forged_any (w : World) (A B : Option Addr) (ka kb : Nat) (a b : List UInt8) (wr by' : Int) (hA : Rd w (· < w.heap.size) A a) (hB : Rd w (· < w.heap.size) B b) (hka : a.length ≤ ka) (hkb : b.length ≤ kb) :
    Calls Try.prog 6 #[.slice A a.length ka, .int .i64 wr, .int .i64 by', .slice B b.length kb] w fun e w' => e = .returned (.bool true) ∧ Below w.heap.size w w' := by
  by_cases h : a.length < 1 ∨ 600 < a.length ∨ b.length < 1 ∨ 600 < b.length ∨ wr < 0 ∨ 2 < wr ∨ by' < 0
  · exact forged_none w A B _ _ ka kb wr by' h
  · exact forged_ok w A B ka kb a b wr by' hA hB hka hkb (by omega) (by omega) (by omega) (by omega) (by omega) (by omega) (by omega)
end Go.Proofs.Ytffbkkdnklhfmaa.Dsk
