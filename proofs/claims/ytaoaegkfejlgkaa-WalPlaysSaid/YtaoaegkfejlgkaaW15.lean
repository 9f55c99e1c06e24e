/-
  The contract of Append of package wal.
-/
import Derived.Test.YtaoaegkfejlgkaaW14
import Derived.Deep.RegionLaw
namespace Go.Proofs.Ytaoaegkfejlgkaa.Dsk
open Go.RowKit
theorem seen_id {c : Lc} {s : Dk} (h1 : c.was = false) (h2 : s.down = false) : c.seen s = c := by
  unfold Lc.seen; rw [h1, h2]; cases c; simp at h1; subst h1; rfl
/-- Behind a call of the log. -/
structure Aft (w : World) (d g0 lb : Nat) (S : Nat → Prop) (s' : Dk) (c' : Lc) (w' : World) : Prop where
  ex : ∃ S', Sys w' d g0 lb S' s' c' ∧ ∀ k, S' k → S k ∨ (w.heap.size ≤ k ∧ k < w'.heap.size)
  kp : Kp (fun k => k = d ∨ k = g0 ∨ k = lb ∨ S k) w w'
theorem append_down (w : World) (d g0 lb : Nat) (S : Nat → Prop) (s : Dk) (c : Lc) (h : Sys w d g0 lb S s c) (hd : (c.was || s.down) = true) (v : Value) :
    Calls Try.prog 19 #[.pointer (some ⟨lb, 0, none⟩), v] w fun e w' => e = .returned (.int .i64 20) ∧ Aft w d g0 lb S s (c.seen s) w' := by
  have HW := Lib.hid (watch_any w d g0 lb S s c h)
  rw [hd] at HW
  clear h hd
  go_enter Try.func19, Try.ntmps19
  go_wp2_with fail
  refine HW.out.mono ?_
  rintro e w1 ⟨rfl, h1, hk1, hz1⟩
  have H1 := Lib.hid h1
  have HK := Lib.hid hk1
  clear h1 hk1 hz1
  go_wp2
  go_ret
  exact ⟨rfl, ⟨S, H1.out, fun k hk => .inl hk⟩, HK.out.mono (fun k _ e => .inr (.inr (.inl e)))⟩
theorem append_size (w : World) (d g0 lb : Nat) (S : Nat → Prop) (s : Dk) (c : Lc) (h : Sys w d g0 lb S s c) (hd : c.was = false) (hd2 : s.down = false) (A : Option Addr) (n k : Nat) (hn : n < 1 ∨ 65536 < n) :
    Calls Try.prog 19 #[.pointer (some ⟨lb, 0, none⟩), .slice A n k] w fun e w' => e = .returned (.int .i64 11) ∧ Aft w d g0 lb S s c w' := by
  have HW := Lib.hid (watch_any w d g0 lb S s c h)
  rw [hd, hd2, seen_id hd hd2] at HW
  have HC := Lib.hid (fun W => cost_bad W n hn)
  clear h hd hd2 hn
  go_enter Try.func19, Try.ntmps19
  go_wp2_with fail
  refine HW.out.mono ?_
  rintro e w1 ⟨rfl, h1, hk1, hz1⟩
  have H1 := Lib.hid h1
  have HK := Lib.hid hk1
  clear h1 hk1 hz1
  go_wp2_with fail
  refine (HC.out w1).mono ?_
  rintro e w2 ⟨rfl, rfl⟩
  go_wp2
  go_ret
  exact ⟨rfl, ⟨S, H1.out, fun k hk => .inl hk⟩, HK.out.mono (fun k _ e => .inr (.inr (.inl e)))⟩
theorem append_space (w : World) (d g0 lb : Nat) (S : Nat → Prop) (s : Dk) (c : Lc) (h : Sys w d g0 lb S s c) (hd : c.was = false) (hd2 : s.down = false) (A : Option Addr) (n k : Nat) (h1 : 1 ≤ n) (h2 : n ≤ 65536) (hq : c.q ≤ c.sz) (hz : c.sz ≤ 1000000) (hs : c.sz < c.q + (9 + n)) :
    Calls Try.prog 19 #[.pointer (some ⟨lb, 0, none⟩), .slice A n k] w fun e w' => e = .returned (.int .i64 21) ∧ Aft w d g0 lb S s c w' := by
  have HW := Lib.hid (watch_any w d g0 lb S s c h)
  rw [hd, hd2, seen_id hd hd2] at HW
  have HR := Lib.hid (fun W hW => room_any W d g0 lb S s c hW hq hz)
  rw [seen_id hd hd2] at HR
  have HC := Lib.hid (fun W => cost_ok W n h1 h2)
  obtain ⟨t, ht⟩ : ∃ t, t = 9 + n := ⟨_, rfl⟩
  obtain ⟨r, hr⟩ : ∃ r, r = c.sz - c.q := ⟨_, rfl⟩
  rw [← ht] at HC
  rw [← hr] at HR
  have t0 : ((t : Int) == 0) = false := by simp; omega
  have t1 : (r : Int) < (t : Int) := by omega
  clear h hd hd2 h1 h2 ht hr hs hq hz
  go_enter Try.func19, Try.ntmps19
  go_wp2_with fail
  refine HW.out.mono ?_
  rintro e w1 ⟨rfl, h1, hk1, hz1⟩
  have H1 := Lib.hid h1
  have HK := Lib.hid hk1
  clear h1 hk1 hz1
  go_wp2_with fail
  refine (HC.out w1).mono ?_
  rintro e w2 ⟨rfl, rfl⟩
  go_wp2_with fail
  refine (HR.out w1 H1.out).mono ?_
  rintro e w2 ⟨rfl, h2, hk2⟩
  have H2 := Lib.hid h2
  have HK2 := Lib.hid (HK.out.trans hk2 (fun _ _ h => h))
  clear h2 hk2
  go_wp2
  go_ret
  exact ⟨rfl, ⟨S, H2.out, fun k hk => .inl hk⟩, HK2.out.mono (fun k _ e => .inr (.inr (.inl e)))⟩
theorem app_rd (w : World) (B a q4 q1 t : Nat) (r : List UInt8) (h4 : Blk w q4 5 (bc r)) (h1 : Blk w q1 5 (bc [1])) (hq4 : B ≤ q4) (hq1 : B ≤ q1) (hB : B ≤ w.heap.size) (ht : r.length = t) (C : Array Value) (hC : C = #[.int .i64 (a : Int), .slice (some ⟨q4, 0, none⟩) t t, .int .i64 ((a : Int) + 8), .slice (some ⟨q1, 0, none⟩) 1 1]) (p : Nat) (hp : p = w.heap.size) :
    RdWs (w.alloc (.cells C 71)) (fun k => B ≤ k) (some ⟨p, 0, none⟩) [(a, r), (a + 8, [1])] := by
  subst hC ht hp
  have := (WRow.new w (fun k => B ≤ k) [(a, .slice (some ⟨q4, 0, none⟩) r.length r.length), (a + 8, .slice (some ⟨q1, 0, none⟩) 1 1)] [(a, r), (a + 8, [1])] #[.int .i64 (a : Int), .slice (some ⟨q4, 0, none⟩) r.length r.length, .int .i64 ((a : Int) + 8), .slice (some ⟨q1, 0, none⟩) 1 1] (by simp [wsCells]) rfl (by simp) hB (fun i x b hi => by
    rcases i with _ | _ | i
    · simp at hi
      obtain ⟨rfl, rfl⟩ := hi
      exact ⟨_, rfl, some ⟨q4, 0, none⟩, _, rfl, Nat.le_refl _, (Rd.of_blk h4).more (fun k hk => by have : k = q4 := hk; omega)⟩
    · simp at hi
      obtain ⟨rfl, rfl⟩ := hi
      exact ⟨_, rfl, some ⟨q1, 0, none⟩, 1, rfl, Nat.le_refl _, (Rd.of_blk h1).more (fun k hk => by have : k = q1 := hk; omega)⟩
    · simp at hi) 2 rfl).rd
  obtain ⟨A, c, e, hr⟩ := this
  injection e with e _ _
  rw [e]
  exact hr
/-- The writes of an append. -/
def appWs (c : Lc) (b : List UInt8) : List Wr := [(c.st + c.q, recB c.g c.q b 0), (c.st + c.q + 8, [1])]
def Lc.plus (c : Lc) (b : List UInt8) : Lc := { c with rs := c.rs ++ [b], q := c.q + (9 + b.length) }
/-- A log's records with a copy that is added: what add is asked. -/
theorem add_sys {w6 w7 : World} {d g0 lb : Nat} {S : Nat → Prop} {s : Dk} {c : Lc} (h : Sys w6 d g0 lb S s c) (hb : Below w6.heap.size w6 w7) (q7 c7 : Nat) (b : List UInt8) (h1 : 1 ≤ b.length) (h2 : b.length ≤ 65536) (hc : b.length ≤ c7) (hq : w6.heap.size ≤ q7) (hR : Rd w7 (· = q7) (some ⟨q7, 0, none⟩) b) (hz : c.q ≤ 1000000) (hrs : c.rs.length ≤ 1000000) :
    Calls Try.prog 33 #[.pointer (some ⟨lb, 3, none⟩), .slice (some ⟨q7, 0, none⟩) b.length c7] w7 fun en w8 => en = .returned (.tuple #[]) ∧
      (∃ S', Sys w8 d g0 lb S' s (c.plus b) ∧ ∀ k, S' k → S k ∨ (w6.heap.size ≤ k ∧ k < w8.heap.size)) ∧ Kp (fun k => k = lb ∨ S k) w6 w8 := by
  obtain ⟨A, k, hbl, hr⟩ := h.log.ex
  have hlb := hbl.lt
  have hq7 : q7 < w7.heap.size := rd_lt hR h1
  have hr7 : Recs w7 (fun i => S i ∨ (w6.heap.size ≤ i ∧ i < w7.heap.size)) (.slice A c.rs.length k) c.rs := (hr.old hb).more (fun i hi => .inl hi)
  have hrow : ∀ i, (Value.slice A c.rs.length k).ownBlock = some i → i < w6.heap.size ∧ S i := fun i e => by
    obtain ⟨xs, h5, _⟩ := hr.ex
    exact ⟨(h5.lt i e).2, hr.own i e⟩
  have hpay : PayAt w7 (fun i => S i ∨ (w6.heap.size ≤ i ∧ i < w7.heap.size)) (Value.slice A c.rs.length k).ownBlock (.slice (some ⟨q7, 0, none⟩) b.length c7) b := ⟨q7, c7, rfl, h1, h2, hc, .inr ⟨hq, hq7⟩, fun e => by have := (hrow _ e).1; omega, hR⟩
  refine (add_any w7 (fun i => S i ∨ (w6.heap.size ≤ i ∧ i < w7.heap.size)) lb 3 65 _ (.slice A c.rs.length k) c.rs c.q q7 c7 b (hbl.below hb hlb) rfl rfl hr7 (by rintro (e | e); exact h.log.nlb e; omega) hpay (by omega) hrs).mono ?_
  rintro en w8 ⟨rfl, rv8, hr8, hk8, hkp8⟩
  obtain ⟨A8, k8, rfl⟩ := hr8.form
  rw [List.length_append, List.length_singleton] at hr8 hk8
  have hkp : Kp (fun i => i = lb ∨ S i) w6 w8 := (Kp.old (S := fun i => i = lb ∨ S i) hb).trans hkp8 (fun i hi e => by rcases e with e | e; exact .inl e; exact .inr (hrow i e).2)
  have hS : ∀ i, (S i ∨ (w6.heap.size ≤ i ∧ i < w7.heap.size)) ∨ (w7.heap.size ≤ i ∧ i < w8.heap.size) → S i ∨ (w6.heap.size ≤ i ∧ i < w8.heap.size) := fun i hi => by
    have h8 := hkp8.size
    have h9 := hb.size
    rcases hi with (hi | hi) | hi
    · exact .inl hi
    · exact .inr ⟨hi.1, by omega⟩
    · exact .inr ⟨by omega, hi.2⟩
  refine ⟨rfl, ⟨fun i => S i ∨ (w6.heap.size ≤ i ∧ i < w8.heap.size), ⟨⟨?_, ?_, h.dsk.ne⟩, ⟨⟨A8, k8, ?_, ?_⟩, ?_⟩, ?_, ?_, h.ld, h.lg⟩, fun i hi => hi⟩, hkp⟩
  · exact (hkp.block d h.dsk.blk.lt (by rintro (e | e); exact h.ld e.symm; exact h.sd e)).trans h.dsk.blk
  · exact (hkp.block g0 h.dsk.row.lt (by rintro (e | e); exact h.lg e.symm; exact h.sg e)).trans h.dsk.row
  · have : (c.plus b).rs.length = c.rs.length + 1 := by simp [Lc.plus]
    rw [this]
    exact hk8
  · have : (c.plus b).rs.length = c.rs.length + 1 := by simp [Lc.plus]
    rw [this]
    exact hr8.more hS
  · rintro (e | e)
    · exact h.log.nlb e
    · omega
  · rintro (e | e)
    · exact h.sd e
    · have := h.dsk.blk.lt; omega
  · rintro (e | e)
    · exact h.sg e
    · have := h.dsk.row.lt; omega
def AppR (w : World) (d g0 lb : Nat) (S : Nat → Prop) (c : Lc) (T : Int × Dk) (b : List UInt8) (e : Ending) (w' : World) : Prop :=
  (T.1 = 0 ∧ e = .returned (.int .i64 0) ∧ Aft w d g0 lb S T.2 ((c.seen T.2).plus b) w') ∨ (T.1 ≠ 0 ∧ e = .returned (.int .i64 T.1) ∧ Aft w d g0 lb S T.2 (c.seen T.2) w')
set_option maxRecDepth 100000
set_option maxHeartbeats 8000000 in
theorem append_any (w : World) (d g0 lb : Nat) (S : Nat → Prop) (s : Dk) (c : Lc) (h : Sys w d g0 lb S s c) (n : Nat) (ho : s.okn n) (hn : n ≤ 1000000) (hd : c.was = false) (hd2 : s.down = false) (S0 : Nat → Prop) (A : Option Addr) (k : Nat) (b : List UInt8) (hR : Rd w S0 A b) (hS0 : ∀ k, S0 k → k ≠ d ∧ k ≠ g0 ∧ k ≠ lb ∧ ¬ S k) (hbk : b.length ≤ k) (h1 : 1 ≤ b.length) (h2 : b.length ≤ 65536) (hz : c.sz ≤ 500000) (hs : c.q + (9 + b.length) ≤ c.sz) (hst : c.st ≤ 500000) (hg : c.g < 4294967296) (hrs : c.rs.length ≤ 1000000) :
    Calls Try.prog 19 #[.pointer (some ⟨lb, 0, none⟩), .slice A b.length k] w (AppR w d g0 lb S c (perf s (appWs c b)) b) := by
  have HW := Lib.hid (watch_any w d g0 lb S s c h)
  rw [hd, hd2, seen_id hd hd2] at HW
  have HR := Lib.hid (fun W hW => room_any W d g0 lb S s c hW (by omega) (by omega))
  rw [seen_id hd hd2] at HR
  have HC := Lib.hid (fun W => cost_ok W b.length h1 h2)
  obtain ⟨t, ht⟩ : ∃ t, t = 9 + b.length := ⟨_, rfl⟩
  obtain ⟨r, hr⟩ : ∃ r, r = c.sz - c.q := ⟨_, rfl⟩
  obtain ⟨m, hm⟩ : ∃ m, m = b.length := ⟨_, rfl⟩
  have HM := Lib.hid hm
  have HRec := Lib.hid (fun W hRd => record_any W c.g c.q S0 A k b 0 hRd hbk hg (by omega) h1 h2)
  rw [show (((0 : UInt8).toNat : Nat) : Int) = 0 from rfl] at HRec
  have HCl := Lib.hid (fun W (S1 : Nat → Prop) ad (hRd : Rd W S1 (some ad) b) => clone_any W S1 ad k b hRd h1 (by omega))
  rw [← ht] at HC HRec
  rw [← hm] at HC HRec HCl ⊢
  rw [← hr] at HR
  have t0 : ((t : Int) == 0) = false := by simp; omega
  have t1 : ¬ (r : Int) < (t : Int) := by omega
  have HRd := Lib.hid hR
  have HS0 := Lib.hid hS0
  have H := Lib.hid h
  have HN := Lib.hid hn
  have HO := Lib.hid ho
  have H1 := Lib.hid h1
  have H2 := Lib.hid h2
  have HS := Lib.hid hs
  have HZ := Lib.hid hz
  have HST := Lib.hid hst
  have HT := Lib.hid ht
  have HRS := Lib.hid hrs
  obtain ⟨a, ha⟩ : ∃ a, a = c.st + c.q := ⟨_, rfl⟩
  have HA := Lib.hid ha
  have w2' : (c.st : Int) + c.q = (a : Int) := by omega
  have hab : a ≤ 1000000 := by omega
  have w3' : IntKind.i64.wrap ((a : Int) + 8) = (a : Int) + 8 := by rw [IntKind.wrap_i64]; omega
  obtain ⟨rec0, hrec0⟩ : ∃ rec0, rec0 = recB c.g c.q b 0 := ⟨_, rfl⟩
  have HRl : Hid (rec0.length = t) := Lib.hid (by rw [hrec0, recB_length, ht])
  have hWs : appWs c b = [(a, rec0), (a + 8, [1])] := by unfold appWs; rw [ha, hrec0]
  rw [hWs]
  have HPf := Lib.hid (fun W B (hS : Sys W d g0 lb S s c) (hBd : d < B) (hBg : g0 < B) A k (hR : RdWs W (fun i => B ≤ i) A [(a, rec0), (a + 8, [1])]) => lperform_any W d g0 lb S s c hS n ho (fun i => B ≤ i) A k _ hR (by omega) (by omega) (show n + 2 ≤ _ by omega) (by intro x hx; simp at hx; rcases hx with rfl | rfl <;> simp <;> omega))
  generalize perf s [(a, rec0), (a + 8, [1])] = T at *
  rw [← hrec0] at HRec
  have HPf2 : Hid (∀ W B (hS : Sys W d g0 lb S s c) (hBd : d < B) (hBg : g0 < B) A k (hR : RdWs W (fun i => B ≤ i) A [(a, rec0), (a + 8, [1])]), Calls Try.prog 31 #[.pointer (some ⟨lb, 0, none⟩), .slice A 2 k] W fun e w' => e = .returned (.int .i64 T.1) ∧ Sys w' d g0 lb S T.2 (c.seen T.2) ∧ Kp (fun i => i = d ∨ i = g0 ∨ i = lb) W w') := HPf
  clear h hd hd2 h1 h2 ht hr hs hz hR hS0 hbk hst hg hrs hn ho hm ha hrec0 hWs HPf
  go_enter Try.func19, Try.ntmps19
  go_wp2_with fail
  refine HW.out.mono ?_
  rintro e w1 ⟨rfl, h1, hk1, hz1⟩
  have HS1 := Lib.hid h1
  have HK1 := Lib.hid hk1
  clear h1 hk1 hz1
  go_wp2_with fail
  refine (HC.out w1).mono ?_
  rintro e w2 ⟨rfl, rfl⟩
  go_wp2_with fail
  refine (HR.out w1 HS1.out).mono ?_
  rintro e w2 ⟨rfl, h2, hk2⟩
  have HS2 := Lib.hid h2
  have HK2 := Lib.hid (HK1.out.trans hk2 (fun _ _ h => h))
  obtain ⟨A', k', hb, hr⟩ := h2.log.ex
  have c3 : w2.cell? ⟨lb, 3, none⟩ = some (.int .i64 (c.st : Int)) := hb.cell 3
  have c6 : w2.cell? ⟨lb, 6, none⟩ = some (.int .i64 (c.q : Int)) := hb.cell 6
  have c4 : w2.cell? ⟨lb, 4, none⟩ = some (.int .i64 (c.g : Int)) := hb.cell 4
  have hlb := hb.lt
  clear h2 hk2 hb hr
  go_wp2
  go_quiet (fail)
  have HS3 := Lib.hid (HS2.out.old (below_drewN (Below.refl _ _) nq))
  have HK3 := Lib.hid (HK2.out.trans (Kp.old (S := fun k => k = lb) (below_drewN (Below.refl w2.heap.size w2) nq)) (fun _ _ h => h))
  clear c3 c4 c6 hlb HS2 HK2
  generalize w2.drewN nq = w3 at *
  obtain ⟨A3, k3, hb, hr⟩ := HS3.out.log.ex
  have c6 : w3.cell? ⟨lb, 6, none⟩ = some (.int .i64 (c.q : Int)) := hb.cell 6
  have c4 : w3.cell? ⟨lb, 4, none⟩ = some (.int .i64 (c.g : Int)) := hb.cell 4
  have hlb := hb.lt
  have HB3 := Lib.hid hb
  have HR3 := Lib.hid hr
  have HRdA : Hid (∀ W, Below w3.heap.size w3 W → Rd W S0 A b) := Lib.hid (fun W hW => by
    refine (Rd.old (w := w3) ?_ hW)
    intro hl
    obtain ⟨ad, e, h1, h2, h3⟩ := HRd.out hl
    have hne := HS0.out _ h1
    exact ⟨ad, e, h1, Nat.lt_of_lt_of_le h2 HK3.out.size, fun j u hu => by
      rw [← h3 j u hu]
      exact World.cell?_of_block (by rw [block_add]; exact HK3.out.block _ h2 (fun e => hne.2.2.1 e))⟩)
  have hone : ∀ W : World, Blk (W.alloc (.cells #[.int .u8 1] 5)) W.heap.size 5 (bc [1]) := fun W => Blk.new W 5 #[.int .u8 1] (bc [1]) rfl
  have HOne := Lib.hid hone
  have HOnD : Hid (Blk (w3.alloc (.cells #[.int .u8 1] 5)).drew w3.heap.size 5 (bc [1])) := Lib.hid (hone w3)
  clear hb hr hone
  go_wp2
  go_region_law (first
    | (go_simp; go_at_call 32; (with_reducible refine (HRec.out w3.drew (HRdA.out _ (Below.refl _ _).drew)).mono ?_); rintro e w4 ⟨q4, rfl, hq4, hk4, hb4, hz4⟩; have HB4 : Hid (Below w3.heap.size w3 w4) := Lib.hid ((Below.refl w3.heap.size w3).drew.trans hb4); have HK4 := Lib.hid hk4; have HQ4 : Hid (w3.heap.size ≤ q4) := Lib.hid hq4; have HZ4 : Hid (w3.heap.size ≤ w4.heap.size) := Lib.hid hz4; clear hq4 hk4 hb4 hz4)
    | (go_simp; go_at_call 32; (with_reducible refine (HRec.out (w3.alloc (.cells #[.int .u8 1] 5)).drew (HRdA.out _ ((Below.refl _ _).alloc (Nat.le_refl _) _).drew)).mono ?_); rintro e w4 ⟨q4, rfl, hq4, hk4, hb4, hz4⟩; have HB4 : Hid (Below w3.heap.size w3 w4) := Lib.hid (((Below.refl w3.heap.size w3).alloc (Nat.le_refl _) _).drew.trans (hb4.mono (by simp))); have HK4 := Lib.hid hk4; have HQ4 : Hid (w3.heap.size ≤ q4) := Lib.hid (by simp at hq4; omega); have HZ4 : Hid (w3.heap.size ≤ w4.heap.size) := Lib.hid (by simp at hz4; omega); have HO4 : Hid (Blk w4 w3.heap.size 5 (bc [1])) := Lib.hid (HOnD.out.below hb4 (by simp)); clear hq4 hk4 hb4 hz4)
    | (go_simp; go_at_call 31; (with_reducible refine (HPf2.out _ w3.heap.size (HS3.out.old ((HB4.out.alloc HZ4.out _).alloc (by have := HZ4.out; simp; omega) _)) HS3.out.dsk.blk.lt HS3.out.dsk.row.lt _ 2 (app_rd (w4.alloc (.cells #[.int .u8 1] 5)) w3.heap.size a q4 w4.heap.size t rec0 (HK4.out.alloc _) (HOne.out w4) HQ4.out HZ4.out (by have := HZ4.out; simp; omega) HRl.out _ rfl _ (by simp))).mono ?_); rintro e w6 ⟨rfl, hs6, hk6⟩; have HS6 := Lib.hid hs6; have HK6 : Hid (Kp (fun i => i = d ∨ i = g0 ∨ i = lb) w3 w6) := Lib.hid ((Kp.old (S := fun i => i = d ∨ i = g0 ∨ i = lb) ((HB4.out.alloc HZ4.out _).alloc (by have := HZ4.out; simp; omega) _)).trans hk6 (fun _ _ h => h)); clear hs6 hk6 HB4 HZ4 HK4 HQ4)
    | (go_simp; go_at_call 31; (with_reducible refine (HPf2.out _ w3.heap.size (HS3.out.old (HB4.out.alloc HZ4.out _)) HS3.out.dsk.blk.lt HS3.out.dsk.row.lt _ 2 (app_rd w4 w3.heap.size a q4 w3.heap.size t rec0 HK4.out HO4.out HQ4.out (Nat.le_refl _) HZ4.out HRl.out _ rfl _ rfl)).mono ?_); rintro e w6 ⟨rfl, hs6, hk6⟩; have HS6 := Lib.hid hs6; have HK6 : Hid (Kp (fun i => i = d ∨ i = g0 ∨ i = lb) w3 w6) := Lib.hid ((Kp.old (S := fun i => i = d ∨ i = g0 ∨ i = lb) (HB4.out.alloc HZ4.out _)).trans hk6 (fun _ _ h => h)); clear hs6 hk6 HB4 HZ4 HK4 HQ4 HO4))
  all_goals
    by_cases he : T.1 = 0
    · rw [he]
      have HE := Lib.hid he
      have HRd6 : Hid (Rd w6.drew S0 A b) := Lib.hid (by
        intro hl
        obtain ⟨ad, e, h1, h2, h3⟩ := HRd.out hl
        have hne := HS0.out _ h1
        have hkk : w6.heap[ad.block]? = w.heap[ad.block]? := (HK6.out.block _ (Nat.lt_of_lt_of_le h2 HK3.out.size) (fun e => by rcases e with e | e | e; exact hne.1 e; exact hne.2.1 e; exact hne.2.2.1 e)).trans (HK3.out.block _ h2 (fun e => hne.2.2.1 e))
        exact ⟨ad, e, h1, Nat.lt_of_lt_of_le h2 (Nat.le_trans HK3.out.size HK6.out.size), fun j u hu => by
          rw [← h3 j u hu]
          exact World.cell?_of_block (by rw [block_add]; exact hkk)⟩)
      obtain ⟨ad, hAe, _⟩ := HRd6.out (by have := H1.out; omega)
      subst hAe
      clear he
      have HCl6 := Lib.hid (HCl.out w6.drew S0 ad HRd6.out)
      have HAdd := Lib.hid (fun w7 q7 c7 (hb : Below w6.heap.size w6 w7) hc hq hR => add_sys (w7 := w7) HS6.out hb q7 c7 b H1.out H2.out hc hq hR (show c.q ≤ 1000000 by have := HS.out; have := HZ.out; omega) HRS.out)
      go_wp2
      go_region_law (first
        | (go_simp; go_at_call 29; (with_reducible refine HCl6.out.mono ?_); rintro e w7 ⟨q7, c7, rfl, f1, f2, f3, f4, f5⟩; have HF7 := Lib.hid (HAdd.out w7 q7 c7 ((Below.refl w6.heap.size w6).drew.trans f5) f1 f3 f4); clear f1 f2 f3 f4 f5)
        | (go_simp; go_at_call 33; (with_reducible refine HF7.out.mono ?_); rintro e w8 ⟨rfl, hs8, hk8⟩; have HS8 := Lib.hid hs8; have HK8 := Lib.hid hk8; clear hs8 hk8 HF7))
      all_goals
        go_wp2
        go_ret
        obtain ⟨S8, hs8, hS8⟩ := HS8.out
        have hsz6 : w.heap.size ≤ w6.heap.size := Nat.le_trans HK3.out.size HK6.out.size
        refine .inl ⟨HE.out, rfl, ⟨S8, hs8, fun k hk => ?_⟩, ?_⟩
        · rcases hS8 k hk with e | e
          · exact .inl e
          · exact .inr ⟨by omega, e.2⟩
        · exact ((HK3.out.mono (S' := fun k => k = d ∨ k = g0 ∨ k = lb ∨ S k) (fun k _ e => .inr (.inr (.inl e)))).trans HK6.out (fun k _ e => by rcases e with e | e | e; exact .inl e; exact .inr (.inl e); exact .inr (.inr (.inl e)))).trans HK8.out (fun k _ e => by rcases e with e | e; exact .inr (.inr (.inl e)); exact .inr (.inr (.inr e)))
    · have hne : (T.1 != 0) = true := by simpa using he
      have HE := Lib.hid he
      clear he
      go_wp2
      go_ret
      exact .inr ⟨HE.out, rfl, ⟨S, HS6.out, fun k hk => .inl hk⟩, (HK3.out.mono (S' := fun k => k = d ∨ k = g0 ∨ k = lb ∨ S k) (fun k _ e => .inr (.inr (.inl e)))).trans HK6.out (fun k _ e => by rcases e with e | e | e; exact .inl e; exact .inr (.inl e); exact .inr (.inr (.inl e)))⟩
end Go.Proofs.Ytaoaegkfejlgkaa.Dsk
