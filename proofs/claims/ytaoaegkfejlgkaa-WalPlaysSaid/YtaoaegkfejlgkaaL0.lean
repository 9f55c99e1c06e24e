/-
  A log with what is on its disk: opening it, appending to it, whole or cut off.
-/
import Derived.Test.YtaoaegkfejlgkaaW15
namespace Go.Proofs.Ytaoaegkfejlgkaa.Dsk
open Go.RowKit
/-- A log that is well: its disk has just its records, and nothing behind them. -/
structure Well (w : World) (d g0 lb : Nat) (S : Nat → Prop) (s : Dk) (c : Lc) (n N : Nat) : Prop where
  sys : Sys w d g0 lb S s c
  ok : s.okn n
  len : s.l.length = N
  sz : c.sz = N / 2
  up : s.down = false
  was : c.was = false
  wk : Wk s.l c.sz c.st c.g c.rs c.q
  bl : Blank s.l c.sz c.st c.q
/-- A disk that has a log's records, and maybe something behind them. -/
structure Has (w : World) (d g0 : Nat) (s : Dk) (n N : Nat) (c : Lc) : Prop where
  dsk : Dsk w d g0 s
  ok : s.okn n
  len : s.l.length = N
  sz : c.sz = N / 2
  wk : Wk s.l c.sz c.st c.g c.rs c.q
theorem Well.has {w : World} {d g0 lb : Nat} {S : Nat → Prop} {s : Dk} {c : Lc} {n N : Nat} (h : Well w d g0 lb S s c n N) : Has w d g0 s n N c := ⟨h.sys.dsk, h.ok, h.len, h.sz, h.wk⟩
theorem Well.old {w w' : World} {d g0 lb : Nat} {S : Nat → Prop} {s : Dk} {c : Lc} {n N : Nat} (h : Well w d g0 lb S s c n N) (hb : Below w.heap.size w w') : Well w' d g0 lb S s c n N := ⟨h.sys.old hb, h.ok, h.len, h.sz, h.up, h.was, h.wk, h.bl⟩
theorem Has.old {w w' : World} {d g0 : Nat} {s : Dk} {c : Lc} {n N : Nat} (h : Has w d g0 s n N c) (hb : Below w.heap.size w w') : Has w' d g0 s n N c := ⟨h.dsk.old hb, h.ok, h.len, h.sz, h.wk⟩
theorem but_blank {L : List UInt8} {sz st q : Nat} (h : blankB ((half L st sz).drop q) = true) : Blank L sz st q := fun i h1 h2 => by
  have := blankB_iff.1 h (i - q)
  rw [getD_drop', show q + (i - q) = i by omega, half_getD _ _ _ _ h2] at this
  exact this
where
  getD_drop' : ∀ {l : List UInt8} {a i : Nat}, (l.drop a).getD i 0 = l.getD (a + i) 0 := by
    intro l a i; simp [List.getD_eq_getElem?_getD, List.getElem?_drop]
/-- Opening a disk of zeros. -/
theorem open_new (w : World) (d g0 N : Nat) (h : Dsk w d g0 ⟨List.replicate N 0, false, 0, false, 0, 0⟩) (h1 : 1024 ≤ N) (h2 : N ≤ 1000000) :
    Calls Try.prog 11 #[.pointer (some ⟨d, 0, none⟩)] w fun e w' => ∃ lb s, e = .returned (.tuple #[.pointer (some ⟨lb, 0, none⟩), .int .i64 0]) ∧ w.heap.size ≤ lb ∧ But d g0 w w' ∧ s.set = false ∧
      Well w' d g0 lb (fun k => w.heap.size ≤ k ∧ k < lb) s ⟨N / 2, false, 0, 1, [], 16⟩ 2 N := by
  have hl : (List.replicate N (0 : UInt8)).length = N := by simp
  have ho : (⟨List.replicate N 0, false, 0, false, 0, 0⟩ : Dk).okn 0 := ⟨by simp; omega, show (0 : Int) ≤ 0 by decide, show (0 : Int) ≤ 9223372036854775807 by decide, show (0 : Int) ≤ 0 by decide, Nat.le_refl _⟩
  have hp := perf_torn [(0, headB 1 0), (8, [1])] ⟨List.replicate N 0, false, 0, false, 0, 0⟩ 0 rfl ho (create_torn (n := N) (sz := N / 2) (by omega) (by omega))
  refine (open_core w d g0 _ h rfl 0 ho (by omega) (N / 2) (by simp) (by simp; omega) 0 1 [] 16 [(0, headB 1 0), (8, [1])] (by simp) (by simp) (fun W q1 q2 hk1 hk2 => ?_)).mono ?_
  · rw [half_zeros _ _ _ (by omega)] at hk1 hk2
    exact examine_new W q1 q2 (N / 2) hk1 hk2 (by omega) (by omega)
  · rintro e w' ⟨hd, hb, hc⟩
    obtain ⟨p1, p2, p3⟩ := hp
    rcases p3 with ⟨p3, p4, p5, p6⟩ | ⟨p3, _⟩
    · rcases hc with ⟨_, lb, rfl, hlb, hlog⟩ | ⟨hne, _⟩
      · have hdl := h.blk.lt
        have hgl := h.row.lt
        exact ⟨lb, _, rfl, hlb, hb, p6, ⟨hd, hlog, fun e => by have := e.1; omega, fun e => by have := e.1; omega, by omega, by omega⟩, p1, by rw [p2]; exact hl, rfl, p4, rfl, p5.1, p5.2⟩
      · exact absurd p3 hne
    · cases p3
/-- Opening a disk that has a log. -/
def OpenL (w : World) (d g0 : Nat) (s : Dk) (n N : Nat) (c : Lc) (e : Ending) (w' : World) : Prop :=
  But d g0 w w' ∧ ∃ s', (s'.set = s.set ∨ s'.down = true) ∧
   ((∃ lb, e = .returned (.tuple #[.pointer (some ⟨lb, 0, none⟩), .int .i64 0]) ∧ w.heap.size ≤ lb ∧ s'.set = s.set ∧ Well w' d g0 lb (fun k => w.heap.size ≤ k ∧ k < lb) s' { c with was := false } (n + 1) N) ∨
    (s.set = true ∧ e = .returned (.tuple #[.pointer none, .int .i64 20]) ∧ s'.down = true ∧ Has w' d g0 s' (n + 1) N c))
theorem open_log (w : World) (d g0 : Nat) (s : Dk) (n N : Nat) (c : Lc) (h : Has w d g0 s n N c) (hup : s.down = false) (hn : n ≤ 1000000) (hN : N ≤ 1000000) :
    Calls Try.prog 11 #[.pointer (some ⟨d, 0, none⟩)] w (OpenL w d g0 s n N c) := by
  have hlen := h.len
  have hsz := h.sz
  have hq := h.wk.qsz
  have hh := h.wk.hlen
  have hst := h.wk.hst
  have htorn : Torn (fun L' => Wk L' c.sz c.st c.g c.rs c.q) (fun L' => Wk L' c.sz c.st c.g c.rs c.q ∧ Blank L' c.sz c.st c.q) s.l (remWs (half s.l c.st c.sz) c.st c.q) := by
    unfold remWs
    split
    · rename_i hb
      exact ⟨h.wk, but_blank hb⟩
    · rw [hh]
      exact open_torn h.wk
  have hlw : (remWs (half s.l c.st c.sz) c.st c.q).length ≤ 1 := by unfold remWs; split <;> simp
  have hp := perf_torn (remWs (half s.l c.st c.sz) c.st c.q) s n hup h.ok htorn
  refine (open_core w d g0 s h.dsk hup n h.ok (by omega) c.sz (by rw [hlen]; exact hsz.symm) (by omega) c.st c.g c.rs c.q (remWs (half s.l c.st c.sz) c.st c.q) (by omega) (fun x hx => ?_) (fun W q1 q2 hk1 hk2 => examine_wk W q1 q2 s.l c.sz c.st c.g c.q c.rs h.wk hk1 hk2 (by omega))).mono ?_
  · unfold remWs at hx
    split at hx
    · cases hx
    · rw [List.mem_singleton] at hx
      subst hx
      show c.st + c.q ≤ _
      omega
  · rintro e w' ⟨hd, hb, hc⟩
    obtain ⟨p1, p2, p3⟩ := hp
    have hdl := h.dsk.blk.lt
    have hgl := h.dsk.row.lt
    rcases p3 with ⟨p3, p4, p5, p6⟩ | ⟨p3, p4, p5, p6⟩
    · rcases hc with ⟨_, lb, rfl, hlb, hlog⟩ | ⟨hne, _⟩
      · exact ⟨hb, _, .inl p6, .inl ⟨lb, rfl, hlb, p6, ⟨hd, hlog, fun e => by have := e.1; omega, fun e => by have := e.1; omega, by omega, by omega⟩, p1.mono (by omega), by rw [p2]; exact hlen, hsz, p4, rfl, p5.1, p5.2⟩⟩
      · exact absurd p3 hne
    · rcases hc with ⟨h0, _⟩ | ⟨hne, rfl⟩
      · rw [h0] at p4; cases p4
      · exact ⟨hb, _, .inr p5, .inr ⟨p3, by rw [p4], p5, hd, p1.mono (by omega), by rw [p2]; exact hlen, hsz, p6⟩⟩
/-- Appending to a log that is well. -/
def AppL (w : World) (d g0 lb : Nat) (S : Nat → Prop) (s : Dk) (c : Lc) (n N : Nat) (b : List UInt8) (e : Ending) (w' : World) : Prop :=
  Kp (fun k => k = d ∨ k = g0 ∨ k = lb ∨ S k) w w' ∧ ∃ s' S',  (∀ k, S' k → S k ∨ (w.heap.size ≤ k ∧ k < w'.heap.size)) ∧
   ((e = .returned (.int .i64 0) ∧ s'.set = s.set ∧ Well w' d g0 lb S' s' (c.plus b) (n + 2) N) ∨
    (s.set = true ∧ e = .returned (.int .i64 20) ∧ s'.down = true ∧ Sys w' d g0 lb S' s' (c.seen s') ∧ (Has w' d g0 s' (n + 2) N c ∨ Has w' d g0 s' (n + 2) N (c.plus b))))
theorem append_log (w : World) (d g0 lb : Nat) (S : Nat → Prop) (s : Dk) (c : Lc) (n N : Nat) (h : Well w d g0 lb S s c n N) (hn : n ≤ 900000) (hN : N ≤ 1000000) (S0 : Nat → Prop) (A : Option Addr) (k : Nat) (b : List UInt8) (hR : Rd w S0 A b) (hS0 : ∀ k, S0 k → k ≠ d ∧ k ≠ g0 ∧ k ≠ lb ∧ ¬ S k) (hbk : b.length ≤ k) (h1 : 1 ≤ b.length) (h2 : b.length ≤ 65536) (hs : c.q + (9 + b.length) ≤ c.sz) :
    Calls Try.prog 19 #[.pointer (some ⟨lb, 0, none⟩), .slice A b.length k] w (AppL w d g0 lb S s c n N b) := by
  have hsz := h.sz
  have hst := h.wk.hst
  have hg := h.wk.gle
  have hcnt := h.wk.ch.count
  have hp := perf_torn (appWs c b) s n h.up h.ok (append_torn h.wk h.bl h1 h2 hs)
  refine (append_any w d g0 lb S s c h.sys n h.ok (by omega) h.was h.up S0 A k b hR hS0 hbk h1 h2 (by omega) hs (by omega) (by omega) (by omega)).mono ?_
  rintro e w' hr
  obtain ⟨p1, p2, p3⟩ := hp
  have hws : (appWs c b).length = 2 := rfl
  rw [hws] at p1
  rcases hr with ⟨h0, rfl, ⟨⟨S', hs', hS'⟩, hkp⟩⟩ | ⟨hne, rfl, ⟨⟨S', hs', hS'⟩, hkp⟩⟩
  · rcases p3 with ⟨_, p4, p5, p6⟩ | ⟨_, p4, _⟩
    · have hc : c.seen (perf s (appWs c b)).2 = c := seen_id h.was p4
      rw [hc] at hs'
      exact ⟨hkp, _, S', hS', .inl ⟨rfl, p6, hs', p1, by rw [p2]; exact h.len, h.sz, p4, h.was, p5.1, p5.2⟩⟩
    · rw [h0] at p4; cases p4
  · rcases p3 with ⟨p4, _⟩ | ⟨p3, p4, p5, p6⟩
    · exact absurd p4 hne
    · refine ⟨hkp, _, S', hS', .inr ⟨p3, by rw [p4], p5, hs', ?_⟩⟩
      rcases p6 with p6 | p6
      · exact .inl ⟨hs'.dsk, p1, by rw [p2]; exact h.len, h.sz, p6⟩
      · exact .inr ⟨hs'.dsk, p1, by rw [p2]; exact h.len, h.sz, p6⟩
end Go.Proofs.Ytaoaegkfejlgkaa.Dsk
