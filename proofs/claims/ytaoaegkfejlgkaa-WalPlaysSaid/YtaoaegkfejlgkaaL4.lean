/-
  Appending to a log whose disk goes down at the next write: nothing counts of what was to be appended.
-/
import Derived.Test.YtaoaegkfejlgkaaL2
namespace Go.Proofs.Ytaoaegkfejlgkaa.Dsk
open Go.RowKit
/-- The first write of an append, cut off anywhere, leaves the log's records as they are. -/
theorem app_key {L : List UInt8} {sz st g q : Nat} {rs : List (List UInt8)} (h : Wk L sz st g rs q) (hz : Blank L sz st q) {x : List UInt8} (hq : q + (9 + x.length) ≤ sz) (k : Nat) :
    Wk (splice L (st + q) ((recB g q x 0).take k)) sz st g rs q := by
  have h2 := h.len
  have h3 := h.hst
  have h4 := h.q16
  have hb : st + q + (recB g q x 0).length ≤ L.length := by rw [recB_length]; omega
  have hk : st + q + ((recB g q x 0).take k).length ≤ L.length := by have := take_le (recB g q x 0) k; omega
  have hkl : ((recB g q x 0).take k).length ≤ 9 + x.length := by have := take_le (recB g q x 0) k; rwa [recB_length] at this
  refine h.tail' (splice_length _ _ _ hk) (fun i hi => splice_same hk i (by omega)) (.inl ?_)
  rw [splice_getD hk]
  split
  · rename_i hc
    have e : ((recB g q x 0).take k).getD (st + q + 8 - (st + q)) 0 = 0 := by
      rw [show st + q + 8 - (st + q) = 8 by omega, List.getD_eq_getElem?_getD, List.getElem?_take]
      split
      · have := recB_mark g q x 0
        rwa [List.getD_eq_getElem?_getD] at this
      · rfl
    rw [e]; decide
  · have := hz (q + 8) (by omega) (by omega)
    rw [← Nat.add_assoc] at this
    rw [this]; decide
/-- Appending to a log whose disk goes down at the next write. -/
theorem append_dark (w : World) (d g0 lb : Nat) (S : Nat → Prop) (s : Dk) (c : Lc) (n N : Nat) (h : Well w d g0 lb S s c n N) (hset : s.set = true) (hfw : s.fw = 0) (hn : n ≤ 900000) (hN : N ≤ 1000000) (S0 : Nat → Prop) (A : Option Addr) (k : Nat) (b : List UInt8) (hR : Rd w S0 A b) (hS0 : ∀ k, S0 k → k ≠ d ∧ k ≠ g0 ∧ k ≠ lb ∧ ¬ S k) (hbk : b.length ≤ k) (h1 : 1 ≤ b.length) (h2 : b.length ≤ 65536) (hs : c.q + (9 + b.length) ≤ c.sz) :
    Calls Try.prog 19 #[.pointer (some ⟨lb, 0, none⟩), .slice A b.length k] w fun e w' => ∃ s', e = .returned (.int .i64 20) ∧ Kp (fun k => k = d ∨ k = g0 ∨ k = lb ∨ S k) w w' ∧ Has w' d g0 s' (n + 1) N c := by
  have hsz := h.sz
  have hst := h.wk.hst
  have hg := h.wk.gle
  have hcnt := h.wk.ch.count
  have hlen := h.len
  have hw := h.wk.len
  have hab : c.st + c.q + (recB c.g c.q b 0).length ≤ s.l.length := by rw [recB_length]; omega
  have he : perf s (appWs c b) = (20, s.torn (c.st + c.q) (recB c.g c.q b 0)) := by
    have hwr : s.write ((c.st + c.q : Nat) : Int) (recB c.g c.q b 0) = (20, s.torn (c.st + c.q) (recB c.g c.q b 0)) := by
      rw [write_up h.up hab]
      exact if_pos (by rw [hset, hfw]; rfl)
    unfold appWs perf
    rw [hwr, if_pos (by simp)]
  refine (append_any w d g0 lb S s c h.sys n h.ok (by omega) h.was h.up S0 A k b hR hS0 hbk h1 h2 (by omega) hs (by omega) (by omega) (by omega)).mono ?_
  rintro e w' hr
  rw [he] at hr
  rcases hr with ⟨h0, _⟩ | ⟨hne, rfl, ⟨⟨S', hs', hS'⟩, hkp⟩⟩
  · exact absurd h0 (show ¬ (20 : Int) = 0 by decide)
  · exact ⟨_, rfl, hkp, hs'.dsk, okn_torn h.ok hab, by
      show (splice s.l (c.st + c.q) ((recB c.g c.q b 0).take s.fb.toNat)).length = _
      rw [splice_length _ _ _ (by rw [List.length_take]; omega)]
      exact hlen, hsz, app_key h.wk h.bl hs _⟩
end Go.Proofs.Ytaoaegkfejlgkaa.Dsk
