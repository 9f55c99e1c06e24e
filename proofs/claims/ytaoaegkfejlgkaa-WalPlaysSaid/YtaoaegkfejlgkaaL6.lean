/-
  Beginning anew with a log that is well: done, refused, or cut off.
-/
import Derived.Test.YtaoaegkfejlgkaaW17
namespace Go.Proofs.Ytaoaegkfejlgkaa.Dsk
open Go.RowKit
/-- The log in its other half, with these records. -/
def Lc.fresh (c : Lc) (ns : List (List UInt8)) : Lc := { c with st := c.sz - c.st, g := c.g + 1, rs := ns, q := 16 + tot ns }
theorem anewErr_none {c : Lc} {ns : List (List UInt8)} (h1 : ∀ x ∈ ns, Okp x) (h2 : 16 + tot ns ≤ c.sz) (h3 : c.g ≠ 2147483647) (h4 : 16 ≤ c.sz) : anewErr c ns = 0 := by
  unfold anewErr
  rw [if_neg (fun ⟨x, hx, hb⟩ => hb (h1 x hx)), if_neg (by omega), if_neg h3]
/-- Beginning anew. -/
def AnewL (w : World) (d g0 lb : Nat) (S : Nat → Prop) (s : Dk) (c : Lc) (n N : Nat) (ns : List (List UInt8)) (e : Ending) (w' : World) : Prop :=
  Kp (fun k => k = d ∨ k = g0 ∨ k = lb ∨ S k) w w' ∧ ∃ s' S', (∀ k, S' k → S k ∨ (w.heap.size ≤ k ∧ k < w'.heap.size)) ∧
   ((anewErr c ns ≠ 0 ∧ e = .returned (.int .i64 (anewErr c ns)) ∧ s' = s ∧ Well w' d g0 lb S' s c n N) ∨
    (anewErr c ns = 0 ∧ (∀ x ∈ ns, Okp x) ∧ 16 + tot ns ≤ c.sz ∧
     ((e = .returned (.int .i64 0) ∧ s'.set = s.set ∧ Well w' d g0 lb S' s' (c.fresh ns) (n + 5) N) ∨
      (s.set = true ∧ e = .returned (.int .i64 20) ∧ s'.down = true ∧ Sys w' d g0 lb S' s' (c.seen s') ∧ (Has w' d g0 s' (n + 5) N c ∨ Has w' d g0 s' (n + 5) N (c.fresh ns))))))
theorem anewErr_g {c : Lc} {ns : List (List UInt8)} (h : anewErr c ns = 0) : c.g ≠ 2147483647 := by
  intro hg
  unfold anewErr at h
  split at h
  · cases h
  · split at h
    · cases h
    · first | (rw [if_pos hg] at h; cases h) | exact absurd h (by decide)
theorem anew_log (w : World) (d g0 lb : Nat) (S : Nat → Prop) (s : Dk) (c : Lc) (n N : Nat) (h : Well w d g0 lb S s c n N) (hn : n ≤ 900000) (hN : N ≤ 1000000) (S0 : Nat → Prop) (A : Option Addr) (k : Nat) (ns : List (List UInt8)) (hR : RdL w S0 A ns) (hS0 : ¬ S0 lb) (hns : ns.length ≤ 100000) :
    Calls Try.prog 20 #[.pointer (some ⟨lb, 0, none⟩), .slice A ns.length k] w (AnewL w d g0 lb S s c n N ns) := by
  have hsz := h.sz
  have hst := h.wk.hst
  have hg := h.wk.gle
  have h5 := h.wk.hsz
  have hlen := h.len
  have hwl := h.wk.len
  refine (anew_any w d g0 lb S s c h.sys n h.ok (by omega) h.up h.was S0 A k ns hR hS0 hns (by omega) h5 (by omega) (by omega) (by omega) hg).mono ?_
  rintro e w' hr
  rcases hr with ⟨h0, rfl, ⟨⟨S', hs', hS'⟩, hkp⟩⟩ | ⟨h0, hok, hfit, rfl, hc⟩
  · exact ⟨hkp, s, S', hS', .inl ⟨h0, rfl, rfl, ⟨hs', h.ok, h.len, h.sz, h.up, h.was, h.wk, h.bl⟩⟩⟩
  · have hgn := anewErr_g h0
    have hp := perf_torn (anewWs s.l c.sz (c.sz - c.st) (c.g + 1) ns) s n h.up h.ok (anew_torn h.wk ns hok (by rw [recsB_tot]; exact hfit) (by omega))
    have hws : (anewWs s.l c.sz (c.sz - c.st) (c.g + 1) ns).length ≤ 5 := by
      unfold anewWs
      simp only [List.length_append, List.length_cons, List.length_nil]
      split <;> split <;> simp
    simp only [recsB_tot] at hp
    obtain ⟨p1, p2, p3⟩ := hp
    have p1' := p1.mono (m := n + 5) (by omega)
    rcases hc with ⟨h9, ⟨⟨S', hs', hS'⟩, hkp⟩⟩ | ⟨h9, ⟨⟨S', hs', hS'⟩, hkp⟩⟩
    · rcases p3 with ⟨_, p4, p5, p6⟩ | ⟨_, p4, _⟩
      · rw [seen_id h.was p4] at hs'
        exact ⟨hkp, _, S', hS', .inr ⟨h0, hok, hfit, .inl ⟨by rw [h9], p6, hs', p1', by rw [p2]; exact h.len, h.sz, p4, h.was, p5.1, p5.2⟩⟩⟩
      · rw [h9] at p4; cases p4
    · rcases p3 with ⟨p4, _⟩ | ⟨p3, p4, p5, p6⟩
      · exact absurd p4 h9
      · refine ⟨hkp, _, S', hS', .inr ⟨h0, hok, hfit, .inr ⟨p3, by rw [p4], p5, hs', ?_⟩⟩⟩
        rcases p6 with p6 | p6
        · exact .inl ⟨hs'.dsk, p1', by rw [p2]; exact h.len, h.sz, p6⟩
        · exact .inr ⟨hs'.dsk, p1', by rw [p2]; exact h.len, h.sz, p6⟩
/-- Beginning anew without a fuse, with what fits. -/
theorem anew_calm (w : World) (d g0 lb : Nat) (S : Nat → Prop) (s : Dk) (c : Lc) (n N : Nat) (h : Well w d g0 lb S s c n N) (hset : s.set = false) (hn : n ≤ 900000) (hN : N ≤ 1000000) (S0 : Nat → Prop) (A : Option Addr) (k : Nat) (ns : List (List UInt8)) (hR : RdL w S0 A ns) (hS0 : ¬ S0 lb) (hns : ns.length ≤ 100000) (h1 : ∀ x ∈ ns, Okp x) (h2 : 16 + tot ns ≤ c.sz) (h3 : c.g ≠ 2147483647) :
    Calls Try.prog 20 #[.pointer (some ⟨lb, 0, none⟩), .slice A ns.length k] w fun e w' => ∃ s' S', e = .returned (.int .i64 0) ∧ Kp (fun k => k = d ∨ k = g0 ∨ k = lb ∨ S k) w w' ∧ (∀ k, S' k → S k ∨ (w.heap.size ≤ k ∧ k < w'.heap.size)) ∧ s'.set = false ∧ Well w' d g0 lb S' s' (c.fresh ns) (n + 5) N := by
  refine (anew_log w d g0 lb S s c n N h hn hN S0 A k ns hR hS0 hns).mono ?_
  rintro e w' ⟨hk, s', S', hS', ⟨h9, _⟩ | ⟨_, _, _, h8⟩⟩
  · exact absurd (anewErr_none h1 h2 h3 (by have := h.wk.hsz; omega)) h9
  · rcases h8 with ⟨e1, e2, e3⟩ | ⟨e1, _⟩
    · exact ⟨s', S', e1, hk, hS', e2.trans hset, e3⟩
    · rw [hset] at e1; cases e1
end Go.Proofs.Ytaoaegkfejlgkaa.Dsk
