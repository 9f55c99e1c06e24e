/-
  The walk of the statement WalOwn: whatever the bytes it returns true, and nothing that was there before has changed.
-/
import Derived.Test.YtaoaegkfejlgkaaL6
import Derived.Deep.QuietTactic
import Derived.BigQuiet
import Derived.Laws.BitsAllLaws
namespace Go.Proofs.Ytaoaegkfejlgkaa.Dsk
open Go.RowKit
set_option maxRecDepth 100000 in
set_option maxHeartbeats 4000000 in
theorem wown_none (w : World) (A B : Option Addr) (n m ka kb : Nat) (h : n < 1 ∨ 200 < n ∨ m < 1 ∨ 200 < m) :
    Calls Try.prog 7 #[.slice A n ka, .slice B m kb] w fun e w' => e = .returned (.bool true) ∧ Below w.heap.size w w' := by
  have hx : (n : Int) < 1 ∨ (¬ (n : Int) < 1 ∧ (200 : Int) < n) ∨ (¬ (n : Int) < 1 ∧ ¬ (200 : Int) < n ∧ (m : Int) < 1) ∨ (¬ (n : Int) < 1 ∧ ¬ (200 : Int) < n ∧ ¬ (m : Int) < 1 ∧ (200 : Int) < m) := by omega
  clear h
  rcases hx with h1 | ⟨h1, h2⟩ | ⟨h1, h2, h3⟩ | ⟨h1, h2, h3, h4⟩
  all_goals
    go_enter Try.func7, Try.ntmps7
    go_wp2_with fail
    with_reducible refine (anchor_any w).mono ?_
    rintro e w1 ⟨rfl, hb1⟩
    have HB1 := Lib.hid hb1
    clear hb1
    go_wp2
    go_ret
    exact ⟨rfl, HB1.out⟩
theorem Own.at' {w : World} {base : Nat} {v : Value} {l : List UInt8} (h : Own w base v l) (hl : 1 ≤ l.length) : ∃ p c, v = .slice (some ⟨p, 0, none⟩) l.length c ∧ l.length ≤ c ∧ base ≤ p ∧ p < w.heap.size ∧ Rd w (· = p) (some ⟨p, 0, none⟩) l ∧ ∀ j, w.frozen? ⟨p, j, none⟩ = false := by
  have hcells := fun p => World.ownsRow.cells (g := p) h
  rcases h.2 with ⟨rfl, h0⟩ | ⟨p, cap, cur, rfl, hb, hg, hc, hm, hs, ht⟩
  · omega
  · have hlt : p < w.heap.size := (Array.getElem?_eq_some_iff.1 hg).1
    exact ⟨p, cap, rfl, hc, hb, hlt, fun _ => ⟨_, rfl, rfl, hlt, hcells p rfl⟩, fun j => by simp [World.frozen?, hg]⟩
/-- The records that were told, each with a first byte that may be turned. -/
structure TurnInv (B r : Nat) (ls : List Nat) (w1 wr : World) : Prop where
  at' : ∀ i, i < ls.length → ∃ p c, wr.cell? ⟨r, i, none⟩ = some (.slice (some ⟨p, 0, none⟩) (ls.getD i 0) c) ∧ 1 ≤ ls.getD i 0 ∧ ls.getD i 0 ≤ c ∧ B ≤ p ∧ p ≠ r ∧ p < wr.heap.size ∧ (∃ v : UInt8, wr.cell? ⟨p, 0, none⟩ = some (.int .u8 (v.toNat : Nat))) ∧ wr.frozen? ⟨p, 0, none⟩ = false
  bel : Below B w1 wr
theorem not_byte (x : UInt8) : ∃ y : UInt8, bits .xor .u8 (if IntKind.u8.signed = true then -1 else IntKind.u8.max) (x.toNat : Int) = ((y.toNat : Nat) : Int) := by
  refine ⟨UInt8.ofNat (255 ^^^ x.toNat), ?_⟩
  rw [show (if IntKind.u8.signed = true then (-1 : Int) else IntKind.u8.max) = ((255 : Nat) : Int) from by decide, u8_xor_nat 255 x.toNat (by decide) x.toNat_lt, UInt8.toNat_ofNat', Nat.mod_eq_of_lt]
  exact Nat.xor_lt_two_pow (n := 8) (by decide) x.toNat_lt
theorem Well.keep {w w' : World} {d g0 lb : Nat} {S : Nat → Prop} {s : Dk} {c : Lc} {n N : Nat} (h : Well w d g0 lb S s c n N) (hk : ∀ k, (k = d ∨ k = g0 ∨ k = lb ∨ S k) → k < w.heap.size → w'.heap[k]? = w.heap[k]?) (hz : w.heap.size ≤ w'.heap.size) : Well w' d g0 lb S s c n N := ⟨h.sys.keep hk hz, h.ok, h.len, h.sz, h.up, h.was, h.wk, h.bl⟩
theorem cell_put_self {w : World} {p : Nat} {u v : Value} (h : w.cell? ⟨p, 0, none⟩ = some v) : (w.setCell ⟨p, 0, none⟩ u).cell? ⟨p, 0, none⟩ = some u := by
  rw [World.cell?_setCell_same _ _ _ (by rw [h])]
theorem cell_put_far {w : World} {p q i j : Nat} {u : Value} (h : p ≠ q) : (w.setCell ⟨q, j, none⟩ u).cell? ⟨p, i, none⟩ = w.cell? ⟨p, i, none⟩ := World.cell?_of_block (Below.heap_setCell _ _ _ _ h)
set_option maxRecDepth 100000
set_option maxHeartbeats 16000000 in
theorem wown_ok (w : World) (A B : Option Addr) (ka kb : Nat) (a b : List UInt8) (hA : Rd w (· < w.heap.size) A a) (hB : Rd w (· < w.heap.size) B b) (hka : a.length ≤ ka) (hkb : b.length ≤ kb) (ha1 : 1 ≤ a.length) (ha2 : a.length ≤ 200) (hb1 : 1 ≤ b.length) (hb2 : b.length ≤ 200) :
    Calls Try.prog 7 #[.slice A a.length ka, .slice B b.length kb] w fun e w' => e = .returned (.bool true) ∧ Below w.heap.size w w' := by
  obtain ⟨aA, rfl, _⟩ := hA (by omega)
  obtain ⟨bA, rfl, _⟩ := hB (by omega)
  obtain ⟨n, hnn⟩ : ∃ n, n = a.length := ⟨_, rfl⟩
  obtain ⟨m, hm⟩ : ∃ m, m = b.length := ⟨_, rfl⟩
  have HN := Lib.hid hnn
  have HM := Lib.hid hm
  have HA := Lib.hid hA
  have HB := Lib.hid hB
  have HKA := Lib.hid hka
  have HKB := Lib.hid hkb
  have HL := Lib.hid (⟨ha1, ha2, hb1, hb2⟩ : 1 ≤ a.length ∧ a.length ≤ 200 ∧ 1 ≤ b.length ∧ b.length ≤ 200)
  have x1 : ¬ (n : Int) < 1 := by omega
  have x2 : ¬ (200 : Int) < n := by omega
  have x3 : ¬ (m : Int) < 1 := by omega
  have x4 : ¬ (200 : Int) < m := by omega
  rw [← hnn, ← hm]
  clear hA hB hka hkb ha1 ha2 hb1 hb2 hnn hm
  go_enter Try.func7, Try.ntmps7
  go_wp2_with fail
  with_reducible refine (anchor_any w).mono ?_
  rintro e w1 ⟨rfl, hb1⟩
  have HB1 := Lib.hid hb1
  clear hb1
  go_wp2_with fail
  refine (new_ok w1 2048 (by omega) (by omega)).mono ?_
  rintro e w2 ⟨rfl, h2, hb2, hz2⟩
  obtain ⟨d, hd⟩ : ∃ d, d = w1.heap.size + 1 := ⟨_, rfl⟩
  obtain ⟨g0, hg0⟩ : ∃ g0, g0 = w1.heap.size := ⟨_, rfl⟩
  rw [← hg0, show g0 + 1 = d by omega] at h2
  have H2 := Lib.hid h2
  have HB2 := Lib.hid (HB1.out.trans (hb2.mono HB1.out.size))
  have HDG : Hid (w.heap.size ≤ d ∧ w.heap.size ≤ g0 ∧ d < w2.heap.size ∧ g0 < w2.heap.size) := Lib.hid (by have := HB1.out.size; omega)
  rw [← hd]
  clear h2 hb2 hz2 hd hg0
  go_wp2_with fail
  refine (open_new w2 d g0 2048 H2.out (by omega) (by omega)).mono ?_
  rintro e w3 ⟨lb, s, rfl, hlb, hb3, hset, hw3⟩
  have HLB : Hid (w.heap.size ≤ w2.heap.size ∧ w2.heap.size ≤ lb ∧ lb < w3.heap.size) := Lib.hid ⟨HB2.out.size, hlb, hw3.sys.log.lt⟩
  have HW3 := Lib.hid hw3
  have HSET := Lib.hid hset
  have HB3 := Lib.hid (HB2.out.trans (hb3.below HB2.out.size HDG.out.1 HDG.out.2.1))
  clear hlb hb3 hset hw3 H2
  have HO0 := Lib.hid (own8_empty w3)
  have HRA := Lib.hid (HA.out.below (HB3.out.alloc HB3.out.size (.cells #[] 5)) (fun k h => h))
  go_wp2_with (first
    | (at_builtin; refine wpList_append_own8 rfl (.tmp 44) (.tmp 45) rfl w3.heap.size (.slice (some ⟨w3.heap.size, 0, none⟩) 0 0) [] rfl HO0.out (some aA) ka a (show Value.slice (some aA) n ka = .slice (some aA) a.length ka by rw [HN.out]) (fun h => by cases h) (· < w.heap.size) HRA.out (by have := HL.out; simp; omega) (by simp) ?_; intro v4 w4 hO1 hg4; rw [List.nil_append] at hO1; have HO4 := Lib.hid hO1; have HB4 : Hid (Below w3.heap.size w3 w4) := Lib.hid (((Below.refl w3.heap.size w3).alloc (Nat.le_refl _) (.cells #[] 5)).grown hg4 (by simp) (fun j hj => by have hj2 : some w3.heap.size = some j := hj; injection hj2 with hj2; omega)); clear hO1 hg4; obtain ⟨p, cp, rfl, hcp, hp1, hp2, hp3, hp4⟩ := HO4.out.at' HL.out.1; rw [← HN.out]; have HRP := Lib.hid hp3; have HFP := Lib.hid hp4; have HP : Hid (a.length ≤ cp ∧ w3.heap.size ≤ p ∧ p < w4.heap.size) := Lib.hid ⟨hcp, hp1, hp2⟩; clear hcp hp1 hp2 hp3 hp4; have HO5 := Lib.hid (own8_empty w4); have HRB := Lib.hid (HB.out.below ((HB3.out.trans (HB4.out.mono HB3.out.size)).alloc (Nat.le_trans HB3.out.size HB4.out.size) (.cells #[] 5)) (fun k h => h)))
    | (at_builtin; refine wpList_append_own8 rfl (.tmp 47) (.tmp 48) rfl w4.heap.size (.slice (some ⟨w4.heap.size, 0, none⟩) 0 0) [] rfl HO5.out (some bA) kb b (show Value.slice (some bA) m kb = .slice (some bA) b.length kb by rw [HM.out]) (fun h => by cases h) (· < w.heap.size) HRB.out (by have := HL.out; simp; omega) (by simp) ?_; intro v5 w5 hO1 hg5; rw [List.nil_append] at hO1; have HO6 := Lib.hid hO1; have HB5 : Hid (Below w4.heap.size w4 w5) := Lib.hid (((Below.refl w4.heap.size w4).alloc (Nat.le_refl _) (.cells #[] 5)).grown hg5 (by simp) (fun j hj => by have hj2 : some w4.heap.size = some j := hj; injection hj2 with hj2; omega)); clear hO1 hg5; obtain ⟨q, cq, rfl, hcq, hq1, hq2, hq3, hq4⟩ := HO6.out.at' HL.out.2.2.1; rw [← HM.out]; have HQ : Hid (b.length ≤ cq ∧ w4.heap.size ≤ q ∧ q < w5.heap.size) := Lib.hid ⟨hcq, hq1, hq2⟩; have HRQ := Lib.hid hq3; have HFQ := Lib.hid hq4; clear hcq hq1 hq2 hq3 hq4))
  have HW5 := Lib.hid (HW3.out.old (HB4.out.trans (HB5.out.mono HB4.out.size)))
  have HB05 : Hid (Below w.heap.size w w5) := Lib.hid (HB3.out.trans ((HB4.out.trans (HB5.out.mono HB4.out.size)).mono HB3.out.size))
  have HRP5 := Lib.hid (HRP.out.old HB5.out)
  have HFP5 : Hid (∀ j, w5.frozen? ⟨p, j, none⟩ = false) := Lib.hid (fun j => fz_old (HFP.out j) HB5.out HP.out.2.2)
  have HSZ : Hid (w2.heap.size ≤ w3.heap.size ∧ w3.heap.size ≤ w4.heap.size ∧ w4.heap.size ≤ w5.heap.size) := Lib.hid ⟨by have := HLB.out; omega, HB4.out.size, HB5.out.size⟩
  clear HO0 HRA HO4 HO5 HRB HO6 HW3 HB4 HB5 HRP HFP HB3
  have happ := append_calm w5 d g0 lb (fun k => w2.heap.size ≤ k ∧ k < lb) s _ 2 2048 HW5.out HSET.out (by omega) (by omega) (· = p) (some ⟨p, 0, none⟩) cp a HRP5.out (fun k hk => by
    have hk' : k = p := hk
    have := HDG.out
    have := HLB.out
    have := HP.out
    exact ⟨by omega, by omega, by omega, fun e => by have := e.2; omega⟩) HP.out.1 HL.out.1 (by have := HL.out; omega) (by have := HL.out; show 16 + (9 + a.length) ≤ 2048 / 2; omega)
  rw [← HN.out] at happ
  have HApp := Lib.hid happ
  clear happ
  with_reducible refine HApp.out.mono ?_
  rintro e w6 ⟨s6, S6, rfl, hk6, hS6, hset6, hw6⟩
  have HSET6 := Lib.hid hset6
  have HW6 := Lib.hid hw6
  have HS6 : Hid (∀ k, S6 k → (w2.heap.size ≤ k ∧ k < lb) ∨ w5.heap.size ≤ k) := Lib.hid (fun k hk => by
    rcases hS6 k hk with h9 | h9
    · exact .inl h9
    · exact .inr h9.1)
  have HK6 : Hid (Kp (fun k => k = d ∨ k = g0 ∨ k = lb ∨ (w2.heap.size ≤ k ∧ k < lb)) w5 w6) := Lib.hid hk6
  have HB6 : Hid (Below w.heap.size w w6) := Lib.hid (HB05.out.trans (hk6.below HB05.out.size (fun k e => by have := HDG.out; have := HLB.out; omega)))
  have hfar : ∀ k, w3.heap.size ≤ k → ¬ (k = d ∨ k = g0 ∨ k = lb ∨ (w2.heap.size ≤ k ∧ k < lb)) := fun k hk e => by have := HDG.out; have := HLB.out; have := HSZ.out; omega
  have HRP6 : Hid (Rd w6 (· = p) (some ⟨p, 0, none⟩) a) := Lib.hid (fun hl => by
    obtain ⟨ad, e, a1, a2, a3⟩ := HRP5.out hl
    have a1' : ad.block = p := a1
    exact ⟨ad, e, a1, Nat.lt_of_lt_of_le a2 hk6.size, fun j u hu => by rw [← a3 j u hu]; exact World.cell?_of_block (by rw [block_add]; exact hk6.block _ a2 (hfar _ (by rw [a1']; exact HP.out.2.1)))⟩)
  have HRQ6 : Hid (Rd w6 (· = q) (some ⟨q, 0, none⟩) b) := Lib.hid (fun hl => by
    obtain ⟨ad, e, a1, a2, a3⟩ := HRQ.out hl
    have a1' : ad.block = q := a1
    exact ⟨ad, e, a1, Nat.lt_of_lt_of_le a2 hk6.size, fun j u hu => by rw [← a3 j u hu]; exact World.cell?_of_block (by rw [block_add]; exact hk6.block _ a2 (hfar _ (by rw [a1']; have := HQ.out; have := HSZ.out; omega)))⟩)
  have HFP6 : Hid (∀ j, w6.frozen? ⟨p, j, none⟩ = false) := Lib.hid (fun j => by
    rw [← HFP5.out j]
    exact World.frozen?_of_block (hk6.block p (by have := HP.out; have := HSZ.out; omega) (hfar p HP.out.2.1)))
  have HFQ6 : Hid (∀ j, w6.frozen? ⟨q, j, none⟩ = false) := Lib.hid (fun j => by
    rw [← HFQ.out j]
    exact World.frozen?_of_block (hk6.block q HQ.out.2.2 (hfar q (by have := HQ.out; have := HSZ.out; omega))))
  clear hk6 hS6 hset6 hw6 HApp HW5 hfar HRP5 HFP5 HRQ HFQ
  have hA7 : Below w6.heap.size w6 (w6.alloc (.cells #[.slice (some ⟨p, 0, none⟩) n cp, .slice (some ⟨q, 0, none⟩) m cq] 33)) := (Below.refl _ _).alloc (Nat.le_refl _) _
  have hK7 : Blk (w6.alloc (.cells #[.slice (some ⟨p, 0, none⟩) n cp, .slice (some ⟨q, 0, none⟩) m cq] 33)) w6.heap.size 33 [.slice (some ⟨p, 0, none⟩) n cp, .slice (some ⟨q, 0, none⟩) m cq] := Blk.new w6 _ _ _ rfl
  have HL7 : Hid (RdL (w6.alloc (.cells #[.slice (some ⟨p, 0, none⟩) n cp, .slice (some ⟨q, 0, none⟩) m cq] 33)) (fun k => k = w6.heap.size ∨ k = p ∨ k = q) (some ⟨w6.heap.size, 0, none⟩) [a, b]) := Lib.hid (fun i x hi => by
    rcases i with _ | _ | i
    · simp at hi
      subst hi
      exact ⟨_, some ⟨p, 0, none⟩, cp, rfl, .inl rfl, by simp, by rw [Addr.add_mid, Nat.zero_add, hK7.cell, HN.out]; rfl, HP.out.1, (HRP6.out.old hA7).more (fun k hk => .inr (.inl hk))⟩
    · simp at hi
      subst hi
      exact ⟨_, some ⟨q, 0, none⟩, cq, rfl, .inl rfl, by simp, by rw [Addr.add_mid, Nat.zero_add, hK7.cell, HM.out]; rfl, HQ.out.1, (HRQ6.out.old hA7).more (fun k hk => .inr (.inr hk))⟩
    · simp at hi)
  have HZ6 : Hid (w5.heap.size ≤ w6.heap.size) := Lib.hid HK6.out.size
  have hanew := anew_calm _ d g0 lb S6 s6 _ 4 2048 (HW6.out.old hA7) HSET6.out (by omega) (by omega) _ (some ⟨w6.heap.size, 0, none⟩) 2 [a, b] HL7.out (by have := HP.out; have := HQ.out; have := HLB.out; have := HSZ.out; have := HZ6.out; omega) (by simp) (fun x hx => by
    have := HL.out
    simp at hx
    rcases hx with rfl | rfl
    · exact ⟨by omega, by omega⟩
    · exact ⟨by omega, by omega⟩) (by have := HL.out; show 16 + tot [a, b] ≤ 2048 / 2; simp only [tot]; omega) (by show (1 : Nat) ≠ 2147483647; decide)
  rw [show ([a, b] : List (List UInt8)).length = 2 from rfl] at hanew
  have HAnew := Lib.hid hanew
  have HA7 := Lib.hid hA7
  clear hanew hA7 hK7
  go_wp2_with fail
  with_reducible refine HAnew.out.mono ?_
  rintro e w8 ⟨s8, S8, rfl, hk8, hS8, hset8, hw8⟩
  have HSET8 := Lib.hid hset8
  have HW8 := Lib.hid hw8
  have hne : ∀ k, (k = p ∨ k = q) → k < w6.heap.size ∧ w3.heap.size ≤ k ∧ ¬ S6 k := fun k hk => by
    have h1 := HP.out
    have h2 := HQ.out
    have h3 := HSZ.out
    have h4 := HZ6.out
    have h5 := HLB.out
    refine ⟨by omega, by omega, fun e => ?_⟩
    rcases HS6.out k e with e | e <;> omega
  have HNE := Lib.hid hne
  have HB8 : Hid (Below w.heap.size w w8) := Lib.hid ((HB6.out.trans (HA7.out.mono HB6.out.size)).trans (hk8.below (by have := HB6.out.size; simp; omega) (fun k e => by
    have h1 := HDG.out
    have h5 := HLB.out
    rcases e with e | e | e | e
    · omega
    · omega
    · omega
    · rcases HS6.out k e with e | e
      · omega
      · have := HB05.out.size; omega)))
  have hk68 : ∀ k, (k = p ∨ k = q) → w8.heap[k]? = w6.heap[k]? := fun k hk => by
    obtain ⟨h1, h2, h3⟩ := HNE.out k hk
    refine (hk8.block k (by simp; omega) (fun e => ?_)).trans (HA7.out.block k h1)
    have h1 := HDG.out
    have h5 := HLB.out
    have h6 := HSZ.out
    rcases e with e | e | e | e
    · omega
    · omega
    · omega
    · exact h3 e
  have hS8' : ∀ k, (k = p ∨ k = q) → ¬ S8 k := fun k hk e => by
    obtain ⟨h1, h2, h3⟩ := HNE.out k hk
    rcases hS8 k e with e | e
    · exact h3 e
    · have := e.1; simp at this; omega
  have HS8 := Lib.hid hS8'
  have hlt8 : p < w8.heap.size ∧ q < w8.heap.size := by
    have h1 := (HNE.out p (.inl rfl)).1
    have h2 := (HNE.out q (.inr rfl)).1
    have h3 := hk8.size
    simp at h3
    omega
  have HLT8 := Lib.hid hlt8
  obtain ⟨ua, hua⟩ : ∃ ua : UInt8, a[0]? = some ua := ⟨_, List.getElem?_eq_getElem (by have := HL.out; omega)⟩
  obtain ⟨ub, hub⟩ : ∃ ub : UInt8, b[0]? = some ub := ⟨_, List.getElem?_eq_getElem (by have := HL.out; omega)⟩
  have cp0 : w8.cell? ⟨p, 0, none⟩ = some (.int .u8 ((ua.toNat : Nat) : Int)) := by
    rw [World.cell?_of_block (w := w6) (hk68 p (.inl rfl))]
    obtain ⟨ad, e, _, _, a3⟩ := HRP6.out (by have := HL.out; omega)
    injection e with e
    subst e
    have := a3 0 (.int .u8 ((ua.toNat : Nat) : Int)) (by simp [bc, Lib.byteCells, hua])
    simpa [Addr.add] using this
  have cq0 : w8.cell? ⟨q, 0, none⟩ = some (.int .u8 ((ub.toNat : Nat) : Int)) := by
    rw [World.cell?_of_block (w := w6) (hk68 q (.inr rfl))]
    obtain ⟨ad, e, _, _, a3⟩ := HRQ6.out (by have := HL.out; omega)
    injection e with e
    subst e
    have := a3 0 (.int .u8 ((ub.toNat : Nat) : Int)) (by simp [bc, Lib.byteCells, hub])
    simpa [Addr.add] using this
  have fp0 : w8.frozen? ⟨p, 0, none⟩ = false := by rw [← HFP6.out 0]; exact World.frozen?_of_block (hk68 p (.inl rfl))
  have fq0 : w8.frozen? ⟨q, 0, none⟩ = false := by rw [← HFQ6.out 0]; exact World.frozen?_of_block (hk68 q (.inr rfl))
  have npq : ¬ p = q := by have := HP.out; have := HQ.out; omega
  have nqp : ¬ q = p := fun e => npq e.symm
  have l1 : (0 : Int) < n := by omega
  have l2 : (0 : Int) < m := by omega
  clear hk8 hS8 hset8 hw8 hne hk68 hS8' hlt8 hua hub HAnew HL7 HW6 HSET6 HRP6 HRQ6 HFP6 HFQ6 HA7
  go_wp2
  go_region
  obtain ⟨va, hva⟩ := not_byte ua
  obtain ⟨vb, hvb⟩ := not_byte ub
  have hkp : Kp (fun k => k = p ∨ k = q) w8 (((w8.setCell ⟨p, 0, none⟩ (.int .u8 (bits .xor .u8 (if IntKind.u8.signed = true then -1 else IntKind.u8.max) (ua.toNat : Int)))).setCell ⟨q, 0, none⟩ (.int .u8 (bits .xor .u8 (if IntKind.u8.signed = true then -1 else IntKind.u8.max) (ub.toNat : Int)))).drew) := (((Kp.refl (fun k => k = p ∨ k = q) w8).put p 0 _ (.inl rfl)).put q 0 _ (.inr rfl)).drew
  generalize ((w8.setCell ⟨p, 0, none⟩ (.int .u8 (bits .xor .u8 (if IntKind.u8.signed = true then -1 else IntKind.u8.max) (ua.toNat : Int)))).setCell ⟨q, 0, none⟩ (.int .u8 (bits .xor .u8 (if IntKind.u8.signed = true then -1 else IntKind.u8.max) (ub.toNat : Int)))).drew = w9 at *
  have hfar : ∀ k, (k = p ∨ k = q) → ¬ (k = d ∨ k = g0 ∨ k = lb ∨ S8 k) := fun k hk e => by
    obtain ⟨h1, h2, h3⟩ := HNE.out k hk
    have h4 := HDG.out
    have h5 := HLB.out
    have h6 := HSZ.out
    rcases e with e | e | e | e
    · omega
    · omega
    · omega
    · exact HS8.out k hk e
  have hw9 := HW8.out.keep (w' := w9) (fun k hk hl => hkp.block k hl (fun e => hfar k e hk)) hkp.size
  have HW9 : Hid (Well w9 d g0 lb (fun k => S8 k ∧ k < w9.heap.size) _ _ _ _) := Lib.hid ⟨hw9.sys.tight, hw9.ok, hw9.len, hw9.sz, hw9.up, hw9.was, hw9.wk, hw9.bl⟩
  clear hw9
  have HB9 : Hid (Below w.heap.size w w9) := Lib.hid (HB8.out.trans (hkp.below HB8.out.size (fun k e => by have := (HNE.out k e).2.1; have := HSZ.out; have := HLB.out; omega)))
  clear hkp hfar cp0 cq0 fp0 fq0 npq nqp hva hvb HW8 HB8
  have hrec := records_log HW9.out (by omega)
  rw [show ((((⟨2048 / 2, false, 0, 1, [], 16⟩ : Lc).plus a).fresh [a, b]).rs) = [a, b] from rfl, show ([a, b] : List (List UInt8)).length = 2 from rfl] at hrec
  have HRec := Lib.hid hrec
  clear hrec
  go_wp2_with fail
  with_reducible refine HRec.out.mono ?_
  rintro e w10 ⟨r, rfl, hrl, hw10, hk10⟩
  have HW10 := Lib.hid hw10
  have HB10 : Hid (Below w.heap.size w w10) := Lib.hid (HB9.out.trans (hk10.below HB9.out.size (fun k e => by have := HLB.out; omega)))
  have HLd : Hid (d < w9.heap.size ∧ g0 < w9.heap.size ∧ lb < w9.heap.size) := Lib.hid ⟨HW9.out.sys.dsk.blk.lt, HW9.out.sys.dsk.row.lt, HW9.out.sys.log.lt⟩
  have HZ10 : Hid (w9.heap.size ≤ w10.heap.size ∧ w9.heap.size ≤ r ∧ w.heap.size ≤ w9.heap.size) := Lib.hid ⟨hk10.size, hrl.1, HB9.out.size⟩
  have HI : Hid (TurnInv w9.heap.size r [n, m] w10 w10) := Lib.hid ⟨fun i hi => by
    obtain ⟨h1, h2, h3⟩ := hrl
    rcases i with _ | _ | i
    · obtain ⟨p', c', e1, e2, e3, e4, e5, e6, e7⟩ := h3 0 a rfl
      obtain ⟨ad, e, a1, a2, a3⟩ := e5 (by omega)
      injection e with e
      subst e
      obtain ⟨u, hu⟩ : ∃ u : UInt8, a[0]? = some u := ⟨_, List.getElem?_eq_getElem (by omega)⟩
      have := a3 0 (.int .u8 ((u.toNat : Nat) : Int)) (by simp [bc, Lib.byteCells, hu])
      rw [← HN.out] at e1 e2 e7
      exact ⟨p', c', e1, e7, e2, e3, e4, a2, ⟨u, by simpa [Addr.add] using this⟩, e6 0⟩
    · obtain ⟨p', c', e1, e2, e3, e4, e5, e6, e7⟩ := h3 1 b rfl
      obtain ⟨ad, e, a1, a2, a3⟩ := e5 (by omega)
      injection e with e
      subst e
      obtain ⟨u, hu⟩ : ∃ u : UInt8, b[0]? = some u := ⟨_, List.getElem?_eq_getElem (by omega)⟩
      have := a3 0 (.int .u8 ((u.toNat : Nat) : Int)) (by simp [bc, Lib.byteCells, hu])
      rw [← HM.out] at e1 e2 e7
      exact ⟨p', c', e1, e7, e2, e3, e4, a2, ⟨u, by simpa [Addr.add] using this⟩, e6 0⟩
    · simp at hi; omega, Below.refl _ _⟩
  have HLs : Hid (([n, m] : List Nat).length = 2) := Lib.hid rfl
  generalize ([n, m] : List Nat) = ls at *
  clear hrl hw10 hk10 HRec HB9
  go_wp2
  go_loopw [77] (fun i wr => ∃ k : Nat, k ≤ 2 ∧ i = .int .i64 (k : Int) ∧ TurnInv w9.heap.size r ls w10 wr) (fun i _ => 2 - (intOf i).toNat)
  case atStart => exact ⟨0, by omega, rfl, HI.out⟩
  case round =>
    obtain ⟨j, hj, rfl, hinv⟩ := hrel
    clear HI
    have HI := Lib.hid hinv
    clear hinv
    by_cases hlt : j < 2
    · obtain ⟨p', c', e1, e2, e3, e4, e5, e6, ⟨v, e7⟩, e8⟩ := HI.out.at' j (by rw [HLs.out]; exact hlt)
      obtain ⟨l, hl⟩ : ∃ l, l = ls.getD j 0 := ⟨_, rfl⟩
      rw [← hl] at e1 e2 e3
      have l0 : (0 : Int) < l := by omega
      have j2 : (j : Int) < 2 := by omega
      have HLT := Lib.hid hlt
      have HE := Lib.hid (⟨e4, e5, e6⟩ : w9.heap.size ≤ p' ∧ p' ≠ r ∧ p' < wr.heap.size)
      have H7 := Lib.hid e7
      clear e2 e3 e4 e5 e6 hl hlt
      go_wp2
      obtain ⟨v', hv'⟩ := not_byte v
      go_roundw
      case rel =>
        have hj2 := HLT.out
        refine ⟨j + 1, by omega, by go_num, ⟨fun i hi => ?_, HI.out.bel.trans (((Kp.refl (fun k => k = p') wr).put p' 0 _ rfl).below (B := w9.heap.size) (Nat.le_trans HZ10.out.1 HI.out.bel.size) (fun k e => by have := HE.out.1; omega))⟩⟩
        obtain ⟨p2, c2, f1, f2, f3, f4, f5, f6, ⟨v2, f7⟩, f8⟩ := HI.out.at' i hi
        refine ⟨p2, c2, ?_, f2, f3, f4, f5, by simpa [World.setCell] using f6, ?_, by rw [World.frozen?_setCell]; exact f8⟩
        · rw [cell_put_far HE.out.2.1.symm]; exact f1
        · by_cases hp2 : p2 = p'
          · subst hp2
            refine ⟨v', ?_⟩
            rw [cell_put_self H7.out, show bits .xor .u8 IntKind.u8.max (v.toNat : Int) = ((v'.toNat : Nat) : Int) from hv']
          · refine ⟨v2, ?_⟩
            rw [cell_put_far hp2]; exact f7
      case measure => have := HLT.out; simp [intOf]; omega
    · obtain rfl : j = 2 := by omega
      have HW11 := Lib.hid (HW10.out.keep (w' := wr) (fun k hk hl => HI.out.bel.block k (by
        have := HLd.out
        rcases hk with hk | hk | hk | hk
        · omega
        · omega
        · omega
        · exact hk.2)) HI.out.bel.size)
      have HB11 : Hid (Below w.heap.size w wr) := Lib.hid (HB10.out.trans (HI.out.bel.mono HZ10.out.2.2))
      have hrec := records_log HW11.out (by omega)
      rw [show ((((⟨2048 / 2, false, 0, 1, [], 16⟩ : Lc).plus a).fresh [a, b]).rs) = [a, b] from rfl, show ([a, b] : List (List UInt8)).length = 2 from rfl] at hrec
      have HRec := Lib.hid hrec
      clear hrec hlt hj
      go_wp2_with fail
      with_reducible refine HRec.out.mono ?_
      rintro e w12 ⟨r2, rfl, hrl, hw12, hk12⟩
      have HW12 := Lib.hid hw12
      have HRL := Lib.hid hrl.rdl
      have HB12 : Hid (Below w.heap.size w w12) := Lib.hid (HB11.out.trans (hk12.below HB11.out.size (fun k e => by have := HLB.out; omega)))
      have hA13 : Below w12.heap.size w12 (w12.alloc (.cells #[.slice (some aA) n ka, .slice (some bA) m kb] 33)) := (Below.refl _ _).alloc (Nat.le_refl _) _
      have hK13 : Blk (w12.alloc (.cells #[.slice (some aA) n ka, .slice (some bA) m kb] 33)) w12.heap.size 33 [.slice (some aA) n ka, .slice (some bA) m kb] := Blk.new w12 _ _ _ rfl
      have hbA : Below w.heap.size w (w12.alloc (.cells #[.slice (some aA) n ka, .slice (some bA) m kb] 33)) := HB12.out.alloc HB12.out.size _
      have HL13 : Hid (RdL (w12.alloc (.cells #[.slice (some aA) n ka, .slice (some bA) m kb] 33)) (fun _ => True) (some ⟨w12.heap.size, 0, none⟩) [a, b]) := Lib.hid (fun i x hi => by
        rcases i with _ | _ | i
        · simp at hi
          subst hi
          exact ⟨_, some aA, ka, rfl, trivial, by simp, by rw [Addr.add_mid, Nat.zero_add, hK13.cell, HN.out]; rfl, HKA.out, (HA.out.below hbA (fun k h => h)).more (fun _ _ => trivial)⟩
        · simp at hi
          subst hi
          exact ⟨_, some bA, kb, rfl, trivial, by simp, by rw [Addr.add_mid, Nat.zero_add, hK13.cell, HM.out]; rfl, HKB.out, (HB.out.below hbA (fun k h => h)).more (fun _ _ => trivial)⟩
        · simp at hi)
      have hsm := same_any _ _ _ (some ⟨r2, 0, none⟩) (some ⟨w12.heap.size, 0, none⟩) 2 2 [a, b] [a, b] (HRL.out.old hA13) HL13.out (by simp)
      rw [show ([a, b] : List (List UInt8)).length = 2 from rfl, decide_eq_true rfl] at hsm
      have HSm := Lib.hid hsm
      have HA13 := Lib.hid hA13
      have HBA := Lib.hid hbA
      have HW13 := Lib.hid (HW12.out.old hA13)
      clear hsm hA13 hbA hK13 hrl hw12 hk12 HL13
      go_wp2_with fail
      with_reducible refine HSm.out.mono ?_
      rintro e w14 ⟨rfl, hb14⟩
      have HGen := Lib.hid (gen_log (HW13.out.old hb14))
      have HB14 := Lib.hid (HBA.out.trans (hb14.mono HBA.out.size))
      clear hb14
      rw [show ((((⟨2048 / 2, false, 0, 1, [], 16⟩ : Lc).plus a).fresh [a, b]).g : Int) = 2 from rfl] at HGen
      go_wp2_with fail
      with_reducible refine HGen.out.mono ?_
      rintro e w15 ⟨rfl, _, hk15⟩
      have HK15 := Lib.hid hk15
      clear hk15
      go_wp2
      go_ret
      exact ⟨rfl, HB14.out.trans (HK15.out.below HB14.out.size (fun k e => by have := HLB.out; omega))⟩
theorem wown_any (w : World) (A B : Option Addr) (ka kb : Nat) (a b : List UInt8) (hA : Rd w (· < w.heap.size) A a) (hB : Rd w (· < w.heap.size) B b) (hka : a.length ≤ ka) (hkb : b.length ≤ kb) :
    Calls Try.prog 7 #[.slice A a.length ka, .slice B b.length kb] w fun e w' => e = .returned (.bool true) ∧ Below w.heap.size w w' := by
  by_cases h : a.length < 1 ∨ 200 < a.length ∨ b.length < 1 ∨ 200 < b.length
  · exact wown_none w A B _ _ ka kb h
  · exact wown_ok w A B ka kb a b hA hB hka hkb (by omega) (by omega) (by omega) (by omega)
end Go.Proofs.Ytaoaegkfejlgkaa.Dsk
