/-
  The document's Same of layer 8: two lists are the same just if they are one list.
-/
import Derived.Test.YtaoaegkfejlgkaaR2
namespace Go.Proofs.Ytaoaegkfejlgkaa.Dsk
open Go.RowKit
/-- A list of texts in memory. -/
def RdL (w : World) (S : Nat → Prop) (A : Option Addr) (rs : List (List UInt8)) : Prop :=
  ∀ (i : Nat) x, rs[i]? = some x → ∃ ad B c, A = some ad ∧ S ad.block ∧ ad.block < w.heap.size ∧ w.cell? (ad.add i) = some (.slice B x.length c) ∧ x.length ≤ c ∧ Rd w S B x
theorem RdL.keep {w w' : World} {S : Nat → Prop} {A : Option Addr} {rs : List (List UInt8)} (h : RdL w S A rs) (hk : ∀ k, S k → k < w.heap.size → w'.heap[k]? = w.heap[k]?) (hz : w.heap.size ≤ w'.heap.size) : RdL w' S A rs := fun i x hi => by
  obtain ⟨ad, B, c, h1, h2, h3, h4, h5, h6⟩ := h i x hi
  refine ⟨ad, B, c, h1, h2, Nat.lt_of_lt_of_le h3 hz, ?_, h5, fun hl => ?_⟩
  · rw [← h4]
    exact World.cell?_of_block (by rw [block_add]; exact hk _ h2 h3)
  · obtain ⟨ad', e, a1, a2, a3⟩ := h6 hl
    refine ⟨ad', e, a1, Nat.lt_of_lt_of_le a2 hz, fun j u hu => ?_⟩
    rw [← a3 j u hu]
    exact World.cell?_of_block (by rw [block_add]; exact hk _ a1 a2)
theorem RdL.old {w w' : World} {S : Nat → Prop} {A : Option Addr} {rs : List (List UInt8)} (h : RdL w S A rs) (hb : Below w.heap.size w w') : RdL w' S A rs := h.keep (fun k _ hk => hb.block k hk) hb.size
theorem RdL.more {w : World} {S S' : Nat → Prop} {A : Option Addr} {rs : List (List UInt8)} (h : RdL w S A rs) (hS : ∀ k, S k → S' k) : RdL w S' A rs := fun i x hi => by
  obtain ⟨ad, B, c, h1, h2, h3, h4, h5, h6⟩ := h i x hi
  exact ⟨ad, B, c, h1, hS _ h2, h3, h4, h5, h6.more hS⟩
theorem Recs.rdl {w : World} {S : Nat → Prop} {A : Option Addr} {n k : Nat} {rs : List (List UInt8)} (h : Recs w S (.slice A n k) rs) : RdL w S A rs := fun i x hi => by
  obtain ⟨r, q, c, h1, h2, h3, h4, _, _, h5, h6, h7⟩ := h.at' hi
  exact ⟨⟨r, 0, none⟩, _, c, h1, h2, h3, h4, h5, h7.more (fun k hk => by have : k = q := hk; exact this ▸ h6)⟩
theorem RL.rdl {w : World} {S : Nat → Prop} {r : Nat} {rs : List (List UInt8)} (h : RL w S r rs) : RdL w S (some ⟨r, 0, none⟩) rs := fun i x hi => by
  obtain ⟨h1, h2, h3⟩ := h
  obtain ⟨p, c, a1, a2, a3, a4, a5, _⟩ := h3 i x hi
  exact ⟨⟨r, 0, none⟩, _, c, rfl, h1, h2, by rw [Addr.add_mid, Nat.zero_add]; exact a1, a2, a5.more (fun k hk => by have : k = p := hk; exact this ▸ a3)⟩
theorem mk_ne {a b : List UInt8} (h : a ≠ b) : ((mk a).toList == (mk b).toList) = false := by
  rw [mk_toList, mk_toList, beq_eq_false_iff_ne]
  exact h
set_option maxRecDepth 100000
set_option maxHeartbeats 4000000 in
theorem same_any (w : World) (S S' : Nat → Prop) (A B : Option Addr) (ca cb : Nat) (la lb : List (List UInt8)) (ha : RdL w S A la) (hb : RdL w S' B lb) (hla : la.length ≤ 1000000) :
    Calls Try.prog 15 #[.slice A la.length ca, .slice B lb.length cb] w fun e w' => e = .returned (.bool (decide (la = lb))) ∧ Below w.heap.size w w' := by
  by_cases hl : la.length = lb.length
  · have HA := Lib.hid ha
    have HB := Lib.hid hb
    have HL := Lib.hid hl
    have HLa := Lib.hid hla
    rw [← hl]
    obtain ⟨n, hn⟩ : ∃ n, n = la.length := ⟨_, rfl⟩
    have HN := Lib.hid hn
    rw [← hn]
    clear ha hb hl hla hn
    go_enter Try.func15, Try.ntmps15
    go_wp2
    go_loopw [5] (fun i wr => ∃ k : Nat, k ≤ n ∧ i = .int .i64 (k : Int) ∧ la.take k = lb.take k ∧ Below w.heap.size w wr) (fun i _ => n - (intOf i).toNat)
    case atStart => exact ⟨0, Nat.zero_le _, rfl, rfl, Below.refl _ _⟩
    case round =>
      obtain ⟨k, hk, rfl, heq, hbel⟩ := hrel
      have HE := Lib.hid heq
      have HBl := Lib.hid hbel
      clear heq hbel
      by_cases hlt : k < n
      · obtain ⟨x, hx⟩ : ∃ x, la[k]? = some x := ⟨_, List.getElem?_eq_getElem (by have := HN.out; omega)⟩
        obtain ⟨y, hy⟩ : ∃ y, lb[k]? = some y := ⟨_, List.getElem?_eq_getElem (by have := HN.out; have := HL.out; omega)⟩
        obtain ⟨ad, Ax, cx, rfl, _, hax, hcx, _, hrx⟩ := HA.out k x hx
        obtain ⟨bd, By, cy, rfl, _, hby, hcy, _, hry⟩ := HB.out k y hy
        have h1 : wr.cell? (ad.add k) = some (.slice Ax x.length cx) := (HBl.out.cell (by rw [block_add]; exact hax)).trans hcx
        have h2 : wr.cell? (bd.add k) = some (.slice By y.length cy) := (HBl.out.cell (by rw [block_add]; exact hby)).trans hcy
        have cv1 := fun j => conv_rd (w := wr.drewN j) x.length cx ((hrx.old HBl.out).old (below_drewN (Below.refl _ _) j)) rfl
        have cv2 := fun j => conv_rd (w := wr.drewN j) y.length cy ((hry.old HBl.out).old (below_drewN (Below.refl _ _) j)) rfl
        have hn1 := HLa.out
        rw [← HN.out] at hn1
        obtain ⟨nx, hnx⟩ : ∃ nx, nx = x.length := ⟨_, rfl⟩
        obtain ⟨ny, hny⟩ : ∃ ny, ny = y.length := ⟨_, rfl⟩
        rw [← hnx] at h1 cv1
        rw [← hny] at h2 cv2
        have HX := Lib.hid hx
        have HY := Lib.hid hy
        clear hx hy hax hby hcx hcy hrx hry hnx hny
        by_cases hxy : x = y
        · have HXY := Lib.hid hxy
          rw [hxy] at cv1
          clear hxy
          go_wp2
          go_quiet (fail)
          go_wp2
          go_roundw
          case rel =>
            refine ⟨k + 1, by omega, by go_num, ?_, below_drewN HBl.out _⟩
            rw [List.take_add_one, List.take_add_one, HE.out, HX.out, HY.out, HXY.out]
          case measure => simp [intOf]; omega
        · have HXY := Lib.hid hxy
          have hne := mk_ne hxy
          have hf : decide (la = lb) = false := by
            simp only [decide_eq_false_iff_not]
            rintro rfl
            have := HX.out.symm.trans HY.out
            injection this with this
            exact hxy this
          have HF := Lib.hid hf
          clear hxy hf
          go_wp2
          go_quiet (fail)
          go_wp2
          go_ret
          exact ⟨ret_bool HF.out.symm, below_drewN HBl.out _⟩
      · obtain rfl : k = n := by omega
        have hf : decide (la = lb) = true := by
          simp only [decide_eq_true_eq]
          have := HE.out
          rwa [List.take_of_length_le (by have := HN.out; omega), List.take_of_length_le (by have := HN.out; have := HL.out; omega)] at this
        have HF := Lib.hid hf
        clear hf
        go_wp2
        go_ret
        exact ⟨ret_bool HF.out.symm, HBl.out⟩
  · have hf : decide (la = lb) = false := by
      simp only [decide_eq_false_iff_not]
      rintro rfl
      exact hl rfl
    have hne : (((la.length : Nat) : Int) != (lb.length : Nat)) = true := by simp; omega
    rw [hf]
    clear ha hb hl hf hla
    go_enter Try.func15, Try.ntmps15
    go_wp2
    go_ret
    exact ⟨rfl, Below.refl _ _⟩
end Go.Proofs.Ytaoaegkfejlgkaa.Dsk
