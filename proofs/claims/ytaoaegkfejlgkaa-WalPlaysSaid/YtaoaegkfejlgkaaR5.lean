/-
  The document's Same of layer 8, which changes nothing but what is drawn.
-/
import Derived.Test.YtaoaegkfejlgkaaR4
namespace Go.Proofs.Ytaoaegkfejlgkaa.Dsk
open Go.RowKit
set_option maxRecDepth 100000
set_option maxHeartbeats 4000000 in
theorem same_q (w : World) (S S' : Nat → Prop) (A B : Option Addr) (ca cb : Nat) (la lb : List (List UInt8)) (ha : RdL w S A la) (hb : RdL w S' B lb) (hla : la.length ≤ 1000000) :
    Calls Try.prog 15 #[.slice A la.length ca, .slice B lb.length cb] w fun e w' => e = .returned (.bool (decide (la = lb))) ∧ ∃ m, w' = w.drewN m := by
  by_cases hl : la.length = lb.length
  · have HA := Lib.hid ha
    have HB := Lib.hid hb
    have HL := Lib.hid hl
    have HLa := Lib.hid hla
    rw [← hl]
    obtain ⟨n, hn⟩ : ∃ n, n = la.length := ⟨_, rfl⟩
    have HN := Lib.hid hn
    rw [← hn]
    clear ha hb hl hla hn
    go_enter Try.func15, Try.ntmps15
    go_wp2
    go_loopw [5] (fun i wr => ∃ k : Nat, k ≤ n ∧ i = .int .i64 (k : Int) ∧ la.take k = lb.take k ∧ ∃ m, wr = w.drewN m) (fun i _ => n - (intOf i).toNat)
    case atStart => exact ⟨0, Nat.zero_le _, rfl, rfl, 0, rfl⟩
    case round =>
      obtain ⟨k, hk, rfl, heq, m0, hm0⟩ := hrel
      have hbel : Below w.heap.size w wr := by rw [hm0]; exact below_drewN (Below.refl _ _) _
      have HM0 := Lib.hid hm0
      clear hm0
      have HE := Lib.hid heq
      have HBl := Lib.hid hbel
      clear heq hbel
      by_cases hlt : k < n
      · obtain ⟨x, hx⟩ : ∃ x, la[k]? = some x := ⟨_, List.getElem?_eq_getElem (by have := HN.out; omega)⟩
        obtain ⟨y, hy⟩ : ∃ y, lb[k]? = some y := ⟨_, List.getElem?_eq_getElem (by have := HN.out; have := HL.out; omega)⟩
        obtain ⟨ad, Ax, cx, rfl, _, hax, hcx, _, hrx⟩ := HA.out k x hx
        obtain ⟨bd, By, cy, rfl, _, hby, hcy, _, hry⟩ := HB.out k y hy
        have h1 : wr.cell? (ad.add k) = some (.slice Ax x.length cx) := (HBl.out.cell (by rw [block_add]; exact hax)).trans hcx
        have h2 : wr.cell? (bd.add k) = some (.slice By y.length cy) := (HBl.out.cell (by rw [block_add]; exact hby)).trans hcy
        have cv1 := fun j => conv_rd (w := wr.drewN j) x.length cx ((hrx.old HBl.out).old (below_drewN (Below.refl _ _) j)) rfl
        have cv2 := fun j => conv_rd (w := wr.drewN j) y.length cy ((hry.old HBl.out).old (below_drewN (Below.refl _ _) j)) rfl
        have hn1 := HLa.out
        rw [← HN.out] at hn1
        obtain ⟨nx, hnx⟩ : ∃ nx, nx = x.length := ⟨_, rfl⟩
        obtain ⟨ny, hny⟩ : ∃ ny, ny = y.length := ⟨_, rfl⟩
        rw [← hnx] at h1 cv1
        rw [← hny] at h2 cv2
        have HX := Lib.hid hx
        have HY := Lib.hid hy
        clear hx hy hax hby hcx hcy hrx hry hnx hny
        by_cases hxy : x = y
        · have HXY := Lib.hid hxy
          rw [hxy] at cv1
          clear hxy
          go_wp2
          go_quiet (fail)
          go_wp2
          go_roundw
          case rel =>
            refine ⟨k + 1, by omega, by go_num, ?_, _, by rw [HM0.out, World.drewN_drewN]⟩
            rw [List.take_add_one, List.take_add_one, HE.out, HX.out, HY.out, HXY.out]
          case measure => simp [intOf]; omega
        · have HXY := Lib.hid hxy
          have hne := mk_ne hxy
          have hf : decide (la = lb) = false := by
            simp only [decide_eq_false_iff_not]
            rintro rfl
            have := HX.out.symm.trans HY.out
            injection this with this
            exact hxy this
          have HF := Lib.hid hf
          clear hxy hf
          go_wp2
          go_quiet (fail)
          go_wp2
          go_ret
          exact ⟨ret_bool HF.out.symm, _, by rw [HM0.out, World.drewN_drewN]⟩
      · obtain rfl : k = n := by omega
        have hf : decide (la = lb) = true := by
          simp only [decide_eq_true_eq]
          have := HE.out
          rwa [List.take_of_length_le (by have := HN.out; omega), List.take_of_length_le (by have := HN.out; have := HL.out; omega)] at this
        have HF := Lib.hid hf
        clear hf
        go_wp2
        go_ret
        exact ⟨ret_bool HF.out.symm, _, HM0.out⟩
  · have hf : decide (la = lb) = false := by
      simp only [decide_eq_false_iff_not]
      rintro rfl
      exact hl rfl
    have hne : (((la.length : Nat) : Int) != (lb.length : Nat)) = true := by simp; omega
    rw [hf]
    clear ha hb hl hf hla
    go_enter Try.func15, Try.ntmps15
    go_wp2
    go_ret
    exact ⟨rfl, 0, rfl⟩
end Go.Proofs.Ytaoaegkfejlgkaa.Dsk
