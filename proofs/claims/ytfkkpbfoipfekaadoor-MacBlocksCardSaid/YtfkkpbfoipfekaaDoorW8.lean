/-
  What Sum does: the hash of the parts one behind the other; and what string(..) makes of such a sum.
-/
import Derived.Test.YtfkkpbfoipfekaaDoorW7
namespace Go.Proofs.YtfkkpbfoipfekaaDoor
open Go.RowKit
/-- A slice at A reads as these bytes, and lies below block B. -/
def RdB (w : World) (B : Nat) (A : Option Addr) (l : List Nat) : Prop := 0 < l.length → ∃ ad, A = some ad ∧ ad.block < B ∧ ∀ j u, (vals .u8 l)[j]? = some u → w.cell? (ad.add j) = some u
theorem RdB.rd {w w' : World} {B g : Nat} {A : Option Addr} {l : List Nat} (h : RdB w B A l) (hb : Below B w w') (hg : B ≤ g) (hs : B ≤ w'.heap.size) : Rd w' g A l := fun hl => by
  obtain ⟨ad, e, h1, h2⟩ := h hl
  exact ⟨ad, e, by omega, by omega, fun j u hu => (hb.cell (by rw [block_add]; exact h1)).trans (h2 j u hu)⟩
theorem RdB.below {w w' : World} {B : Nat} {A : Option Addr} {l : List Nat} (h : RdB w B A l) (hb : Below B w w') : RdB w' B A l := fun hl => by
  obtain ⟨ad, e, h1, h2⟩ := h hl
  exact ⟨ad, e, h1, fun j u hu => (hb.cell (by rw [block_add]; exact h1)).trans (h2 j u hu)⟩
theorem RdB.more {w : World} {B B' : Nat} {A : Option Addr} {l : List Nat} (h : RdB w B A l) (hB : B ≤ B') : RdB w B' A l := fun hl => by
  obtain ⟨ad, e, h1, h2⟩ := h hl
  exact ⟨ad, e, by omega, h2⟩
/-- A slice of slices at A reads as these parts, below block B. -/
def Parts (w : World) (B : Nat) (A : Option Addr) (ps : List (List Nat)) : Prop :=
  ∀ i, i < ps.length → ∃ ad Ai ci, A = some ad ∧ ad.block < B ∧ w.cell? (ad.add i) = some (.slice Ai (ps.getD i []).length ci) ∧ (ps.getD i []).length ≤ ci ∧ RdB w B Ai (ps.getD i [])
theorem take_flat (ps : List (List Nat)) (k : Nat) (hk : k < ps.length) : (ps.take (k + 1)).flatten = (ps.take k).flatten ++ ps.getD k [] := by
  rw [List.take_succ_eq_append_getElem hk, List.flatten_append, List.getD_eq_getElem?_getD, List.getElem?_eq_getElem hk]
  simp
theorem flat_le (ps : List (List Nat)) (k : Nat) : (ps.take k).flatten.length ≤ ps.flatten.length := by
  have := congrArg (fun l => (List.flatten l).length) (List.take_append_drop k ps)
  simp only [List.flatten_append, List.length_append] at this
  omega
set_option maxRecDepth 100000
set_option maxHeartbeats 400000 in
theorem sum_any (w : World) (A : Option Addr) (c : Nat) (ps : List (List Nat)) (hP : Parts w w.heap.size A ps) (hBs : ∀ p ∈ ps, Sha.Bs p) (hI : Iat w) (hK : Kat w) (h2 : 2 ≤ w.heap.size) (hn : ps.length ≤ 1152921504606846976) (hN : ps.flatten.length < 576460752303423488) :
    Calls Tryd.prog 22 #[.slice A ps.length c] w fun e w' => ∃ v, e = .returned v ∧ w'.ownsRow w.heap.size 5 1 v 32 (vals .u8 (Sha.sum ps.flatten)) ∧ Below w.heap.size w w' := by
  have HP := Lib.hid hP
  have HBs := Lib.hid hBs
  have HK := Lib.hid hK
  clear hP hBs hK
  go_enter Tryd.func22, Tryd.ntmps22
  go_wp2_with fail
  refine (new_any w hI).mono ?_
  rintro e w1 ⟨rfl, hw1⟩
  have HH : Hid (Hst w1 w.heap.size [] 0) := Lib.hid (by rw [← hw1]; exact new_hst w)
  have HB1 : Hid (Below w.heap.size w w1) := Lib.hid (by rw [← hw1]; exact (Below.refl _ _).alloc (Nat.le_refl _) _)
  clear hw1 hI
  go_wp2
  go_loopw [9] (fun i wr => ∃ k : Nat, k ≤ ps.length ∧ i = .int .i64 k ∧ Hst wr w.heap.size (ps.take k).flatten (ps.take k).flatten.length ∧ Below w.heap.size w wr) (fun i _ => ps.length - (intOf i).toNat)
  case atStart => exact ⟨0, by omega, rfl, by simpa using HH.out, HB1.out⟩
  case round =>
    obtain ⟨k, hk, rfl, hH, hbel⟩ := hrel
    clear HH HB1
    have hlt3 : w.heap.size < wr.heap.size := by obtain ⟨_, _, hB⟩ := hH; exact hB.lt
    by_cases hlt : k < ps.length
    · obtain ⟨ad, Ai, ci, rfl, hadb, hcell, hci, hrd⟩ := HP.out k hlt
      have hc : wr.cell? (ad.add k) = some (.slice Ai (ps.getD k []).length ci) := (hbel.cell (by rw [block_add]; exact hadb)).trans hcell
      have HH := Lib.hid hH
      have HB := Lib.hid hbel
      have HR := Lib.hid (hrd.rd hbel (Nat.le_refl _) hbel.size)
      have HN : Hid ((ps.take (k + 1)).flatten = (ps.take k).flatten ++ ps.getD k []) := Lib.hid (take_flat ps k hlt)
      have HN2 : Hid ((ps.take (k + 1)).flatten.length ≤ ps.flatten.length) := Lib.hid (flat_le ps (k + 1))
      have HBp : Hid (Sha.Bs (ps.getD k [])) := Lib.hid (HBs.out _ (by rw [List.getD_eq_getElem?_getD, List.getElem?_eq_getElem hlt]; simp))
      clear hH hbel hcell hrd
      generalize ps.getD k [] = pk at hc HR HN HBp hci
      go_wp2_with fail
      refine (write_any wr w.heap.size (ps.take k).flatten pk Ai ci HBp.out HH.out HR.out hci (HK.out.below HB.out h2) h2 (by have := HN2.out; rw [HN.out, List.length_append] at this; omega)).mono ?_
      rintro e w2 ⟨rfl, hH2, hg2⟩
      have HH2 : Hid (Hst w2 w.heap.size (ps.take (k + 1)).flatten (ps.take (k + 1)).flatten.length) := Lib.hid (by rw [HN.out, List.length_append]; exact hH2)
      have HB2 : Hid (Below w.heap.size w w2) := Lib.hid (HB.out.grown hg2 HB.out.size (fun j hj => by injection hj with hj; omega))
      clear hH2 hg2
      go_wp2
      go_roundw
      case rel => exact ⟨k + 1, by omega, by go_num, HH2.out, HB2.out⟩
      case measure => simp [intOf]; omega
    · obtain rfl : k = ps.length := by omega
      have HH := Lib.hid hH
      have HB := Lib.hid hbel
      clear hH hbel
      rw [List.take_length] at HH
      go_wp2_with fail
      refine (hsum_any wr w.heap.size ps.flatten HH.out (HK.out.below HB.out h2) h2 hN).mono ?_
      rintro e w2 ⟨v, rfl, hown, hb2⟩
      have HO := Lib.hid (own_lower hown HB.out.size)
      have HF := Lib.hid (HB.out.trans (hb2.mono HB.out.size))
      clear hown hb2
      go_wp2
      go_ret
      exact ⟨v, rfl, HO.out, HF.out⟩
end Go.Proofs.YtfkkpbfoipfekaaDoor
