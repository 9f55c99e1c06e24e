/-
  What Sum does: the checksum of the parts one behind the other; and the document's examples, so that the anchor of the statements answers true.
-/
import Derived.Test.YtaoaegkfejlgkaaC2
import Derived.Lib.SlBytesConst
namespace Go.Proofs.Ytaoaegkfejlgkaa
open Go.RowKit
/-- A slice at A reads as these bytes, and lies below block B. -/
def RdB (w : World) (B : Nat) (A : Option Addr) (l : List Nat) : Prop := 0 < l.length → ∃ ad, A = some ad ∧ ad.block < B ∧ ∀ j u, (vals .u8 l)[j]? = some u → w.cell? (ad.add j) = some u
theorem RdB.rd {w w' : World} {B g : Nat} {A : Option Addr} {l : List Nat} (h : RdB w B A l) (hb : Below B w w') (hg : B ≤ g) (hs : B ≤ w'.heap.size) : Rd w' g A l := fun hl => by
  obtain ⟨ad, e, h1, h2⟩ := h hl
  exact ⟨ad, e, by omega, by omega, fun j u hu => (hb.cell (by rw [block_add]; exact h1)).trans (h2 j u hu)⟩
theorem RdB.below {w w' : World} {B : Nat} {A : Option Addr} {l : List Nat} (h : RdB w B A l) (hb : Below B w w') : RdB w' B A l := fun hl => by
  obtain ⟨ad, e, h1, h2⟩ := h hl
  exact ⟨ad, e, h1, fun j u hu => (hb.cell (by rw [block_add]; exact h1)).trans (h2 j u hu)⟩
theorem RdB.more {w : World} {B B' : Nat} {A : Option Addr} {l : List Nat} (h : RdB w B A l) (hB : B ≤ B') : RdB w B' A l := fun hl => by
  obtain ⟨ad, e, h1, h2⟩ := h hl
  exact ⟨ad, e, by omega, h2⟩
/-- A slice of slices at A reads as these parts, below block B. -/
def Parts (w : World) (B : Nat) (A : Option Addr) (ps : List (List Nat)) : Prop :=
  ∀ i, i < ps.length → ∃ ad Ai ci, A = some ad ∧ ad.block < B ∧ w.cell? (ad.add i) = some (.slice Ai (ps.getD i []).length ci) ∧ (ps.getD i []).length ≤ ci ∧ RdB w B Ai (ps.getD i [])
theorem take_flat (ps : List (List Nat)) (k : Nat) (hk : k < ps.length) : (ps.take (k + 1)).flatten = (ps.take k).flatten ++ ps.getD k [] := by
  rw [List.take_succ_eq_append_getElem hk, List.flatten_append, List.getD_eq_getElem?_getD, List.getElem?_eq_getElem hk]
  simp
theorem flat_le (ps : List (List Nat)) (k : Nat) : (ps.take k).flatten.length ≤ ps.flatten.length := by
  have := congrArg (fun l => (List.flatten l).length) (List.take_append_drop k ps)
  simp only [List.flatten_append, List.length_append] at this
  omega
set_option maxRecDepth 100000
set_option maxHeartbeats 400000 in
theorem sum_any (w : World) (A : Option Addr) (c : Nat) (ps : List (List Nat)) (hP : Parts w w.heap.size A ps) (hBs : ∀ p ∈ ps, Crc.Bs p) (hn : ps.length ≤ 9223372036854775807) (hN : ps.flatten.length ≤ 9223372036854775807) :
    Calls Try.prog 52 #[.slice A ps.length c] w fun e w' => e = .returned (.int .u32 (Crc.sum ps.flatten : Nat)) ∧ Below w.heap.size w w' := by
  have HP := Lib.hid hP
  have HBs := Lib.hid hBs
  have HX := Lib.hid hN
  clear hP hBs hN
  go_enter Try.func52, Try.ntmps52
  go_wp2_with fail
  refine (new_any w).mono ?_
  rintro e w1 ⟨rfl, hw1⟩
  have HH : Hid (Hst w1 w.heap.size 4294967295) := Lib.hid (by rw [← hw1]; exact Blk.new w 98 _)
  have HB1 : Hid (Below w.heap.size w w1) := Lib.hid (by rw [← hw1]; exact (Below.refl _ _).alloc (Nat.le_refl _) _)
  clear hw1
  go_wp2
  go_loopw [12] (fun i wr => ∃ k : Nat, k ≤ ps.length ∧ i = .int .i64 k ∧ Hst wr w.heap.size (Crc.run 4294967295 (ps.take k).flatten) ∧ Below w.heap.size w wr) (fun i _ => ps.length - (intOf i).toNat)
  case atStart => exact ⟨0, by omega, rfl, by simpa [Crc.run_nil] using HH.out, HB1.out⟩
  case round =>
    obtain ⟨k, hk, rfl, hH, hbel⟩ := hrel
    clear HH HB1
    have hlt3 : w.heap.size < wr.heap.size := hH.lt
    have hst : Crc.run 4294967295 (ps.take k).flatten < 4294967296 := Crc.run_lt _ (by decide) (Crc.Bs.flat fun p hp => HBs.out p (List.mem_of_mem_take hp))
    by_cases hlt : k < ps.length
    · obtain ⟨ad, Ai, ci, rfl, hadb, hcell, hci, hrd⟩ := HP.out k hlt
      have hc : wr.cell? (ad.add k) = some (.slice Ai (ps.getD k []).length ci) := (hbel.cell (by rw [block_add]; exact hadb)).trans hcell
      have HH := Lib.hid hH
      have HB := Lib.hid hbel
      have HR := Lib.hid (hrd.rd hbel (Nat.le_refl _) hbel.size)
      have HN : Hid ((ps.take (k + 1)).flatten = (ps.take k).flatten ++ ps.getD k []) := Lib.hid (take_flat ps k hlt)
      have hle : (ps.getD k []).length ≤ 9223372036854775807 := by
        have h1 := flat_le ps (k + 1)
        have h2 := HX.out
        rw [HN.out, List.length_append] at h1
        omega
      have HBp : Hid (Crc.Bs (ps.getD k [])) := Lib.hid (HBs.out _ (by rw [List.getD_eq_getElem?_getD, List.getElem?_eq_getElem hlt]; simp))
      have HS : Hid (Crc.run 4294967295 (ps.take (k + 1)).flatten = Crc.run (Crc.run 4294967295 (ps.take k).flatten) (ps.getD k [])) := Lib.hid (by rw [HN.out, Crc.run_append])
      clear hH hbel hcell hrd HN
      generalize ps.getD k [] = pk at *
      generalize Crc.run 4294967295 (ps.take k).flatten = st at *
      go_wp2_with fail
      refine (write_any wr w.heap.size st Ai ci pk HH.out hst HR.out HBp.out hle).mono ?_
      rintro e w2 ⟨rfl, hH2, hg2⟩
      have HH2 : Hid (Hst w2 w.heap.size (Crc.run 4294967295 (ps.take (k + 1)).flatten)) := Lib.hid (by rw [HS.out]; exact hH2)
      have HB2 : Hid (Below w.heap.size w w2) := Lib.hid (HB.out.grown hg2 HB.out.size (fun j hj => by injection hj with hj; omega))
      clear hH2 hg2
      go_wp2
      go_roundw
      case rel => exact ⟨k + 1, by omega, by go_num, HH2.out, HB2.out⟩
      case measure => simp [intOf]; omega
    · obtain rfl : k = ps.length := by omega
      have HH := Lib.hid hH
      have HB := Lib.hid hbel
      have HT := Lib.hid hst
      clear hH hbel hst
      rw [List.take_length] at HH HT
      go_wp2_with fail
      refine (hsum_any wr w.heap.size _ HH.out HT.out).mono ?_
      rintro e w2 ⟨rfl, rfl⟩
      have HE : Hid ((Crc.sum ps.flatten : Nat) = 4294967295 - Crc.run 4294967295 ps.flatten) := Lib.hid rfl
      generalize 4294967295 - Crc.run 4294967295 ps.flatten = r at *
      go_wp2
      go_ret
      exact ⟨ret_num (by rw [HE.out]), HB.out⟩
end Go.Proofs.Ytaoaegkfejlgkaa
