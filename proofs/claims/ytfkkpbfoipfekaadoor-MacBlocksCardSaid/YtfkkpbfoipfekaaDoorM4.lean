/-
  The document's example of layer 2: the code of its message under its key is the one that the document tells, so the anchor of the statements answers true.
-/
import Derived.Test.YtfkkpbfoipfekaaDoorM3
import Derived.Lib.SlBytesConst
namespace Go.Proofs.YtfkkpbfoipfekaaDoor
open Go.RowKit
theorem jefe_string : strOf (Mac.code Mac.jefe (Mac.what ++ Mac.want)) = ⟨#[91, 220, 193, 70, 191, 96, 117, 78, 106, 4, 36, 38, 8, 149, 117, 199, 90, 0, 63, 8, 157, 39, 57, 131, 157, 236, 88, 185, 100, 236, 56, 67]⟩ := by
  rw [Mac.code_jefe]; rfl
theorem conv_const (w : World) (g : Nat) (C : Array Value) (n c : Nat) (h : w.heap.size = g) :
    (convert 22 22 (.slice (some ⟨g, 0, none⟩) n c)).run Tryd.prog (w.alloc (.cells C 5)) = .ok (.slice (some ⟨g, 0, none⟩) n c) (w.alloc (.cells C 5 (C.size, C.size + 1))) := by
  subst h
  exact Lib.run_convert_bytes_const w 22 5 C n c Tryd.underlying22 Tryd.underlying5
/-- What a literal's row reads as. -/
theorem lit_rd (w : World) (l : List Nat) (C : Array Value) (hC : C = Vs .u8 l) (f : Nat × Nat) : RdB (w.alloc (.cells C 5 f)) (w.alloc (.cells C 5 f)).heap.size (some ⟨w.heap.size, 0, none⟩) l := fun _ => by
  subst hC
  refine ⟨_, rfl, by simp, fun j u hu => ?_⟩
  rw [Addr.add_mid, Nat.zero_add]
  have := heap_alloc_new w (Obj.cells (Vs .u8 l) 5 f)
  rw [cell_of_row _ _ _ _ _ _ this]
  simpa [Vs] using hu
/-- Three literals and a list of the last two. -/
theorem three_lits (w : World) (a b d : List Nat) (Ca Cb Cd : Array Value) (ha : Ca = Vs .u8 a) (hb : Cb = Vs .u8 b) (hd : Cd = Vs .u8 d) (fa fb fd : Nat × Nat) (nb nd : Nat) (hnb : b.length = nb) (hnd : d.length = nd) (w4 : World)
    (h : w4 = (((w.alloc (.cells Ca 5 fa)).alloc (.cells Cb 5 fb)).alloc (.cells Cd 5 fd)).alloc (.cells #[.slice (some ⟨w.heap.size + 1, 0, none⟩) nb nb, .slice (some ⟨w.heap.size + 1 + 1, 0, none⟩) nd nd] 22)) :
    Below w.heap.size w w4 ∧ RdB w4 w4.heap.size (some ⟨w.heap.size, 0, none⟩) a ∧ Parts w4 w4.heap.size (some ⟨w.heap.size + 1 + 1 + 1, 0, none⟩) [b, d] := by
  subst hnb hnd
  have r1 := lit_rd w a Ca ha fa
  have z1 : (w.alloc (.cells Ca 5 fa)).heap.size = w.heap.size + 1 := by simp
  have b1 : Below w.heap.size w (w.alloc (.cells Ca 5 fa)) := (Below.refl _ _).alloc (Nat.le_refl _) _
  generalize w.alloc (.cells Ca 5 fa) = w1 at *
  have r2 := lit_rd w1 b Cb hb fb
  have z2 : (w1.alloc (.cells Cb 5 fb)).heap.size = w1.heap.size + 1 := by simp
  have b2 : Below w1.heap.size w1 (w1.alloc (.cells Cb 5 fb)) := (Below.refl _ _).alloc (Nat.le_refl _) _
  generalize w1.alloc (.cells Cb 5 fb) = w2 at *
  have r3 := lit_rd w2 d Cd hd fd
  have z3 : (w2.alloc (.cells Cd 5 fd)).heap.size = w2.heap.size + 1 := by simp
  have b3 : Below w2.heap.size w2 (w2.alloc (.cells Cd 5 fd)) := (Below.refl _ _).alloc (Nat.le_refl _) _
  generalize w2.alloc (.cells Cd 5 fd) = w3 at *
  have hp := parts_two (w := w3) (c := b.length) (d := d.length) ((r2.below b3).more (by omega)) (Nat.le_refl _) r3 (Nat.le_refl _)
  rw [z1] at hp
  rw [z2, z1] at hp
  rw [z3, z2, z1] at hp
  have b4 : Below w3.heap.size w3 w4 := by rw [h]; exact (Below.refl _ _).alloc (Nat.le_refl _) _
  rw [← h] at hp
  have z4 := b4.size
  exact ⟨((b1.trans (b2.mono (by omega))).trans (b3.mono (by omega))).trans (b4.mono (by omega)), ((((r1.below b2).more (by omega)).below (B := w2.heap.size) b3).below (b4.mono (by omega))).more (by omega), hp⟩
theorem jefe_Bs : Sha.Bs Mac.jefe := by unfold Sha.Bs; decide
theorem what_Bs : Sha.Bs Mac.what := by unfold Sha.Bs; decide
theorem want_Bs : Sha.Bs Mac.want := by unfold Sha.Bs; decide
set_option maxRecDepth 100000
set_option maxHeartbeats 400000 in
theorem anchor_any (w : World) (hI : Iat w) (hK : Kat w) (h2 : 2 ≤ w.heap.size) :
    Calls Tryd.prog 9 #[] w fun e w' => e = .returned (.bool true) ∧ Below w.heap.size w w' := by
  have HI := Lib.hid hI
  have HK := Lib.hid hK
  clear hI hK
  have kc := conv_const
  go_enter Tryd.func9, Tryd.ntmps9
  go_wp2_with fail
  clear kc
  generalize hw4 : World.alloc _ _ = w4
  have h3 := three_lits w Mac.jefe Mac.what Mac.want _ _ _ rfl rfl rfl _ _ _ 11 17 rfl rfl w4 hw4.symm
  clear hw4
  have HB4 := Lib.hid h3.1
  have HR := Lib.hid h3.2.1
  have HP := Lib.hid h3.2.2
  have hz := h3.1.size
  clear h3
  refine (code_any w4 _ 4 Mac.jefe _ 2 [Mac.what, Mac.want] HR.out (fun h => by cases h) (by decide) jefe_Bs HP.out (by intro p hp; rw [List.mem_cons, List.mem_singleton] at hp; rcases hp with rfl | rfl; exact what_Bs; exact want_Bs) (HI.out.below HB4.out (by omega)) (HK.out.below HB4.out h2) (by omega) (by decide) (by decide) (by decide)).mono ?_
  rintro e w5 ⟨v, rfl, hown, hb5⟩
  have HC := Lib.hid (conv_row hown (by decide))
  have HB5 := Lib.hid (HB4.out.trans (hb5.mono hz))
  clear hown hb5 HR HP
  have hs : strOf (Mac.code Mac.jefe [Mac.what, Mac.want].flatten) = strOf (Mac.code Mac.jefe (Mac.what ++ Mac.want)) := rfl
  rw [hs, jefe_string] at HC
  clear hs
  go_wp2_with (refine wpList_convertRun rfl 22 9 (.tmp 8) rfl v _ rfl HC.out ?_)
  go_ret
  exact ⟨rfl, HB5.out⟩
end Go.Proofs.YtfkkpbfoipfekaaDoor
