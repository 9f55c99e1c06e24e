/-
  The document's example: the hash of abc is the one that the document tells, so the anchor of the statements answers true; and what string(..) makes of a row of bytes.
-/
import Derived.Test.YtcllepdkhcikoaaDoorW8
import Derived.Lib.SlBytesConst
namespace Go.Proofs.YtcllepdkhcikoaaDoor
open Go.RowKit
/-- Bytes as a string. -/
def strOf (l : List Nat) : ByteArray := (l.map fun n : Nat => (n : Int)).foldl (fun r n => r.push (UInt8.ofNat n.toNat)) ByteArray.empty
theorem conv_row {w : World} {base n : Nat} {v : Value} {l : List Nat} (h : w.ownsRow base 5 1 v n (vals .u8 l)) (hp : 0 < n) : (convert 22 9 v).run Tryd.prog w = .ok (.string (strOf l)) w := by
  have hl : l.length = n := by have := h.1; rw [vals_length] at this; omega
  rcases h.2 with ⟨_, h0⟩ | ⟨p, cap, cur, rfl, _⟩
  · omega
  · have hc := h.cells (g := p) rfl
    rw [run_convert_bytes_string w 22 9 5 _ _ _ Tryd.underlying22 Tryd.underlying5 Tryd.underlying9]
    refine run_bytesToString w _ n cap (l.map fun n : Nat => (n : Int)) ?_
    have := run_loadCells_list (P := Tryd.prog) w ⟨p, 0, none⟩ (vals .u8 l) hc
    rw [vals_length, hl] at this
    rw [this]
    simp [vals]
theorem abc_string : strOf (Sha.sum Sha.abc) = ⟨#[186, 120, 22, 191, 143, 1, 207, 234, 65, 65, 64, 222, 93, 174, 34, 35, 176, 3, 97, 163, 150, 23, 122, 156, 180, 16, 255, 97, 242, 0, 21, 173]⟩ := by
  rw [Sha.sum_abc]; rfl
theorem abc_parts (w : World) :
    Parts ((w.alloc (Obj.cells #[Value.int IntKind.u8 97, Value.int IntKind.u8 98, Value.int IntKind.u8 99] 5 (3, 4))).alloc (Obj.cells #[Value.slice (some { block := w.heap.size, off := 0 }) 3 3] 22))
      ((w.alloc (Obj.cells #[Value.int IntKind.u8 97, Value.int IntKind.u8 98, Value.int IntKind.u8 99] 5 (3, 4))).alloc (Obj.cells #[Value.slice (some { block := w.heap.size, off := 0 }) 3 3] 22)).heap.size
      (some ⟨w.heap.size + 1, 0, none⟩) [Sha.abc] := by
  intro i hi
  obtain rfl : i = 0 := by simpa using hi
  refine ⟨_, some ⟨w.heap.size, 0, none⟩, 3, rfl, by simp, ?_, by decide, fun _ => ⟨_, rfl, by simp; omega, fun j u hu => ?_⟩⟩
  · rw [Addr.add_mid, Nat.add_zero]
    have := heap_alloc2_new w (Obj.cells #[Value.int IntKind.u8 97, Value.int IntKind.u8 98, Value.int IntKind.u8 99] 5 (3, 4)) (Obj.cells #[Value.slice (some { block := w.heap.size, off := 0 }) 3 3] 22)
    rw [cell_of_row _ _ _ _ _ _ this]
    rfl
  · rw [Addr.add_mid, Nat.zero_add]
    have := heap_alloc2_old w (Obj.cells #[Value.int IntKind.u8 97, Value.int IntKind.u8 98, Value.int IntKind.u8 99] 5 (3, 4)) (Obj.cells #[Value.slice (some { block := w.heap.size, off := 0 }) 3 3] 22)
    rw [cell_of_row _ _ _ _ _ _ this]
    simpa [vals, Sha.abc] using hu
theorem wpList_convertRun {P : Program} {ops : Array Oper} {rest : List Oper} {o : Oper} {a : Act} {w : World} {Q : Exit → Act → World → Prop} (hgd : o.guard = none) (s d : TypeId) (x : Operand) (ho : o.op = .convert s d x) (p v : Value) (hx : a.eval x = p)
    (hrun : (convert s d p).run P w = .ok v w) (h : wpList P ops Q rest (a.put o.dst v) w) : wpList P ops Q (o :: rest) a w :=
  wpList_plain hgd fun _ hK => by
    unfold Oper.wp execOp
    simp only [ho, hx, Sem.run_bind, hrun, Result.andThen_ok, Sem.run_pure]
    exact hK _ _ h
set_option maxRecDepth 100000
set_option maxHeartbeats 400000 in
theorem anchor_any (w : World) (hI : Iat w) (hK : Kat w) (h2 : 2 ≤ w.heap.size) :
    Calls Tryd.prog 9 #[] w fun e w' => e = .returned (.bool true) ∧ Below w.heap.size w w' := by
  have HI := Lib.hid hI
  have HK := Lib.hid hK
  clear hI hK
  have kc := fun (w : World) (C : Array Value) (n c : Nat) => Lib.run_convert_bytes_const (P := Tryd.prog) w 22 5 C n c Tryd.underlying22 Tryd.underlying5
  go_enter Tryd.func9, Tryd.ntmps9
  go_wp2_with fail
  have HP := Lib.hid (abc_parts w)
  have hb2 : Below w.heap.size w ((w.alloc (Obj.cells #[Value.int IntKind.u8 97, Value.int IntKind.u8 98, Value.int IntKind.u8 99] 5 (3, 4))).alloc (Obj.cells #[Value.slice (some { block := w.heap.size, off := 0 }) 3 3] 22)) := ((Below.refl _ _).alloc (Nat.le_refl _) _).alloc (by simp) _
  have hz2 : w.heap.size ≤ ((w.alloc (Obj.cells #[Value.int IntKind.u8 97, Value.int IntKind.u8 98, Value.int IntKind.u8 99] 5 (3, 4))).alloc (Obj.cells #[Value.slice (some { block := w.heap.size, off := 0 }) 3 3] 22)).heap.size := hb2.size
  generalize (w.alloc (Obj.cells #[Value.int IntKind.u8 97, Value.int IntKind.u8 98, Value.int IntKind.u8 99] 5 (3, 4))).alloc (Obj.cells #[Value.slice (some { block := w.heap.size, off := 0 }) 3 3] 22) = w2 at HP hb2 hz2
  clear kc
  have HB2 := Lib.hid hb2
  clear hb2
  refine (sum_any w2 _ 1 [Sha.abc] HP.out (by intro p hp; rw [List.mem_singleton] at hp; subst hp; intro x hx; simp [Sha.abc] at hx; omega) (HI.out.below HB2.out (by omega)) (HK.out.below HB2.out h2) (by omega) (by simp) (by simp [Sha.abc])).mono ?_
  rintro e w3 ⟨v, rfl, hown, hb3⟩
  have HC := Lib.hid (conv_row hown (by decide))
  have HB3 := Lib.hid (HB2.out.trans (hb3.mono hz2))
  clear hown hb3
  have hs : strOf (Sha.sum [Sha.abc].flatten) = strOf (Sha.sum Sha.abc) := rfl
  rw [hs, abc_string] at HC
  clear hs
  go_wp2_with (refine wpList_convertRun rfl 22 9 (.tmp 4) rfl v _ rfl HC.out ?_)
  go_ret
  exact ⟨rfl, HB3.out⟩
end Go.Proofs.YtcllepdkhcikoaaDoor
