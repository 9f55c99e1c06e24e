/-
  The document's example: the anchor of the statements answers true.
-/
import Derived.Test.YtkenananejgcpaaGreatDoorJAnc
import Derived.Lib.SlBytesConst
namespace Go.Proofs.YtkenananejgcpaaGreatDoor.Jsn
open Go.RowKit Txt
theorem conv_rd {w : World} {B : Nat} {A : Option Addr} {c : Nat} {l : List UInt8} (h : Rd w B A (Lib.byteCells l)) : (convert 51 9 (.slice A (l.length : Nat) c)).run Tryz.prog w = .ok (.string (mk l)) w := by
  rw [run_convert_bytes_string w 51 9 5 _ _ _ Tryz.underlying51 Tryz.underlying5 Tryz.underlying9]
  cases A with
  | none =>
    have hn : l = [] := by
      cases l with
      | nil => rfl
      | cons y r => obtain ⟨_, e, _⟩ := h (by simp [Lib.byteCells]); cases e
    subst hn
    rfl
  | some ad =>
    rw [← strOf_mk]
    refine run_bytesToString w _ l.length c (l.map fun n : UInt8 => (n.toNat : Int)) ?_
    have := run_loadCells_list (P := Tryz.prog) w ad (Lib.byteCells l) (fun j u hu => by
      have hj' : j < (Lib.byteCells l).length := (List.getElem?_eq_some_iff.1 hu).1
      obtain ⟨ad', e, _, h3⟩ := h (by omega)
      injection e with e
      subst e
      exact h3 j u hu)
    rw [Lib.byteCells_length] at this
    rw [this]
    simp [Lib.byteCells]
theorem conv_const (w : World) (g : Nat) (C : Array Value) (n c : Nat) (h : w.heap.size = g) :
    (convert 51 51 (.slice (some ⟨g, 0, none⟩) n c)).run Tryz.prog (w.alloc (.cells C 5)) = .ok (.slice (some ⟨g, 0, none⟩) n c) (w.alloc (.cells C 5 (C.size, C.size + 1))) := by
  subst h
  exact Lib.run_convert_bytes_const w 51 5 C n c Tryz.underlying51 Tryz.underlying5
/-- What a literal's row reads as. -/
theorem lit_rd (w : World) (l : List UInt8) (f : Nat × Nat) : Rd (w.alloc (.cells (Lib.byteCells l).toArray 5 f)) (w.heap.size + 1) (some ⟨w.heap.size, 0, none⟩) (Lib.byteCells l) := fun _ => by
  refine ⟨_, rfl, by simp, fun j u hu => ?_⟩
  rw [Addr.add_mid, Nat.zero_add]
  have := heap_alloc_new w (Obj.cells (Lib.byteCells l).toArray 5 f)
  rw [cell_of_row _ _ _ _ _ _ this]
  simpa using hu
def exB : Array Value := #[.int .u8 123, .int .u8 32, .int .u8 34, .int .u8 97, .int .u8 34, .int .u8 32, .int .u8 58, .int .u8 32, .int .u8 91, .int .u8 49, .int .u8 44, .int .u8 32, .int .u8 45, .int .u8 48, .int .u8 46, .int .u8 53, .int .u8 101, .int .u8 51, .int .u8 44, .int .u8 32, .int .u8 34, .int .u8 92, .int .u8 117, .int .u8 48, .int .u8 48, .int .u8 101, .int .u8 57, .int .u8 92, .int .u8 110, .int .u8 34, .int .u8 93, .int .u8 32, .int .u8 125]
theorem exB_eq : exB = (Lib.byteCells exT).toArray := rfl
set_option maxRecDepth 100000
set_option maxHeartbeats 4000000 in
theorem anchor_any (w : World) (hT : Tabs w) (h2 : 3 + 1 ≤ w.heap.size) : Calls Tryz.prog 6 #[] w fun e w' => e = .returned (.bool true) ∧ Below w.heap.size w w' := by
  have hms := mk_size
  have hmt := mk_toList
  have kc := conv_const w w.heap.size exB 33 33 rfl
  obtain ⟨w1, hw1⟩ : ∃ w1, w1 = w.alloc (.cells exB 5 (exB.size, exB.size + 1)) := ⟨_, rfl⟩
  have hb1 : Below w.heap.size w w1 := by rw [hw1]; exact (Below.refl _ w).alloc (Nat.le_refl _) _
  have s1 : w1.heap.size = w.heap.size + 1 := by rw [hw1]; simp
  have hr1 : Rd w1 w1.heap.size (some ⟨w.heap.size, 0, none⟩) (Lib.byteCells exT) := by rw [s1, hw1, exB_eq]; exact lit_rd w exT _
  have HP := Lib.hid (Parse_any exT 3 33 exV (some ⟨w.heap.size, 0, none⟩) 33 w1 (hT.below hb1 h2) (by omega) (fun W hW => conv_rd (hr1.below hW)) ex_val (skips_of (by decide)) (by decide) (by decide) (by decide) ex_wrong)
  have HT := Lib.hid (hT.below hb1 h2)
  have HB1 := Lib.hid hb1
  rw [← hw1] at kc
  clear hb1 hr1 hT hw1
  unfold exB at kc
  go_enter Tryz.func6, Tryz.ntmps6
  go_wp2_with fail
  refine HP.out.mono ?_
  rintro e w2 ⟨val, rfl, hho, hb2⟩
  obtain ⟨A', ca', B', cb', rfl, -⟩ := id hho
  have ht := hho.holds
  obtain ⟨W, hW⟩ : ∃ W, W = w2.alloc (.cells #[.int .i64 exV.kind, .bool exV.yes, .string (mk exV.text), .slice A' exV.list.length ca', .slice B' exV.mem.length cb'] 27) := ⟨_, rfl⟩
  have hbW : Below w2.heap.size w2 W := by rw [hW]; exact (Below.refl _ w2).alloc (Nat.le_refl _) _
  have s2 := hb2.size
  have sW : W.heap.size = w2.heap.size + 1 := by rw [hW]; simp
  have HTW := Lib.hid ((HT.out.below hb2 (by omega)).below hbW (by omega))
  have HHW := Lib.hid (ht.kept hbW (Nat.le_refl _))
  have HBW : Hid (Below w.heap.size w W) := Lib.hid ((HB1.out.trans (hb2.mono (by omega))).trans (hbW.mono (by omega)))
  have HBX : Hid (Blk W w2.heap.size 27 #[.int .i64 exV.kind, .bool exV.yes, .string (mk exV.text), .slice A' exV.list.length ca', .slice B' exV.mem.length cb']) := Lib.hid (by rw [hW]; exact heap_alloc_new w2 _)
  have HPR := Lib.hid (print_any exV _ W HHW.out ex_tame ex_size HTW.out (by omega) (by rw [ex_txt]; decide))
  have hsh : shown false exV = ([123, 34, 97, 34, 58, 91, 49, 44, 45, 48, 46, 53, 101, 51, 44, 34, 195, 169, 92, 110, 34, 93, 125], 0) := by
    unfold shown
    rw [ex_right, if_pos rfl, ex_txt]
    rfl
  rw [hsh] at HPR
  clear hho hb2 ht hbW HP HT HB1 kc
  go_wp2_with fail
  rw [← hW]
  clear hW
  refine HPR.out.mono ?_
  rintro e w3 ⟨rfl, hb3⟩
  have s3 := hb3.size
  have hx3 := HBX.out.below hb3 (by omega)
  have k0 := hx3.cell 0
  have k1 := hx3.cell 1
  have k2 := hx3.cell 2
  have k3 := hx3.cell 3
  have k4 := hx3.cell 4
  have HDP := Lib.hid (depth_any exV _ w3 (HHW.out.kept hb3 (Nat.le_refl _)) ex_size)
  rw [ex_depth] at HDP
  have HB3 : Hid (Below w.heap.size w w3) := Lib.hid (HBW.out.trans (hb3.mono (by omega)))
  clear hb3 hx3 HPR HBX HTW HHW HBW hsh
  have hq : ([123, 34, 97, 34, 58, 91, 49, 44, 45, 48, 46, 53, 101, 51, 44, 34, 195, 169, 92, 110, 34, 93, 125] == ([123, 34, 97, 34, 58, 91, 49, 44, 45, 48, 46, 53, 101, 51, 44, 34, 195, 169, 92, 110, 34, 93, 125] : List UInt8)) = true := rfl
  go_wp2_with fail
  refine HDP.out.mono ?_
  rintro e w4 ⟨rfl, hb4⟩
  have HB4 : Hid (Below w.heap.size w w4) := Lib.hid (HB3.out.trans (hb4.mono (by omega)))
  clear hb4 HDP HB3
  go_wp2
  go_ret
  exact ⟨rfl, HB4.out⟩
end Go.Proofs.YtkenananejgcpaaGreatDoor.Jsn
