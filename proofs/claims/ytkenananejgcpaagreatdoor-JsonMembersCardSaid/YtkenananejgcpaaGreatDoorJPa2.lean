/-
  number: the text of a number is read.
-/
import Derived.Test.YtkenananejgcpaaGreatDoorJPa1
namespace Go.Proofs.YtkenananejgcpaaGreatDoor.Jsn
open Go.RowKit Txt
theorem G.of_below {pp : Nat} {w w' : World} (h : Below w.heap.size w w') : G pp w w' := ⟨h.os, h.tape, h.output, h.size, fun k hk _ => h.block k hk⟩
theorem Ps.lt {w : World} {pp : Nat} {t : List UInt8} {a r : Nat} (h : Ps w pp t a r) : pp < w.heap.size := (Array.getElem?_eq_some_iff.1 h).1
theorem Ps.below {w w' : World} {pp : Nat} {t : List UInt8} {a r : Nat} (h : Ps w pp t a r) (hb : Below w.heap.size w w') : Ps w' pp t a r := (hb.block pp h.lt).trans h
set_option maxRecDepth 100000
set_option maxHeartbeats 1000000 in
theorem sclone_any (m : List UInt8) (w : World) (hm : m.length ≤ 140737488351232) : Calls Tryz.prog 33 #[.string (mk m)] w fun e w' => e = .returned (.string (mk m)) ∧ Below w.heap.size w w' := by
  have HC := Lib.hid (clone_any (mk m) w (by rw [mk_size]; omega))
  clear hm
  go_enter Tryz.func33, Tryz.ntmps33
  go_wp2_with fail
  refine HC.out.mono ?_
  rintro e w1 ⟨rfl, hb⟩
  go_wp2
  go_ret
  exact ⟨rfl, hb⟩
set_option maxHeartbeats 2000000 in
theorem number_any (pp : Nat) (t : List UInt8) (a r k : Nat) (w : World) (h : Ps w pp t a r) (ha : a ≤ t.length) (hk : nend (t.drop a) 0 = (k, true)) (hl : t.length ≤ 100000) :
    Calls Tryz.prog 77 #[.pointer (some ⟨pp, 0, none⟩)] w fun e w' => e = .returned (.string (mk ((t.drop a).take k))) ∧ Ps w' pp t (a + k) r ∧ G pp w w' := by
  obtain ⟨c0, c1, -, -, -⟩ := h.cells
  have hkl := nend_len (t.drop a) 0
  rw [hk, List.length_drop] at hkl
  simp only at hkl
  have HN := Lib.hid (numberEnd_any (t.drop a) w.drew (by rw [List.length_drop]; omega))
  rw [hk] at HN
  have hfrom : ∀ w, (Instr.slice 9 (.string (mk t)) (some (.int .i64 (a : Int))) none none).run Tryz.prog w = .ok (.string (mk (t.drop a))) w := fun w => run_from w t .i64 a ha
  have hpart : ∀ w, (Instr.slice 9 (.string (mk t)) (some (.int .i64 (a : Int))) (some (.int .i64 ((a : Int) + (k : Int)))) none).run Tryz.prog w = .ok (.string (mk ((t.drop a).take k))) w := fun w => by
    have := run_part w t .i64 .i64 a (a + k) (by omega) (by omega)
    rw [Nat.add_sub_cancel_left] at this
    exact this
  have HL : Hid (((t.drop a).take k).length ≤ 10000000) := Lib.hid (by rw [List.length_take, List.length_drop]; omega)
  have w1 : wrap64 ((a : Int) + (k : Int)) = (a : Int) + (k : Int) := wrap64i (by omega) (by omega)
  have HP := Lib.hid h
  have hms := mk_size
  have hmt := mk_toList
  have hpl := h.lt
  clear h hk hl hkl ha
  generalize (t.drop a).take k = m at *
  generalize t.drop a = td at *
  go_enter Tryz.func77, Tryz.ntmps77
  go_wp2_with fail
  go_region_with (go_at_call 40; refine HN.out.mono ?_; rintro e w2 ⟨rfl, hb2⟩)
  all_goals
    have hp2 : Ps w2 pp t a r := (show Ps w.drew pp t a r from HP.out).below hb2
    obtain ⟨d0, d1, -, f1, -⟩ := hp2.cells
    have HG2 : Hid (G pp w w2) := Lib.hid (((G.refl pp w).drew).trans (G.of_below hb2))
    obtain ⟨w3, hw3⟩ : ∃ w3, w3 = w2.setCell ⟨pp, 1, none⟩ (.int .i64 ((a : Int) + (k : Int))) := ⟨_, rfl⟩
    have hp3 : Ps w3 pp t (a + k) r := by rw [hw3]; exact hp2.set1 (a + k)
    have HG3 : Hid (G pp w w3) := Lib.hid (by rw [hw3]; exact HG2.out.trans (put1 pp _))
    have HP3 := Lib.hid hp3
    have HC := Lib.hid (sclone_any m w3.drew (by have := HL.out; omega))
    obtain ⟨e0, e1, -⟩ := hp3.cells
    clear hb2 hp2 HN HP hp3 HG2
    go_wp2_with fail
    rw [← hw3]
    clear hw3 d0 d1 f1 c0 c1
    go_region_with (go_at_call 33; refine HC.out.mono ?_; rintro e w4 ⟨rfl, hb4⟩)
    all_goals
      have HP4 := Lib.hid ((show Ps w3.drew pp t (a + k) r from HP3.out).below hb4)
      have HG4 := Lib.hid ((HG3.out.drew).trans (G.of_below hb4))
      clear hb4
      go_wp2
      go_ret
      exact ⟨rfl, HP4.out, HG4.out⟩
end Go.Proofs.YtkenananejgcpaaGreatDoor.Jsn
