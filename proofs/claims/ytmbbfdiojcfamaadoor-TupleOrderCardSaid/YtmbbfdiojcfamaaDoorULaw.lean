/-
  What the statements' proofs share: parts that came in; the library's own variable, out of the world's shape.
-/
import Derived.Test.YtmbbfdiojcfamaaDoorRows
import Derived.Test.YtmbbfdiojcfamaaDoorU11
import Derived.ProofKit
import Derived.OpenShut
import Derived.ChangeMaps5
import Derived.LaidMore
import Derived.Lay
import Derived.Stop.Joined
import Derived.HandedShaped
import Derived.Shelf.Vars
import Derived.Deep.Slices
namespace Go.Proofs.YtmbbfdiojcfamaaDoor
open Go.ChangeShapes Go.WideShapes Go.ChangeAt Go.RowKit Go.Deep
def laid2 : List (String × DataW Unit) := [("unicode/utf8.acceptRanges", Rows.laid_unicode_utf8_acceptRanges), ("unicode/utf8.first", Rows.laid_unicode_utf8_first)]
namespace Txt
open Tup
theorem own : ownKnob Tryd.prog.godebug = none := by kernel_rfl
theorem laidOut : laidOutB Tryd.prog = true := by kernel_rfl
theorem mx_of {W : World} (h : W.ShapedOpen Tryd.prog) : Mx W :=
  cell_of_shapedOpen_int (g := 0) (t := 3) (zero := #[.int .i64 0]) h (of_decide_eq_true (by kernel_rfl)) (by kernel_rfl) rfl (by kernel_rfl) (by kernel_rfl) Tryd.underlying3
theorem two_of {W : World} (h : W.ShapedOpen Tryd.prog) : 2 ≤ W.heap.size := by
  obtain ⟨cs, hh, _⟩ := h.1 1 _ _ (of_decide_eq_true (by kernel_rfl)) (show ((begin Tryd.prog (fun _ _ => 0) default).world.heap[1]?).bind Obj.row? = some ((((begin Tryd.prog (fun _ _ => 0) default).world.heap[1]?).bind Obj.row?).get (by kernel_rfl)) from (Option.some_get _).symm)
  have := (Array.getElem?_eq_some_iff.1 hh).1
  omega
/-- One part in memory. -/
def PartAt (W : World) (ad : Addr) (j : Nat) (p : Pt) : Prop := W.cell? (ad.add (j * 3)) = some (.bool p.num) ∧ W.cell? ((ad.add (j * 3)).add 1) = some (.int .i64 p.n) ∧ W.cell? ((ad.add (j * 3)).add 2) = some (.string (mk p.t)) ∧ p.ok
set_option maxRecDepth 100000 in
theorem open_parts {H : Type} {enc : TypeId × Value → H} {W : World} {a0 : Option Addr} {len cap : Nat} {d : DataW H} {p : List MemPlace} (h : DataW.Trod enc Tryd.prog W 0 (fun _ => true) true 22 (.slice a0 len cap) d p) :
    ∃ os : List Pt, os.length = len ∧ cap ≤ maxLen ∧ len ≤ cap ∧ Rd W W.heap.size a0 (cells3 os) ∧ ∀ p ∈ os, p.ok := by
  obtain ⟨fuel, hf⟩ := h
  rcases open_slice Tryd.underlying22 hf with ⟨hcs, _⟩ | ⟨a, l, c, m, n, D, Pl, hcs, _, hl, hm, hmm, _, hi⟩
  · simp [Value.cells] at hcs
    obtain ⟨rfl, rfl, rfl⟩ := hcs
    exact ⟨[], rfl, Nat.zero_le _, Nat.le_refl _, Rd.nil _ _ _, fun p hp => (by cases hp)⟩
  · simp [Value.cells] at hcs
    obtain ⟨rfl, rfl, rfl⟩ := hcs
    simp only [if_true] at hmm
    have hc3 : Tryd.prog.cellsOf 33 = 3 := by kernel_rfl
    have cI : Tryd.prog.cellsOf 3 = 1 := by kernel_rfl
    have cB : Tryd.prog.cellsOf 4 = 1 := by kernel_rfl
    have cS : Tryd.prog.cellsOf 9 = 1 := by kernel_rfl
    have hall : ∀ i, i < len → ∃ o, PartAt W a i o := fun i hlt => by
      obtain ⟨cs', hc, ht⟩ := hi i (by omega)
      rw [hc3] at hc
      obtain ⟨_, hcl, hat⟩ := World.cells?_some hc
      obtain ⟨xs, k, _, _, _, hxl, hfd⟩ := DataW.trod_struct Tryd.underlying33 ht
      match xs, hxl, cs', hcl with
      | [y0, y1, y2], _, [v0, v1, v2], _ =>
        have g0 := hfd 0 _ rfl
        have g1 := hfd 1 _ rfl
        have g2 := hfd 2 _ rfl
        simp [cI, cB, cS] at g0 g1 g2
        obtain ⟨k0, e0, _⟩ := DataW.trod_bool Tryd.underlying4 g0
        obtain ⟨k1, e1, _, w1⟩ := DataW.trod_int Tryd.underlying3 g1
        obtain ⟨k2, e2, _⟩ := DataW.trod_string Tryd.underlying9 g2
        injection e0 with e0 _
        injection e1 with e1 _
        injection e2 with e2 _
        subst e0 e1 e2
        have b1 := bounds_i64 w1
        have q0 := hat 0 (by decide)
        have q1 := hat 1 (by decide)
        have q2 := hat 2 (by decide)
        refine ⟨⟨k0, k1, k2.data.toList⟩, ?_, ?_, ?_, b1⟩
        · rw [show (a.add (i * 3)) = (a.add (i * 3)).add 0 by simp [Addr.add]]; exact q0
        · exact q1
        · rw [of_mk]; exact q2
    have hch : ∃ f : Nat → Pt, ∀ i, i < len → PartAt W a i (f i) := by
      refine ⟨fun i => if h : i < len then (hall i h).choose else ⟨false, 0, []⟩, fun i hlt => ?_⟩
      simp only [hlt, dite_true]
      exact (hall i hlt).choose_spec
    obtain ⟨f, hfp⟩ := hch
    refine ⟨(List.range len).map f, by simp, by omega, by omega, fun hp => ?_, fun p hp => ?_⟩
    · rw [cells3_length] at hp
      simp only [List.length_map, List.length_range] at hp
      have hb := World.block_lt_of_cell? _ _ (hfp 0 (by omega)).1
      rw [block_add] at hb
      refine ⟨a, rfl, hb, fun j u hu => ?_⟩
      have hj : j < (cells3 ((List.range len).map f)).length := (List.getElem?_eq_some_iff.1 hu).1
      rw [cells3_length] at hj
      simp only [List.length_map, List.length_range] at hj
      have hi3 : j / 3 < len := by omega
      obtain ⟨x0, x1, x2⟩ := cells3_get ((List.range len).map f) (j / 3) (f (j / 3)) (by simp [hi3])
      obtain ⟨s0, s1, s2, _⟩ := hfp (j / 3) hi3
      rw [add_add] at s1 s2
      rcases (by omega : j = j / 3 * 3 ∨ j = j / 3 * 3 + 1 ∨ j = j / 3 * 3 + 2) with h | h | h
      · rw [h] at hu ⊢
        rw [x0] at hu
        injection hu with hu
        rw [← hu]
        exact s0
      · rw [h] at hu ⊢
        rw [x1] at hu
        injection hu with hu
        rw [← hu]
        exact s1
      · rw [h] at hu ⊢
        rw [x2] at hu
        injection hu with hu
        rw [← hu]
        exact s2
    · obtain ⟨j, hj, rfl⟩ := List.mem_map.1 hp
      exact (hfp j (List.mem_range.1 hj)).2.2.2
end Txt
/-- A contract that asks what the row lists, and the world's shape. -/
theorem handed_shaped {H : Type} {enc : TypeId × Value → H} {C : Checked} {os : Os} {f : FuncId} {fn : Func} {s : ChangeSpec} {X : World → Array Value → Prop}
    (own : ownKnob C.prog.godebug = none) (started : os.Started) (noInit : C.prog.inits.idxOf? f = none) (hfn : C.prog.funcs[f]? = some fn)
    (witness : ∃ (w : World) (tape : Tape) (i : Input), w.os = os ∧ (w.forCall tape i).Shaped C.prog ∧ i.vars = [] ∧ Input.okWide C.prog (w.forCall tape i) .any w.heap.size f i ∧
      ((s.pre enc C.prog fn [] false (w.forCall tape i).memory i.args ∧ X (w.forCall tape i).memory i.args) ∧ sizedMet enc C.prog fn (OpenSpec.ofChange s) false (w.forCall tape i).memory i.args) ∧ ({} : Assume).holds C.prog (lone (Frame.enter C.prog f i.args .normal) [] (w.forCall tape i)))
    (h : ∀ (W : World) (base : Nat) (args : Array Value) (ds gs : List (DataW H)) (before : List MemPlace), (∀ (j : Nat) t v, fn.params[j]? = some t → args[j]? = some v → Value.okWide C.prog W .any base t v) →
      DataW.Whole enc C.prog fn.params.toList s.vars false W args.toList ds gs before → W.ShapedOpen C.prog → Calls C.prog f args W fun e W' => ∃ v, e = .returned v ∧ s.post enc C.prog fn false true false false W args v W') :
    ReturnsInHanded {} C os f .any (fun w args => (s.pre enc C.prog fn [] false w args ∧ X w args) ∧ sizedMet enc C.prog fn (OpenSpec.ofChange s) false w args) (s.post enc C.prog fn false true false false) := by
  refine returnsInHanded_of_calls own started noInit witness fun w tape i _ hsh _ hok hpre _ => ?_
  obtain ⟨_, _, _, g, hg, _, _, _, _, hval⟩ := hok
  obtain rfl : g = fn := Option.some.inj (hg.symm.trans hfn)
  obtain ⟨⟨⟨ds, gs, before, hw, _⟩, _⟩, _⟩ := hpre
  refine (h _ w.heap.size i.args ds gs before hval (DataW.Whole.of_heap (w' := w.forCall tape i) (by rfl) hw) hsh).mono fun e W' ⟨v, he, hp⟩ => ?_
  subst he
  exact ChangeSpec.post_blind hp
end Go.Proofs.YtmbbfdiojcfamaaDoor
