/-
  What the statements' proofs share: the library's variables, out of what the rows list.
  What the statements' proofs share: strings that came in, and how long they are at most.
-/
import Derived.Test.YtkenananejgcpaaGreatDoorRows
import Derived.Test.YtkenananejgcpaaGreatDoorJNm1
import Derived.ProofKit
import Derived.OpenShut
import Derived.ChangeMaps5
import Derived.LaidMore
import Derived.Lay
import Derived.Stop.Joined
import Derived.Lib.LaidU8
import Derived.Deep.Slices
namespace Go.Proofs.YtkenananejgcpaaGreatDoor
open Go.ChangeShapes Go.WideShapes Go.ChangeAt Go.RowKit
def laid7 : List (String × DataW Unit) := [("math/bits.deBruijn32tab", Rows.laid_math_bits_deBruijn32tab), ("math/bits.deBruijn64tab", Rows.laid_math_bits_deBruijn64tab), ("internal/strconv.uint64pow10", Rows.laid_internal_strconv_uint64pow10), ("unicode/utf8.acceptRanges", Rows.laid_unicode_utf8_acceptRanges), ("strconv.ErrRange", Rows.laid_strconv_ErrRange), ("strconv.ErrSyntax", Rows.laid_strconv_ErrSyntax), ("unicode/utf8.first", Rows.laid_unicode_utf8_first)]
namespace Jsn
open Txt
theorem own : ownKnob Tryz.prog.godebug = none := by kernel_rfl
theorem laidOut : laidOutB Tryz.prog = true := by kernel_rfl
theorem first_is : Rows.laid_unicode_utf8_first = Lib.firstData := by kernel_rfl
theorem accept_is : (Rows.laid_unicode_utf8_acceptRanges : DataW Unit) = Lib.acceptData := by kernel_rfl
theorem pow_is : (Rows.laid_internal_strconv_uint64pow10 : DataW Unit) = Lib.tabData .u64 Lib.pow10Tab := by kernel_rfl
/-- A variable of an interface's type that is listed. -/
theorem err_of {W : World} {n : String} {d : DataW Unit} {g : Nat} {t : TypeId} {m : Array (String × TypeId)} (hg : Tryz.prog.globalNamed n = some g) (hty : (Tryz.prog.globals[g]?).map (·.type) = some t) (ht : Tryz.prog.underlying t = some (.interface m)) (h : Lib.VarReads Tryz.prog W n d) : ErrAt W g := by
  obtain ⟨g', t', cs, fuel, p, h1, h2, h3, h4⟩ := h
  obtain rfl := Option.some.inj (hg.symm.trans h1)
  obtain rfl := Option.some.inj (hty.symm.trans h2)
  have hc := World.var?_cell hg h3 0
  cases fuel with
  | zero => simp [DataW.trod] at h4
  | succ fuel =>
    unfold DataW.trod at h4
    rw [ht] at h4
    have hz : ∀ v, cs.toList = [v] → W.cell? ⟨g, 0, none⟩ = some v := fun v e => by
      rw [hc, ← Array.getElem?_toList, e]; rfl
    have key : (cs.toList = [.nilIface] ∨ ∃ u v, cs.toList = [.iface u v]) := by
      split at h4 <;> simp_all
    rcases key with e | ⟨u, v, e⟩
    · exact ⟨_, hz _ e, .inl rfl⟩
    · exact ⟨_, hz _ e, .inr ⟨_, _, rfl⟩⟩
theorem env_of {W : World} (h : laidMetH Tryz.prog laid7 W) : Env W := by
  rw [MakeChecks.laidMetH_plain _ _ _ (by kernel_rfl)] at h
  have h1 := Lib.laidMet.reads h (n := "unicode/utf8.first") (d := Rows.laid_unicode_utf8_first) (.tail _ (.tail _ (.tail _ (.tail _ (.tail _ (.tail _ (.head _)))))))
  have h2 := Lib.laidMet.reads h (n := "unicode/utf8.acceptRanges") (d := Rows.laid_unicode_utf8_acceptRanges) (.tail _ (.tail _ (.tail _ (.head _))))
  have h3 := Lib.laidMet.reads h (n := "internal/strconv.uint64pow10") (d := Rows.laid_internal_strconv_uint64pow10) (.tail _ (.tail _ (.head _)))
  have h4 := Lib.laidMet.reads h (n := "strconv.ErrRange") (d := Rows.laid_strconv_ErrRange) (.tail _ (.tail _ (.tail _ (.tail _ (.head _)))))
  have h5 := Lib.laidMet.reads h (n := "strconv.ErrSyntax") (d := Rows.laid_strconv_ErrSyntax) (.tail _ (.tail _ (.tail _ (.tail _ (.tail _ (.head _))))))
  have h6 := Lib.laidMet.reads h (n := "math/bits.deBruijn64tab") (d := Rows.laid_math_bits_deBruijn64tab) (.tail _ (.head _))
  rw [first_is] at h1
  rw [accept_is] at h2
  rw [pow_is] at h3
  refine ⟨utf8Tabs_of_reads (ρ := bren) { lays197 with } ⟨by kernel_rfl, by kernel_rfl, by kernel_rfl, by kernel_rfl, by kernel_rfl, by kernel_rfl, by kernel_rfl⟩ h1 h2, ?_, err_of (t := 58) (by kernel_rfl) (by kernel_rfl) Tryz.underlying58 h5, err_of (t := 58) (by kernel_rfl) (by kernel_rfl) Tryz.underlying58 h4, ?_⟩
  · obtain ⟨g, t, cs, fuel, p, hg, hty, hvar, hd⟩ := h3
    obtain rfl := Option.some.inj (pow_named.symm.trans hg)
    obtain rfl := Option.some.inj ((show (Tryz.prog.globals[4]?).map (·.type) = some 151 by kernel_rfl).symm.trans hty)
    unfold Lib.TabIs
    rw [hvar, ← Lib.cells_of_tab (k := .u64) (n := 20) (e := 108) Tryz.underlying151 Tryz.underlying108 (by kernel_rfl) (by kernel_rfl) hd]
  · obtain ⟨g, t, cs, fuel, p, hg, _, hvar, _⟩ := h6
    obtain rfl := Option.some.inj ((show Tryz.prog.globalNamed "math/bits.deBruijn64tab" = some 6 by kernel_rfl).symm.trans hg)
    unfold World.var? at hvar
    rw [hg] at hvar
    simp only [Option.bind_some] at hvar
    by_cases hlt : 6 < W.heap.size
    · exact hlt
    · rw [Array.getElem?_eq_none (by omega)] at hvar; cases hvar
end Jsn
end Go.Proofs.YtkenananejgcpaaGreatDoor
namespace Go.Proofs.YtkenananejgcpaaGreatDoor
open Go.ChangeShapes Go.WideShapes Go.ChangeAt Go.RowKit Go.Deep
namespace Jsn
open Txt
/-- Strings as data. -/
def strD (H : Type) (ns : List (List UInt8)) : List (DataW H) := ns.map fun n => .lit (.string n)
set_option maxRecDepth 100000 in
theorem open_strs {H : Type} {enc : TypeId × Value → H} {W : World} {a0 : Option Addr} {len cap : Nat} {d : DataW H} {p : List MemPlace} (h : DataW.Trod enc Tryz.prog W 0 (fun _ => true) true 35 (.slice a0 len cap) d p) :
    ∃ ns : List (List UInt8), ns.length = len ∧ cap ≤ maxLen ∧ len ≤ cap ∧ Rd W W.heap.size a0 (ns.map fun n => .string (mk n)) ∧ (ns = [] ∨ ∃ spare, d = .slice (strD H ns) spare) := by
  obtain ⟨fuel, hf⟩ := h
  rcases open_slice Tryz.underlying35 hf with ⟨hcs, _⟩ | ⟨a, l, c, m, n, D, Pl, hcs, _, hl, hm, hmm, hx, hi⟩
  · simp [Value.cells] at hcs
    obtain ⟨rfl, rfl, rfl⟩ := hcs
    exact ⟨[], rfl, Nat.zero_le _, Nat.le_refl _, Rd.nil _ _ _, .inl rfl⟩
  · simp [Value.cells] at hcs
    obtain ⟨rfl, rfl, rfl⟩ := hcs
    simp only [if_true] at hmm
    have hc1 : Tryz.prog.cellsOf 9 = 1 := by kernel_rfl
    have hall : ∀ i, i < len → ∃ o : List UInt8, W.cell? (a.add i) = some (.string (mk o)) ∧ D i = .lit (.string o) := fun i hlt => by
      obtain ⟨cs', hc, ht⟩ := hi i (by omega)
      rw [hc1, Nat.mul_one] at hc
      obtain ⟨_, hcl, hat⟩ := World.cells?_some hc
      obtain ⟨s, e, hd, _⟩ := DataW.trod_string Tryz.underlying9 ht
      subst e
      refine ⟨s.data.toList, ?_, (Prod.mk.inj hd).1⟩
      have := hat 0 (by omega)
      rw [Txt.add_add, Nat.add_zero] at this
      rw [of_mk]
      simpa using this
    have hch : ∃ f : Nat → List UInt8, ∀ i, i < len → W.cell? (a.add i) = some (.string (mk (f i))) ∧ D i = .lit (.string (f i)) := by
      refine ⟨fun i => if h : i < len then (hall i h).choose else [], fun i hlt => ?_⟩
      simp only [hlt, dite_true]
      exact (hall i hlt).choose_spec
    obtain ⟨f, hfp⟩ := hch
    refine ⟨(List.range len).map f, by simp, by omega, by omega, fun hp => ?_, .inr ⟨(List.range (m - len)).map fun j => D (len + j), ?_⟩⟩
    · simp only [List.length_map, List.length_range] at hp
      have hb := World.block_lt_of_cell? _ _ (hfp 0 (by omega)).1
      rw [Txt.block_add] at hb
      refine ⟨a, rfl, hb, fun j u hu => ?_⟩
      have hj : j < len := by have := (List.getElem?_eq_some_iff.1 hu).1; simpa using this
      simp [hj] at hu
      rw [← hu]
      exact (hfp j hj).1
    · rw [(Prod.mk.inj hx).1]
      congr 1
      unfold strD
      rw [List.map_map]
      apply List.map_congr_left
      intro i hi'
      exact (hfp i (List.mem_range.1 hi')).2
theorem weights_mem {H : Type} (P : Program) (e : TypeId) : ∀ (ns : List (List UInt8)) (n : List UInt8), n ∈ ns → n.length ∈ DataW.weightsAll P e (strD H ns)
  | [], _, h => by cases h
  | m :: ns, n, h => by
    show n.length ∈ DataW.weightsAll P e (DataW.lit (.string m) :: strD H ns)
    rw [DataW.weightsAll]
    rcases List.mem_cons.1 h with rfl | h
    · exact List.mem_append_left _ (by rw [DataW.weights]; simp)
    · exact List.mem_append_right _ (weights_mem P e ns n h)
/-- No string that came in is longer than what lies in memory. -/
theorem strs_bound {H : Type} {ns : List (List UInt8)} {d : DataW H} {ts : List TypeId} {ds : List (DataW H)} (hd : ns = [] ∨ ∃ spare, d = .slice (strD H ns) spare)
    (h : (DataW.weightsEach Tryz.prog (35 :: ts) (d :: ds)).all (· ≤ reachBytes) = true) : ∀ n ∈ ns, n.length ≤ 140737488351232 := by
  intro n hn
  rcases hd with rfl | ⟨spare, rfl⟩
  · cases hn
  · rw [DataW.weightsEach, DataW.weights] at h
    have hu : Tryz.prog.underlying 35 = some (.slice 9) := Tryz.underlying35
    rw [hu] at h
    have hm := weights_mem (H := H) Tryz.prog 9 ns n hn
    have := List.all_eq_true.1 h n.length (List.mem_append_left _ (List.mem_cons_of_mem _ (List.mem_append_left _ hm)))
    exact of_decide_eq_true this
end Jsn
end Go.Proofs.YtkenananejgcpaaGreatDoor
