/-
  The contracts of Read, Write and Copy of package disk.
-/
import Derived.Test.YtaoaegkfejlgkaaD1
import Derived.Deep.RegionLaw
namespace Go.Proofs.Ytaoaegkfejlgkaa.Dsk
open Go.RowKit
theorem but_setRow {d g : Nat} {w : World} (cs : Array Value) : But d g w (w.setRow g cs) :=
  ⟨rfl, rfl, rfl, by simp [World.setRow], fun k _ _ b => setRow_other w g k cs b⟩
/-- copy into a row that is known whole. -/
theorem wpList_copy_but {P : Program} {w : World} {ops : Array Oper} {rest : List Oper} {o : Oper} {a : Act} {Q : Exit → Act → World → Prop} (hgd : o.guard = none) (d s : Operand) (dT sT : TypeId)
    (ho : o.op = .call { callee := .builtin .copy, args := #[d, s], argTypes := #[dT, sT] }) (elem : TypeId) (hu : P.underlying dT = some (.slice elem)) (hsz : (P.info? elem).map (·.size) = some 1)
    (dp sp : Option Addr) (dLen dCap sLen sCap : Nat) (hd : a.eval d = .slice dp dLen dCap) (hs : a.eval s = .slice sp sLen sCap)
    (g off : Nat) (cur : List Value) (t : TypeId) (hg : Blk w g t cur) (cs : List Value) (hn : cs.length = Nat.min sLen dLen)
    (hpos : 0 < cs.length → dp = some ⟨g, off, none⟩ ∧ ∃ ad, sp = some ad ∧ ∀ j v, cs[j]? = some v → w.cell? (ad.add j) = some v)
    (hfit : off + cs.length ≤ cur.length) (h1 : ∀ v ∈ cs, v.oneCell' = true)
    (h : ∀ w', Hid (Blk w' g t (splice cur off cs)) → Hid (∀ D, But D g w w') → Hid (w'.heap.size = w.heap.size) → wpList P ops Q rest (a.put o.dst (goInt cs.length)) w') :
    wpList P ops Q (o :: rest) a w := by
  by_cases h0 : cs.length = 0
  · obtain rfl : cs = [] := List.eq_nil_of_length_eq_zero h0
    refine wpList_copy_nothing hgd d s dT sT ho elem hu hsz dp sp dLen dCap sLen sCap hd hs (by simpa using hn.symm) ?_
    exact h w (show Blk _ _ _ _ by simpa [splice] using hg) (fun D => But.refl D g w) (show _ = _ from rfl)
  · obtain ⟨rfl, ad, rfl, hsrc⟩ := hpos (by omega)
    refine wpList_copy_own hgd d s dT sT ho elem hu hsz g off dLen dCap ad sLen sCap hd hs cur.toArray t hg cs hn hsrc (by simpa using hfit) h1 ?_
    exact h _ (show _ = _ by simpa [splice] using setRow_heap w g _ _ t _ hg) (fun D => but_setRow _) (show _ = _ by simp [World.setRow])
/-- The same, as a step of a region that draws its order. -/
theorem step_copy_but {P : Program} {ops : Array Oper} {o : Oper} {a : Act} {w : World} {K : Act → World → Prop} {Q : Exit → Act → World → Prop} {E : Prop} (hgd : o.guard = none) (d s : Operand) (dT sT : TypeId)
    (ho : o.op = .call { callee := .builtin .copy, args := #[d, s], argTypes := #[dT, sT] }) (elem : TypeId) (hu : P.underlying dT = some (.slice elem)) (hsz : (P.info? elem).map (·.size) = some 1)
    (dp sp : Option Addr) (dLen dCap sLen sCap : Nat) (hd : a.eval d = .slice dp dLen dCap) (hs : a.eval s = .slice sp sLen sCap)
    (g off : Nat) (cur : List Value) (t : TypeId) (hg : Blk w g t cur) (cs : List Value) (hn : cs.length = Nat.min sLen dLen)
    (hpos : 0 < cs.length → dp = some ⟨g, off, none⟩ ∧ ∃ ad, sp = some ad ∧ ∀ j v, cs[j]? = some v → w.cell? (ad.add j) = some v)
    (hfit : off + cs.length ≤ cur.length) (h1 : ∀ v ∈ cs, v.oneCell' = true)
    (h : ∀ w', Hid (Blk w' g t (splice cur off cs)) → Hid (∀ D, But D g w w') → Hid (w'.heap.size = w.heap.size) → K (a.put o.dst (goInt cs.length)) w') :
    if Region.wanted o (yielded ops a.tmps) = true then Oper.wp P o a w K Q else E := by
  have hw : Region.wanted o (yielded ops a.tmps) = true := by simp [Region.wanted, hgd]
  rw [if_pos hw]
  by_cases h0 : cs.length = 0
  · obtain rfl : cs = [] := List.eq_nil_of_length_eq_zero h0
    have hrun := run_copy_none (P := P) w dT sT o.type elem dp sp dLen dCap sLen sCap hu hsz (by simpa using hn.symm)
    unfold Oper.wp
    simp [execOp, ho, resolve, invoke, builtin, hd, hs, hrun, Result.andThen]
    exact h w (show Blk _ _ _ _ by simpa [splice] using hg) (fun D => But.refl D g w) (show _ = _ from rfl)
  · obtain ⟨rfl, ad, rfl, hsrc⟩ := hpos (by omega)
    have hrun := run_copy_row (P := P) w dT sT o.type elem g off dLen dCap ad sLen sCap cur.toArray t cs hu hsz hg hn hsrc (by simpa using hfit) h1
    unfold Oper.wp
    simp [execOp, ho, resolve, invoke, builtin, hd, hs, hrun, Result.andThen]
    exact h _ (show _ = _ by simpa [splice] using setRow_heap w g _ _ t _ hg) (fun D => but_setRow _) (show _ = _ by simp [World.setRow])
theorem size5 : (Try.prog.info? 5).map (·.size) = some 1 := by kernel_rfl
theorem splice_all (l b : List UInt8) (h : l.length = b.length) : splice l 0 b = b := by
  simp [splice, ← h]
/-- Read, where it can't be. -/
theorem read_bad (w : World) (d g : Nat) (s : Dk) (h : Dsk w d g s) (a n : Int) (ha : -9223372036854775808 ≤ a) (ha' : a ≤ 9223372036854775807) (hl : s.l.length ≤ 2000000) (he : s.err a n ≠ 0) :
    Calls Try.prog 25 #[.pointer (some ⟨d, 0, none⟩), .int .i64 a, .int .i64 n] w fun e w' => e = .returned (.tuple #[.slice none 0 0, .int .i64 (s.err a n)]) ∧ w = w' := by
  have hc := check_any w d g s h a n ha ha' hl
  clear h
  have hz : (s.err a n != 0) = true := by simpa using he
  generalize s.err a n = E at *
  go_enter Try.func25, Try.ntmps25
  go_wp2_with (go_at_call 37; refine hc.mono ?_; rintro e w' ⟨rfl, rfl⟩)
  go_ret2
  exact ⟨rfl, rfl⟩
theorem sz5 (w : World) : (sizeOf 5).run Try.prog w = .ok 1 w := by
  obtain ⟨i0, hi0, _, hz1, _⟩ := info_parts info5
  simp [sizeOf, typeInfo, hi0, hz1]
theorem elem30 : Try.prog.underlying 33 = some (.slice (Try.prog.elem 33)) := by kernel_rfl
/-- x[a:] of a row known whole. -/
theorem run_from (g L a : Nat) (ha : a ≤ L) : ∃ P : Option Addr, (∀ w, (Instr.slice 33 (.slice (some ⟨g, 0, none⟩) L L) (some (.int .i64 (a : Int))) none none).run Try.prog w = .ok (.slice P (L - a) (L - a)) w) ∧ (a < L → P = some ⟨g, a, none⟩) := by
  refine ⟨if L = a then some ⟨g, 0, none⟩ else some ⟨g, a, none⟩, fun w => ?_, fun h => by rw [if_neg (by omega)]⟩
  rw [run_slice_l w 33 _ L L elem30 .i64 (a : Int) (by omega) (by omega)]
  rw [show Try.prog.elem 33 = 5 from by kernel_rfl, sz5]
  simp only [Result.andThen_ok, sliced, Int.toNat_natCast, Nat.mul_one, Option.map_some]
  by_cases h : L = a
  · rw [if_pos h, if_pos h]
  · rw [if_neg h, if_neg h, Addr.add_mid, Nat.zero_add]
theorem run_part (g L a b : Nat) (ha : a ≤ b) (hb : b ≤ L) : ∃ P : Option Addr, (∀ w, (Instr.slice 33 (.slice (some ⟨g, 0, none⟩) L L) (some (.int .i64 (a : Int))) (some (.int .i64 (b : Int))) none).run Try.prog w = .ok (.slice P (b - a) (L - a)) w) ∧ (a < L → P = some ⟨g, a, none⟩) := by
  refine ⟨if L = a then some ⟨g, 0, none⟩ else some ⟨g, a, none⟩, fun w => ?_, fun h => by rw [if_neg (by omega)]⟩
  rw [run_slice_lh w 33 _ L L elem30 .i64 .i64 (a : Int) (b : Int) (by omega) (by omega) (by omega)]
  rw [show Try.prog.elem 33 = 5 from by kernel_rfl, sz5]
  simp only [Result.andThen_ok, sliced, Int.toNat_natCast, Nat.mul_one, Option.map_some]
  by_cases h : L = a
  · rw [if_pos h, if_pos h]
  · rw [if_neg h, if_neg h, Addr.add_mid, Nat.zero_add]
theorem add_zero (a : Addr) : a.add 0 = a := by simp [Addr.add]
/-- x[:k]. -/
theorem run_upto (A : Option Addr) (L c k : Nat) (hk : k ≤ c) (w : World) : (Instr.slice 33 (.slice A L c) none (some (.int .i64 (k : Int))) none).run Try.prog w = .ok (.slice A k c) w := by
  rw [run_slice_h w 33 _ L c elem30 .i64 (k : Int) (by omega) (by omega)]
  rw [show Try.prog.elem 33 = 5 from by kernel_rfl, sz5]
  simp only [Result.andThen_ok, sliced, Int.toNat_natCast, Nat.mul_one, Nat.sub_zero]
  congr 2
  split
  · rfl
  · cases A <;> simp [add_zero]
theorem part_cells {w : World} {g a n : Nat} {l : List UInt8} (h : Blk w g 5 (bc l)) : ∀ j v, (bc ((l.drop a).take n))[j]? = some v → w.cell? ((⟨g, a, none⟩ : Addr).add j) = some v := by
  intro j u hu
  rw [Addr.add_mid, h.cell]
  rw [bc_take, List.getElem?_take] at hu
  split at hu
  · rw [bc_drop, List.getElem?_drop] at hu; exact hu
  · cases hu
/-- Read, where it can be. -/
theorem read_ok (w : World) (d g : Nat) (s : Dk) (h : Dsk w d g s) (a n : Nat) (hl : s.l.length ≤ 2000000) (hd : s.down = false) (hn : a + n ≤ s.l.length) :
    Calls Try.prog 25 #[.pointer (some ⟨d, 0, none⟩), .int .i64 (a : Int), .int .i64 (n : Int)] w fun e w' => e = .returned (.tuple #[.slice (some ⟨w.heap.size, 0, none⟩) n n, .int .i64 0]) ∧
      Blk w' w.heap.size 5 (bc ((s.l.drop a).take n)) ∧ Below w.heap.size w w' ∧ w'.heap.size = w.heap.size + 1 := by
  have hc := check_any w d g s h a n (by omega) (by omega) hl
  rw [Dk.err_ok hd (by omega)] at hc
  have HL := Lib.hid hn
  have hN : n ≤ 2000000 := by omega
  have hmk := run_zeros n hN
  obtain ⟨P, hP, hP'⟩ := run_from g s.l.length a (by omega)
  have HP := Lib.hid hP'
  have hw0 : (w.alloc (.cells (bc (List.replicate n 0)).toArray 5)).cell? ⟨d, 0, none⟩ = some (.slice (some ⟨g, 0, none⟩) s.l.length s.l.length) := (h.old ((Below.refl _ _).alloc (Nat.le_refl _) _)).c0
  have HK := Lib.hid (Blk.new w 5 _ _ (show (bc (List.replicate n 0)).toArray = _ from rfl))
  have HB := Lib.hid ((Below.refl w.heap.size w).alloc (Nat.le_refl _) (.cells (bc (List.replicate n 0)).toArray 5))
  have HR : Hid (Blk (w.alloc (.cells (bc (List.replicate n 0)).toArray 5)) g 5 (bc s.l)) := Lib.hid (h.row.alloc _)
  have HZ : Hid ((List.replicate n (0 : UInt8)).length = n) := Lib.hid (by simp)
  clear h hd hP' hn
  generalize List.replicate n (0 : UInt8) = Z at *
  go_enter Try.func25, Try.ntmps25
  go_wp2_with (first
    | (go_at_call 37; refine hc.mono ?_; rintro e w' ⟨rfl, rfl⟩)
    | ((with_reducible refine wpList_copy_but rfl (.tmp 19) (.tmp 25) 33 33 rfl 5 Try.underlying33 size5 _ _ _ _ _ _ rfl rfl w.heap.size 0 (bc Z) 5 HK.out (bc ((s.l.drop a).take n)) ?hn ?hpos ?hfit (bc_one _) ?_); rotate_right; intro w2 HK2 HB2 HZ2))
  case hn => have := HL.out; rw [bc_length, List.length_take, List.length_drop]; exact Nat.min_comm _ _ ▸ rfl
  case hpos =>
    intro h0
    have := HL.out
    rw [bc_length, List.length_take, List.length_drop] at h0
    exact ⟨_, HP.out (by omega), part_cells HR.out⟩
  case hfit => have := HL.out; have := HZ.out; rw [bc_length, bc_length, List.length_take, List.length_drop]; omega
  go_ret2
  have hlen : Z.length = ((s.l.drop a).take n).length := by have := HL.out; have := HZ.out; rw [List.length_take, List.length_drop]; omega
  refine ⟨rfl, ?_, HB.out.trans ((HB2.out w.heap.size).below (by simp) (Nat.le_refl _) (Nat.le_refl _)), by rw [HZ2.out]; simp⟩
  have := HK2.out
  rw [← bc_splice, splice_all _ _ hlen] at this
  exact this
end Go.Proofs.Ytaoaegkfejlgkaa.Dsk
