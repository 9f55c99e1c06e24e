/-
  append(x, make([]byte, z)...) onto a row of the call's own.
-/
import Derived.Test.YtfkkpbfoipfekaaDoorBytes
import Derived.Test.YtfkkpbfoipfekaaDoorMMath
import Derived.Laws.AppendOwn
namespace Go.Proofs.YtfkkpbfoipfekaaDoor
open Go.RowKit
def noughts (z : Nat) : List Nat := List.replicate z 0
theorem noughts_length (z : Nat) : (noughts z).length = z := by simp [noughts]
theorem zero_cells (z : Nat) : Builtin.zeroCells #[Value.int .u8 0] z = (vals .u8 (noughts z)).toArray := by
  apply Array.ext
  · simp [Builtin.zeroCells, vals, noughts]
  · intro i h1 h2
    simp [Builtin.zeroCells, vals, noughts, Nat.mod_one]
theorem wrap0 : IntKind.i64.wrap 0 = 0 := by decide
theorem zeros_room {i : TypeInfo} (hi : Tryd.prog.info? 5 = some i) (h0 : i.zero = some (.int .u8 0)) (h1 : i.size = 1) (h2 : i.bytes = 1) (w : World) (ty : TypeId) (g sLen sCap z : Nat) (cur : Array Value) (hg : w.heap[g]? = some (.cells cur 5 (0, 0))) (hz : z ≤ 1000) (hroom : sLen + z ≤ sCap) (hfit : sLen + z ≤ cur.size) :
    (Builtin.append_ #[22, 3] ty #[.slice (some ⟨g, 0, none⟩) sLen sCap, .int .i64 (z : Int)]).run Tryd.prog w =
      .ok (.slice (some ⟨g, 0, none⟩) (sLen + z) sCap) (w.setRow g (cur.toList.take sLen ++ vals .u8 (noughts z) ++ cur.toList.drop (sLen + (vals .u8 (noughts z)).length)).toArray) := by
  have hst := run_storeCells_at Tryd.prog g sLen 5 (vals .u8 (noughts z)) 0 cur w hg (by simpa [vals_length, noughts_length] using hfit) (vals_one _ _)
  simp only [Nat.add_zero] at hst
  have hw : IntKind.i64.wrap (z : Int) = (z : Int) := by rw [IntKind.wrap_i64]; omega
  have hn : ¬ (z : Int) < 0 := by omega
  have h48 : ¬ (281474976710656 < (z : Int)) := by omega
  by_cases hz0 : z = 0
  · subst hz0
    have hr : sLen ≤ sCap := hroom
    have e : vals .u8 (noughts 0) = [] := rfl
    rw [e]
    simp [Builtin.append_, run_underlying Tryd.underlying22, run_underlying Tryd.underlying3, sizeOf, typeInfo, hi, h2, asInt, Addr.add_lit, go_sem, wrap0, hr]
    exact (setRow_self w g cur 5 (0, 0) hg).symm
  · simp [Builtin.append_, run_underlying Tryd.underlying22, run_underlying Tryd.underlying3, sizeOf, typeInfo, zeroValue, hi, h0, h1, h2, asInt, hroom, hn, h48, hz0, Addr.add_lit, go_sem, hw, zero_cells, hst]
theorem zeros_grow {i : TypeInfo} (hi : Tryd.prog.info? 5 = some i) (h0 : i.zero = some (.int .u8 0)) (h1 : i.size = 1) (h2 : i.bytes = 1) (w : World) (ty : TypeId) (b : Addr) (sLen sCap z : Nat) (olds : List Value) (hlo : olds.length = sLen) (holds : ∀ j v, olds[j]? = some v → w.cell? (b.add j) = some v) (hz : z ≤ 1000) (hs : sLen ≤ 1000) (hg : sCap < sLen + z) (hfit : Builtin.nextslicecap (sLen + z) sCap ≤ 281474976710656) (hp : 0 < z) :
    (Builtin.append_ #[22, 3] ty #[.slice (some b) sLen sCap, .int .i64 (z : Int)]).run Tryd.prog w =
      .ok (.slice (some ⟨w.heap.size, 0, none⟩) (sLen + z) (grownCap w (sLen + z) sCap 5))
        (w.drew.alloc (.cells (olds.toArray ++ (vals .u8 (noughts z)).toArray ++ Builtin.zeroCells (Value.int .u8 0).cells (grownCap w (sLen + z) sCap 5 - (sLen + z))) 5)) := by
  have hw : IntKind.i64.wrap (z : Int) = (z : Int) := by rw [IntKind.wrap_i64]; omega
  have hn0 : ¬ (z : Int) < 0 := by omega
  have hz0 : ¬ z = 0 := by omega
  have h48 : ¬ (281474976710656 < (z : Int)) := by omega
  have hn : ¬ (sLen + z ≤ sCap) := by omega
  have h63' : ¬ (9223372036854775807 < ((sLen : Int) + (z : Int))) := by omega
  have h48' : ¬ (281474976710656 < Builtin.nextslicecap (sLen + z) sCap) := by omega
  have hfo := run_firstCells_some (P := Tryd.prog) w.drew 1 sLen b sLen sCap olds (by omega) (by simpa using holds)
  have hfo' : (loadCellsFrom b 0 sLen #[]).run Tryd.prog w.drew = .ok olds.toArray w.drew := by simpa [Builtin.firstCells, loadCells] using hfo
  simp [Builtin.append_, run_underlying Tryd.underlying22, run_underlying Tryd.underlying3, sizeOf, typeInfo, zeroValue, hi, h0, h1, h2, asInt, hn0, h48, hz0, hn, h63', h48', Question.forced, go_sem, hw, zero_cells, hfo', newRow, grownCap]
theorem zeros_nil {i : TypeInfo} (hi : Tryd.prog.info? 5 = some i) (h0 : i.zero = some (.int .u8 0)) (h1 : i.size = 1) (h2 : i.bytes = 1) (w : World) (ty : TypeId) (z : Nat) (hz : z ≤ 1000) (hp : 0 < z) :
    (Builtin.append_ #[22, 3] ty #[.slice none 0 0, .int .i64 (z : Int)]).run Tryd.prog w =
      .ok (.slice (some ⟨w.heap.size, 0, none⟩) z (grownCap w z 0 5))
        (w.drew.alloc (.cells ((vals .u8 (noughts z)).toArray ++ Builtin.zeroCells (Value.int .u8 0).cells (grownCap w z 0 5 - z)) 5)) := by
  have hw : IntKind.i64.wrap (z : Int) = (z : Int) := by rw [IntKind.wrap_i64]; omega
  have hn0 : ¬ (z : Int) < 0 := by omega
  have hz0 : ¬ z = 0 := by omega
  have h48 : ¬ (281474976710656 < (z : Int)) := by omega
  have h63' : ¬ (9223372036854775807 < (z : Int)) := by omega
  have h48' : ¬ (281474976710656 < Builtin.nextslicecap z 0) := by rw [nextslicecap_zero hp]; omega
  simp [Builtin.append_, run_underlying Tryd.underlying22, run_underlying Tryd.underlying3, sizeOf, typeInfo, zeroValue, hi, h0, h1, h2, asInt, hn0, h48, hz0, h63', h48', Question.forced, go_sem, hw, zero_cells, newRow, grownCap]
/-- append(x, make([]byte, z)...) onto a row of the call's own that is there. -/
theorem run_append_zeros (w : World) (ty : TypeId) (base : Nat) (v : Value) (l : List Nat) (z : Nat) (hown : w.ownsRow base 5 1 v l.length (vals .u8 l)) (hz : z ≤ 1000) (hl : l.length ≤ 1000) (hbase : base ≤ w.heap.size) :
    ∃ v' w', (Builtin.append_ #[22, 3] ty #[v, .int .i64 (z : Int)]).run Tryd.prog w = .ok v' w' ∧ w'.ownsRow base 5 1 v' (l ++ noughts z).length (vals .u8 (l ++ noughts z)) ∧ w.grownBy w' v.ownBlock := by
  obtain ⟨i0, hi0, hz0, hz1, hz2⟩ := info_parts Tryd.info5
  have hlen : (vals .u8 l ++ vals .u8 (noughts z)).length = l.length + z := by rw [List.length_append, vals_length, vals_length, noughts_length]
  rw [List.length_append, noughts_length, vals_append]
  have hk := hown
  rcases hown.2 with ⟨rfl, h0⟩ | ⟨g, cap, cur, rfl, hbg, hg, hnc, hcm, hcs, htake⟩
  · have hl0 : l = [] := List.eq_nil_of_length_eq_zero (by simpa using h0)
    subst hl0
    by_cases hzz : z = 0
    · subst hzz
      refine ⟨.slice none 0 0, w, ?_, ⟨rfl, .inl ⟨rfl, rfl⟩⟩, ⟨rfl, rfl, rfl, Nat.le_refl _, fun _ _ _ => rfl⟩⟩
      simp [Builtin.append_, run_underlying Tryd.underlying22, run_underlying Tryd.underlying3, sizeOf, typeInfo, hi0, hz2, asInt, go_sem, wrap0]
    · have hge := grownCap_ge w z 0 5
      have hcm2 : grownCap w z 0 5 ≤ maxLen := grownCap_le_maxLen w z 0 5 (by unfold maxLen; omega)
      have e : ([] : List Nat).length + z = z := by simp
      rw [e] at hlen ⊢
      refine ⟨_, _, zeros_nil hi0 hz0 hz1 hz2 w ty z hz (by omega), ⟨by rw [Nat.mul_one]; exact hlen, .inr ⟨w.heap.size, _, _, rfl, hbase, heap_alloc_new w.drew _, hge, hcm2, ?_, ?_⟩⟩, ⟨rfl, rfl, rfl, by simp, fun k hk _ => heap_alloc_old w.drew _ hk⟩⟩
      · simp only [Array.size_append, List.size_toArray, size_zeroCells, vals_length, noughts_length, Value.cells]
        simp
        omega
      · rw [Nat.mul_one, Array.toList_append]
        have e2 : vals .u8 [] ++ vals .u8 (noughts z) = vals .u8 (noughts z) := rfl
        rw [e2]
        have e3 : (vals .u8 (noughts z)).toArray.toList.length = z := by rw [vals_length, noughts_length]
        exact List.take_left' e3
  · rw [Nat.mul_one] at hcs htake
    by_cases hroom : l.length + z ≤ cap
    · refine ⟨_, _, zeros_room hi0 hz0 hz1 hz2 w ty g l.length cap z cur hg hz hroom (by omega), ⟨by rw [Nat.mul_one]; exact hlen, .inr ⟨g, cap, _, rfl, hbg, setRow_heap w g cur _ 5 _ hg, hroom, hcm, ?_, ?_⟩⟩, ⟨rfl, rfl, rfl, by simp, fun k _ hk => setRow_other w g k _ (fun e => hk (by simp [Value.ownBlock, e]))⟩⟩
      · simp only [List.size_toArray, List.length_append, List.length_take, List.length_drop, Array.length_toList, vals_length, noughts_length]
        omega
      · rw [htake, Nat.mul_one, ← hlen]
        exact List.take_left
    · have holds : ∀ j u, (vals .u8 l)[j]? = some u → w.cell? ((⟨g, 0, none⟩ : Addr).add j) = some u := hk.cells (g := g) rfl
      have hfit : Builtin.nextslicecap (l.length + z) cap ≤ 281474976710656 := by
        have := growslice_fits (need := l.length + z) (old := cap) (bytes := 1) (by omega) (by omega)
        rw [Nat.mul_one] at this
        exact this
      have hge := grownCap_ge w (l.length + z) cap 5
      have hcm2 : grownCap w (l.length + z) cap 5 ≤ maxLen := grownCap_le_maxLen w (l.length + z) cap 5 (by unfold maxLen; omega)
      refine ⟨_, _, zeros_grow hi0 hz0 hz1 hz2 w ty ⟨g, 0, none⟩ l.length cap z (vals .u8 l) (vals_length _ _) holds hz hl (by omega) hfit (by omega), ⟨by rw [Nat.mul_one]; exact hlen, .inr ⟨w.heap.size, _, _, rfl, hbase, heap_alloc_new w.drew _, hge, hcm2, ?_, ?_⟩⟩, ⟨rfl, rfl, rfl, by simp, fun k hk _ => heap_alloc_old w.drew _ hk⟩⟩
      · simp only [Array.size_append, List.size_toArray, size_zeroCells, vals_length, noughts_length, Value.cells]
        simp
        omega
      · simp only [Array.toList_append, List.append_assoc]
        rw [← List.append_assoc, Nat.mul_one, ← hlen]
        exact List.take_left
theorem wpList_append_zeros {w : World} {ops : Array Oper} {rest : List Oper} {o : Oper} {a : Act} {Q : Exit → Act → World → Prop} (hgd : o.guard = none) (s x : Operand) (ho : o.op = .call { callee := .builtin .append, args := #[s, x], argTypes := #[22, 3] })
    (base : Nat) (v : Value) (l : List Nat) (hs : a.eval s = v) (hown : w.ownsRow base 5 1 v l.length (vals .u8 l)) (z : Nat) (hx : a.eval x = .int .i64 (z : Int)) (hz : z ≤ 1000) (hl : l.length ≤ 1000) (hbase : base ≤ w.heap.size)
    (h : ∀ v' w', w'.ownsRow base 5 1 v' (l ++ noughts z).length (vals .u8 (l ++ noughts z)) → w.grownBy w' v.ownBlock → wpList Tryd.prog ops Q rest (a.put o.dst v') w') : wpList Tryd.prog ops Q (o :: rest) a w :=
  wpList_plain hgd fun _ hK => by
    obtain ⟨v', w', hr, h2, h3⟩ := run_append_zeros w o.type base v l z hown hz hl hbase
    unfold Oper.wp execOp
    simp only [ho, resolve, invoke, builtin, Sem.run_bind, Sem.run_pure, Result.andThen_ok, List.map_toArray, List.map_cons, List.map_nil, hs, hx, hr]
    exact hK _ _ (h v' w' h2 h3)
end Go.Proofs.YtfkkpbfoipfekaaDoor
