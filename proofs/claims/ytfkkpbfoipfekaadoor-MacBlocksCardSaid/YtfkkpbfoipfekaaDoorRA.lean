/-
  Numbers of one round of the document's sum, step by step as the walk meets them.
-/
import Derived.Test.YtfkkpbfoipfekaaDoorR3
import Derived.Test.YtfkkpbfoipfekaaDoorR4
namespace Go.Proofs.YtfkkpbfoipfekaaDoor
open Go.RowKit
theorem mix64 (i j l : Nat) (hi : i ≤ 32) (hj : j ≤ 32) (hl : l ≤ 32) {x : Nat} (hx : x < Sha.M) : ∃ y s : Nat, bits .xor .i64 ((Sha.rot i x : Nat) : Int) ((Sha.rot j x : Nat) : Int) = (y : Int) ∧ bits .xor .i64 (y : Int) ((Sha.rot l x : Nat) : Int) = (s : Int) ∧ s = Sha.mix i j l x ∧ s < Sha.M := by
  have h1 := Sha.rot_lt hi hx
  have h2 := Sha.rot_lt hj hx
  have h3 := Sha.rot_lt hl hx
  exact ⟨_, _, xor64 _ _ h1 h2, xor64 _ _ (Sha.xor_lt h1 h2) h3, rfl, Sha.mix_lt hi hj hl hx⟩
theorem ch64 {e f g : Nat} (he : e < Sha.M) (hf : f < Sha.M) (hg : g < Sha.M) : ∃ y z s : Nat, bits .and .i64 (e : Int) (f : Int) = (y : Int) ∧ bits .and .i64 (4294967295 - (e : Int)) (g : Int) = (z : Int) ∧ bits .xor .i64 (y : Int) (z : Int) = (s : Int) ∧ s = Sha.ch e f g ∧ s < Sha.M := by
  have h0 : 4294967295 - e < Sha.M := by unfold Sha.M at *; omega
  refine ⟨e &&& f, (4294967295 - e) &&& g, Sha.ch e f g, and64 _ _ he hf, ?_, xor64 _ _ (Sha.and_lt he) (Sha.and_lt h0), rfl, Sha.ch_lt he hg⟩
  rw [← and64 _ _ h0 hg]
  have : ((4294967295 - e : Nat) : Int) = 4294967295 - (e : Int) := by unfold Sha.M at he; omega
  rw [this]
theorem maj64 {a b c : Nat} (ha : a < Sha.M) (hb : b < Sha.M) (hc : c < Sha.M) : ∃ x y z t s : Nat, bits .and .i64 (a : Int) (b : Int) = (x : Int) ∧ bits .and .i64 (a : Int) (c : Int) = (y : Int) ∧ bits .xor .i64 (x : Int) (y : Int) = (z : Int) ∧ bits .and .i64 (b : Int) (c : Int) = (t : Int) ∧ bits .xor .i64 (z : Int) (t : Int) = (s : Int) ∧ s = Sha.maj a b c ∧ s < Sha.M :=
  ⟨_, _, _, _, _, and64 _ _ ha hb, and64 _ _ ha hc, xor64 _ _ (Sha.and_lt ha) (Sha.and_lt ha), and64 _ _ hb hc, xor64 _ _ (Sha.xor_lt (Sha.and_lt ha) (Sha.and_lt ha)) (Sha.and_lt hb), rfl, Sha.maj_lt ha hb⟩
theorem top5 (a b c d e : Nat) (W : World) (ha : a < 4294967296) (hb : b < 4294967296) (hc : c < 4294967296) (hd : d < 4294967296) (he : e < 4294967296) : Calls Tryd.prog 27 #[.int .i64 ((a : Int) + (b : Int) + (c : Int) + (d : Int) + (e : Int))] W fun r w' => r = .returned (.int .i64 (((a + b + c + d + e) % Sha.M : Nat) : Int)) ∧ W = w' := by
  have := top_any (a + b + c + d + e) W (by omega)
  rw [show ((a + b + c + d + e : Nat) : Int) = (a : Int) + (b : Int) + (c : Int) + (d : Int) + (e : Int) by omega] at this
  exact this
theorem top2 (a b : Nat) (W : World) (ha : a < 4294967296) (hb : b < 4294967296) : Calls Tryd.prog 27 #[.int .i64 ((a : Int) + (b : Int))] W fun r w' => r = .returned (.int .i64 (((a + b) % Sha.M : Nat) : Int)) ∧ W = w' := by
  have := top_any (a + b) W (by omega)
  rw [show ((a + b : Nat) : Int) = (a : Int) + (b : Int) by omega] at this
  exact this
theorem sums5 (a b c d e f : Nat) (ha : a < 4294967296) (hb : b < 4294967296) (hc : c < 4294967296) (hd : d < 4294967296) (he : e < 4294967296) (hf : f < 4294967296) :
    IntKind.i64.wrap ((a : Int) + (b : Int)) = (a : Int) + (b : Int) ∧ IntKind.i64.wrap ((a : Int) + (b : Int) + (c : Int)) = (a : Int) + (b : Int) + (c : Int) ∧ IntKind.i64.wrap ((a : Int) + (b : Int) + (c : Int) + (d : Int)) = (a : Int) + (b : Int) + (c : Int) + (d : Int) ∧ IntKind.i64.wrap ((a : Int) + (b : Int) + (c : Int) + (d : Int) + (e : Int)) = (a : Int) + (b : Int) + (c : Int) + (d : Int) + (e : Int) ∧ IntKind.i64.wrap (4294967295 - (f : Int)) = 4294967295 - (f : Int) :=
  ⟨IntWalk.i64_in _ (by omega), IntWalk.i64_in _ (by omega), IntWalk.i64_in _ (by omega), IntWalk.i64_in _ (by omega), IntWalk.i64_in _ (by omega)⟩
theorem sums2 (a b : Nat) (ha : a < 4294967296) (hb : b < 4294967296) : IntKind.i64.wrap ((a : Int) + (b : Int)) = (a : Int) + (b : Int) := IntWalk.i64_in _ (by omega)
/-- Eight numbers of a state lie in block g. -/
def Row8 (w : World) (g : Nat) (s : Sha.St) : Prop := ∀ j, j < 8 → w.cell? ⟨g, j, none⟩ = some (.int .i64 (s.toList.getD j 0 : Nat))
theorem Row8.drewN {w : World} {g : Nat} {s : Sha.St} (h : Row8 w g s) (n : Nat) : Row8 (w.drewN n) g s := h
theorem Row8.of_blk {w : World} {g : Nat} {s : Sha.St} (h : Blk w g 3 (Vs .i64 s.toList)) : Row8 w g s := fun j hj => (h.cell j).trans (Vs_get _ _ _ hj)
theorem Row8.of_own {w : World} {base g n cap : Nat} {s : Sha.St} (h : w.ownsRow base 3 1 (.slice (some ⟨g, 0, none⟩) n cap) n (vals .i64 s.toList)) (hn : n = 8) : Row8 w g s := fun j hj => (h.cellAt j (by omega)).trans (vals_get _ _ _ hj)
theorem Row8.far {w : World} {g p i : Nat} {u : Value} {s : Sha.St} (h : Row8 w g s) (hne : g ≠ p) : Row8 (w.setCell ⟨p, i, none⟩ u) g s := fun j hj => (World.cell?_setCell_other w ⟨p, i, none⟩ ⟨g, j, none⟩ u (fun e => hne (by cases e; rfl))).trans (h j hj)
/-- The state h with the first n numbers added to those of s. -/
def addN (h s : Sha.St) (n : Nat) : List Nat := (List.range 8).map fun j => if j < n then (h.toList.getD j 0 + s.toList.getD j 0) % Sha.M else h.toList.getD j 0
theorem addN_length (h s : Sha.St) (n : Nat) : (addN h s n).length = 8 := by simp [addN]
theorem addN_zero (h s : Sha.St) : addN h s 0 = h.toList := rfl
theorem addN_eight (h s : Sha.St) : addN h s 8 = (Sha.add h s).toList := rfl
theorem addN_get (h s : Sha.St) (n : Nat) (hn : n < 8) : (addN h s n).getD n 0 = h.toList.getD n 0 := by
  simp [addN, List.getD_eq_getElem?_getD, hn]
theorem addN_set (h s : Sha.St) (n : Nat) : (addN h s n).set n ((h.toList.getD n 0 + s.toList.getD n 0) % Sha.M) = addN h s (n + 1) := by
  apply List.ext_getElem
  · simp [addN]
  · intro j h1 h2
    simp only [addN, List.getElem_set, List.getElem_map, List.getElem_range]
    by_cases e : n = j
    · subst e; simp
    · rw [if_neg e]
      by_cases e1 : j < n
      · rw [if_pos e1, if_pos (by omega)]
      · rw [if_neg e1, if_neg (by omega)]
/-- The first n numbers of a state as bytes. -/
def outN (s : Sha.St) (n : Nat) : List Nat := (s.toList.take n).flatMap Sha.be32
theorem outN_eight (s : Sha.St) : outN s 8 = Sha.bytes s := rfl
theorem outN_succ (s : Sha.St) (n : Nat) (hn : n < 8) : outN s (n + 1) = outN s n ++ Sha.be32 (s.toList.getD n 0) := by
  unfold outN
  have hl : n < s.toList.length := hn
  rw [List.take_succ_eq_append_getElem hl, List.flatMap_append, List.flatMap_singleton, List.getD_eq_getElem?_getD, List.getElem?_eq_getElem hl]
  rfl
theorem outN_length (s : Sha.St) (n : Nat) (hn : n ≤ 8) : (outN s n).length = 4 * n := by
  induction n with
  | zero => rfl
  | succ n ih => rw [outN_succ s n (by omega), List.length_append, ih (by omega)]; simp [Sha.be32]; omega
theorem be32_num (x : Nat) (hx : x < 4294967296) : ∃ q0 q1 q2 q3 : Nat, Sha.be32 x = [q0, q1, q2, q3] ∧ ((x : Int) / 16777216 = (q0 : Int) ∧ IntKind.i64.wrap (q0 : Int) = (q0 : Int) ∧ IntKind.u8.wrap (q0 : Int) = (q0 : Int)) ∧
    (IntKind.i64.wrap ((x : Int) / 65536) = (x : Int) / 65536 ∧ ((x : Int) / 65536).tmod 256 = (q1 : Int) ∧ IntKind.u8.wrap (q1 : Int) = (q1 : Int)) ∧
    (IntKind.i64.wrap ((x : Int) / 256) = (x : Int) / 256 ∧ ((x : Int) / 256).tmod 256 = (q2 : Int) ∧ IntKind.u8.wrap (q2 : Int) = (q2 : Int)) ∧ ((x : Int).tmod 256 = (q3 : Int) ∧ IntKind.u8.wrap (q3 : Int) = (q3 : Int)) := by
  have w8 : ∀ q : Nat, q < 256 → IntKind.u8.wrap (q : Int) = (q : Int) := fun q hq => by rw [IntKind.wrap_u8]; omega
  have w64 : ∀ z : Int, 0 ≤ z → z < 4294967296 → IntKind.i64.wrap z = z := fun z h1 h2 => IntWalk.i64_in _ (by omega)
  refine ⟨x / 16777216, x / 65536 % 256, x / 256 % 256, x % 256, ?_, ⟨by omega, w64 _ (by omega) (by omega), w8 _ (by omega)⟩, ⟨w64 _ (by omega) (by omega), ?_, w8 _ (by omega)⟩, ⟨w64 _ (by omega) (by omega), ?_, w8 _ (by omega)⟩, ⟨?_, w8 _ (by omega)⟩⟩
  · unfold Sha.be32
    rw [Nat.mod_eq_of_lt (show x / 16777216 < 256 by omega)]
  · rw [Int.tmod_eq_emod_of_nonneg (by omega)]; omega
  · rw [Int.tmod_eq_emod_of_nonneg (by omega)]; omega
  · rw [Int.tmod_eq_emod_of_nonneg (by omega)]; omega
theorem st_getD_lt {s : Sha.St} (h : s.ok) (j : Nat) : s.toList.getD j 0 < Sha.M := by
  obtain ⟨h0, h1, h2, h3, h4, h5, h6, h7⟩ := h
  apply Sha.getD_lt
  intro x hx
  simp only [Sha.St.toList, List.mem_cons, List.not_mem_nil, or_false] at hx
  rcases hx with rfl | rfl | rfl | rfl | rfl | rfl | rfl | rfl <;> assumption
end Go.Proofs.YtfkkpbfoipfekaaDoor
