/-
  What stateBytes and padding compute: the bytes of a state, most significant first; what follows a message of a size up to the end of its last block; each in a row of the call's own; nothing that was there before has changed.
-/
import Derived.Test.YtfkkpbfoipfekaaDoorW3
namespace Go.Proofs.YtfkkpbfoipfekaaDoor
open Go.RowKit
theorem Tryd.info5 : (Tryd.prog.info? 5).map (fun i => (i.zero, i.size, i.bytes)) = some (some (.int .u8 0), 1, 1) := by kernel_rfl
theorem index8 (s : Sha.St) (k : Nat) (hk : k < 8) (w : World) : (Instr.index 52 (.agg (Vs .u32 s.toList)) (.int .i64 (k : Int))).run Tryd.prog w = .ok (.int .u32 (s.toList.getD k 0 : Nat)) w := by
  obtain ⟨a, b, c, d, e, f, g, h⟩ := s
  obtain rfl | rfl | rfl | rfl | rfl | rfl | rfl | rfl : k = 0 ∨ k = 1 ∨ k = 2 ∨ k = 3 ∨ k = 4 ∨ k = 5 ∨ k = 6 ∨ k = 7 := by omega
  all_goals kernel_rfl
def pre (s : Sha.St) (k : Nat) : List Nat := (s.toList.take k).flatMap Sha.be32
theorem pre_length (s : Sha.St) (k : Nat) (hk : k ≤ 8) : (pre s k).length = 4 * k := by
  obtain ⟨a, b, c, d, e, f, g, h⟩ := s
  match k, hk with
  | 0, _ => rfl
  | 1, _ => rfl
  | 2, _ => rfl
  | 3, _ => rfl
  | 4, _ => rfl
  | 5, _ => rfl
  | 6, _ => rfl
  | 7, _ => rfl
  | 8, _ => rfl
theorem pre_succ (s : Sha.St) (k : Nat) (hk : k < 8) : pre s (k + 1) = pre s k ++ Sha.be32 (s.toList.getD k 0) := by
  unfold pre
  have hl : k < s.toList.length := hk
  rw [List.take_succ_eq_append_getElem hl, List.flatMap_append, List.getD_eq_getElem?_getD, List.getElem?_eq_getElem hl]
  simp
theorem row_cells (w : World) (t : TypeId) (l : List Value) : ∀ j u, l[j]? = some u → (w.alloc (.cells l.toArray t)).cell? ((⟨w.heap.size, 0, none⟩ : Addr).add j) = some u := by
  intro j u hu
  rw [Addr.add_mid, Nat.zero_add, (Blk.new w t l.toArray).cell]
  simpa using hu
theorem St.getD_lt {s : Sha.St} (h : s.ok) (k : Nat) : s.toList.getD k 0 < Sha.M := by
  obtain ⟨a, b, c, d, e, f, g, hh⟩ := s
  obtain ⟨h0, h1, h2, h3, h4, h5, h6, h7⟩ := h
  match k with
  | 0 => exact h0
  | 1 => exact h1
  | 2 => exact h2
  | 3 => exact h3
  | 4 => exact h4
  | 5 => exact h5
  | 6 => exact h6
  | 7 => exact h7
  | n + 8 => exact (by decide : 0 < Sha.M)
theorem be32_vals {x : Nat} (hx : x < 4294967296) : [Value.int IntKind.u8 ((x : Int) / 16777216), Value.int IntKind.u8 ((x : Int) / 65536 % 256), Value.int IntKind.u8 ((x : Int) / 256 % 256), Value.int IntKind.u8 ((x : Int) % 256)] = vals .u8 (Sha.be32 x) := by
  have e : ((x / 16777216 % 256 : Nat) : Int) = (x : Int) / 16777216 := by omega
  have e1 : ((x / 65536 % 256 : Nat) : Int) = (x : Int) / 65536 % 256 := by omega
  have e2 : ((x / 256 % 256 : Nat) : Int) = (x : Int) / 256 % 256 := by omega
  have e3 : ((x % 256 : Nat) : Int) = (x : Int) % 256 := by omega
  rw [← e, ← e1, ← e2, ← e3]
  rfl
theorem own_lower {w : World} {base base' : Nat} {e : TypeId} {size n : Nat} {v : Value} {xs : List Value} (h : w.ownsRow base e size v n xs) (hb : base' ≤ base) : w.ownsRow base' e size v n xs := by
  obtain ⟨h1, h2⟩ := h
  refine ⟨h1, ?_⟩
  rcases h2 with h2 | ⟨g, cap, cur, hv, hg, hr⟩
  · exact .inl h2
  · exact .inr ⟨g, cap, cur, hv, Nat.le_trans hb hg, hr⟩
set_option maxRecDepth 100000
set_option maxHeartbeats 1000000 in
theorem stateBytes_any (s : Sha.St) (hs : s.ok) (w : World) :
    Calls Tryd.prog 31 #[.agg (Vs .u32 s.toList)] w fun e w' => ∃ v, e = .returned v ∧ w'.ownsRow w.heap.size 5 1 v 32 (vals .u8 (Sha.bytes s)) ∧ Below w.heap.size w w' := by
  obtain ⟨i0, hi0, hz0, hz1, hz2⟩ := info_parts Tryd.info5
  have HO := Lib.hid hs
  clear hs
  go_enter Tryd.func31, Tryd.ntmps31
  go_wp2_with (first
    | (refine wpList_make_own _ rfl _ _ 22 rfl (w.heap.size + 1) 5 i0 _ 1 Tryd.underlying22 hi0 hz0 hz1 _ _ _ 32 rfl rfl rfl (by rw [hz2]; decide) (by simp [maxLen]) (by simp) ?_; intro w1 hown1 hgrow1)
    | (refine wpList_load_row rfl 52 _ rfl w.heap.size rfl 52 _ _ _ ((Blk.new w 52 (Vs .u32 s.toList)).grown hgrow1 (by simp)) Tryd.underlying52 rfl (info42_of rfl) ?_))
  have hb1 : Below w.heap.size w w1 := ((Below.refl _ w).alloc (Nat.le_refl _) (.cells (Vs .u32 s.toList) 52)).grown hgrow1 (by simp) (by simp)
  simp only [World.size_alloc] at hown1
  have HOW := Lib.hid hown1
  have HB := Lib.hid hb1
  clear hown1 hgrow1 hb1
  go_loopw [3, 8] (fun v i wr => ∃ k : Nat, k ≤ 8 ∧ i = .int .i64 k ∧ v = .slice (some ⟨w.heap.size + 1, 0, none⟩) (4 * k) 32 ∧ wr.ownsRow (w.heap.size + 1) 5 1 (.slice (some ⟨w.heap.size + 1, 0, none⟩) (4 * k) 32) (4 * k) (vals .u8 (pre s k)) ∧ Below w.heap.size w wr) (fun _ i _ => 8 - (intOf i).toNat)
  case atStart => exact ⟨0, by omega, rfl, rfl, HOW.out, HB.out⟩
  case round =>
    obtain ⟨k, hk, rfl, rfl, hown, hbel⟩ := hrel
    clear HOW HB
    by_cases hlt : k < 8
    · have hix := index8 s k hlt
      have hx := St.getD_lt HO.out k
      have HN := Lib.hid (pre_succ s k hlt)
      generalize s.toList.getD k 0 = x at hix hx HN
      unfold Sha.M at hx
      have hsz := hbel.size
      go_wp2_with (at_builtin; refine wpList_append_fits _ rfl _ _ 22 rfl (w.heap.size + 1) 5 i0 1 Tryd.underlying22 hi0 hz1 (w.heap.size + 1) (4 * k) 32 _ rfl (hown.alloc _) ⟨wr.heap.size, 0, none⟩ 4 4 [_, _, _, _] rfl rfl (row_cells wr 5 _) ?h1 (by omega) ?_)
      case h1 => simp [Value.oneCell']
      intro w2 hown2 hgrow2
      have HR : Hid (w2.ownsRow (w.heap.size + 1) 5 1 (.slice (some ⟨w.heap.size + 1, 0, none⟩) (4 * (k + 1)) 32) (4 * (k + 1)) (vals .u8 (pre s (k + 1)))) := Lib.hid (by
        rw [be32_vals hx, ← vals_append, ← HN.out] at hown2
        exact hown2)
      have HB := Lib.hid ((hbel.alloc hsz _).grown hgrow2 (by simp; omega) (fun g hg => by have : w.heap.size + 1 = g := by simpa using hg
                                                                                           omega))
      clear hown2 hgrow2 hown hbel hix
      go_wp2
      go_roundw
      case rel => exact ⟨k + 1, by omega, by go_num, rfl, HR.out, HB.out⟩
      case measure => simp [intOf]; omega
    · obtain rfl : k = 8 := by omega
      have HR := Lib.hid (own_lower hown (Nat.le_succ _))
      have HB := Lib.hid hbel
      clear hown hbel
      go_wp2
      go_ret
      exact ⟨_, rfl, HR.out, HB.out⟩
end Go.Proofs.YtfkkpbfoipfekaaDoor
