/-
  The document's example is read as it should be.
-/
import Derived.Test.YtkenananejgcpaaGreatDoorJPa13
namespace Go.Proofs.YtkenananejgcpaaGreatDoor.Jsn
open Go.RowKit Txt
theorem ValC.mono {t : List UInt8} {d e a : Nat} {v : V} {b : Nat} (h : ValC t d a v b) (he : d ≤ e) : ValC t e a v b := fun pp r w hr hr1 hp => h pp r w (by omega) hr1 hp
def blkb (b : UInt8) : Bool := b.toNat == 32 || b.toNat == 9 || b.toNat == 10 || b.toNat == 13
theorem blkb_iff (b : UInt8) : blkb b = true ↔ blk1 b := by unfold blkb blk1; simp [or_assoc]
def skipsB (t : List UInt8) (a b : Nat) : Bool := decide (a ≤ b) && decide (b ≤ t.length) && (List.range b).all (fun i => decide (i < a) || blkb (nb t i)) && !blkb (nb t b)
theorem skips_of {t : List UInt8} {a b : Nat} (h : skipsB t a b = true) : Skips t a b := by
  unfold skipsB at h
  simp only [Bool.and_eq_true, decide_eq_true_eq, Bool.not_eq_true', List.all_eq_true, List.mem_range, Bool.or_eq_true] at h
  obtain ⟨⟨⟨h1, h2⟩, h3⟩, h4⟩ := h
  refine ⟨h1, h2, fun i ha hb => ?_, fun hb => ?_⟩
  · rcases h3 i hb with h | h
    · omega
    · exact (blkb_iff _).1 h
  · rw [(blkb_iff _).2 hb] at h4
    cases h4
def exT : List UInt8 := [123, 32, 34, 97, 34, 32, 58, 32, 91, 49, 44, 32, 45, 48, 46, 53, 101, 51, 44, 32, 34, 92, 117, 48, 48, 101, 57, 92, 110, 34, 93, 32, 125]
def exL : List V := [.mk 3 false [49] [] [], .mk 3 false [45, 48, 46, 53, 101, 51] [] [], .mk 4 false [195, 169, 10] [] []]
def exV : V := .mk 6 false [] [] [.mk [97] (.mk 5 false [] exL [])]
theorem ex_len : exT.length ≤ 100000 := by decide
theorem ex_num1 : ValC exT 0 9 (.mk 3 false [49] [] []) 10 := value_num exT 0 9 9 1 (by decide) (by decide) (skips_of (by decide)) ex_len
theorem ex_num2 : ValC exT 0 12 (.mk 3 false [45, 48, 46, 53, 101, 51] [] []) 18 := value_num exT 0 12 12 6 (by decide) (by decide) (skips_of (by decide)) ex_len
theorem ex_qd : Qd exT 21 [195, 169, 10] 30 := by
  refine Qd.esc 21 233 [195, 169] 27 [10] 30 (by decide) (by decide) (fun pp rm w h => escaped_unit pp exT 21 rm 233 w h (by decide) ⟨by decide, by decide, by decide, by decide, by decide, by decide⟩ (by decide) ex_len) (by decide) (by decide) (by rfl) (by decide) ?_
  refine Qd.esc 27 10 [10] 29 [] 30 (by decide) (by decide) (fun pp rm w h => escaped_short pp exT 27 rm w h (by decide) (by decide) (by decide) ex_len) (by decide) (by decide) (by rfl) (by decide) ?_
  exact Qd.done 29 (by decide) (by decide)
theorem ex_str : ValC exT 0 20 (.mk 4 false [195, 169, 10] [] []) 30 := value_str exT 0 20 20 [195, 169, 10] 30 (by decide) (by decide) ex_qd (by decide) (skips_of (by decide)) ex_len
theorem ex_list : ValC exT 1 7 (.mk 5 false [] exL []) 31 := by
  refine value_list exT 0 7 8 31 3 (fun k => [9, 12, 20].getD k 0) (fun k => [10, 18, 30].getD k 0) (fun k => [10, 18, 30].getD k 0) exL (by decide) rfl (by decide) ⟨by decide, skips_of (by decide), (fun h => by cases h), (fun _ => by decide), ?_, ?_, (fun _ => by decide)⟩ ?_ (skips_of (by decide)) ex_len
  · intro k hk
    match k, hk with
    | 0, _ => exact skips_of (by decide)
    | 1, _ => exact skips_of (by decide)
    | 2, _ => exact skips_of (by decide)
  · intro k hk
    match k, hk with
    | 0, _ => exact ⟨by decide, by decide, skips_of (by decide)⟩
    | 1, _ => exact ⟨by decide, by decide, skips_of (by decide)⟩
  · intro k v hk
    match k, hk with
    | 0, hk => simp [exL] at hk; subst hk; exact ex_num1
    | 1, hk => simp [exL] at hk; subst hk; exact ex_num2
    | 2, hk => simp [exL] at hk; subst hk; exact ex_str
    | k + 3, hk => simp [exL] at hk
theorem ex_val : ValC exT 3 0 exV 33 := by
  refine (value_mem exT 1 0 0 33 1 (fun _ => 2) (fun _ => 31) (fun _ => 32) (fun _ => 5) (fun _ => 6) [.mk [97] (.mk 5 false [] exL [])] (by decide) rfl (by decide) ⟨by decide, skips_of (by decide), (fun h => by cases h), (fun _ => by decide), fun _ _ => skips_of (by decide), (fun k hk => by omega), (fun _ => by decide)⟩ ?_ (by decide) (by intro m hm; simp at hm; subst hm; decide) (skips_of (by decide)) ex_len).mono (by decide)
  intro k m hk
  match k, hk with
  | 0, hk =>
    simp at hk
    subst hk
    exact ⟨by decide, by decide, Qd.plain 3 [] 5 (by decide) (by decide) (by decide) (by decide) (Qd.done 4 (by decide) (by decide)), skips_of (by decide), by decide, by decide, ex_list⟩
  | k + 1, hk => simp at hk
theorem ex_wrong : wrong exT 0 < 0 := by decide +kernel
theorem ex_right : exV.right = true := by
  have e1 : rightSelf exV = true := by decide +kernel
  have e2 : rightSelf (.mk 5 false [] exL []) = true := by decide +kernel
  have e3 : ∀ x ∈ exL, x.right = true := by
    intro x hx
    simp only [exL, List.mem_cons, List.not_mem_nil, or_false] at hx
    rcases hx with rfl | rfl | rfl <;> rw [V.right_eq] <;> decide +kernel
  have e4 : (V.mk 5 false [] exL []).right = true := by
    rw [V.right_eq, e2, Bool.true_and, List.all_eq_true]
    intro x hx
    exact e3 x (by simpa [V.kids, V.kind, V.list, V.mem] using hx)
  rw [V.right_eq, e1, Bool.true_and, List.all_eq_true]
  intro x hx
  simp [exV, V.kids, V.kind, V.mem, M.val] at hx
  subst hx
  exact e4
theorem ex_depth : exV.depth = 3 := by
  simp [exV, exL, V.depth_eq, V.kids, V.kind, V.list, V.mem, maxL, M.val]
theorem ex_txt : exV.txt false 0 = [123, 34, 97, 34, 58, 91, 49, 44, 45, 48, 46, 53, 101, 51, 44, 34, 195, 169, 92, 110, 34, 93, 125] := by
  decide +kernel
theorem ex_tame : exV.tame := by
  have e3 : ∀ x ∈ exL, x.tame := by
    intro x hx
    simp only [exL, List.mem_cons, List.not_mem_nil, or_false] at hx
    rcases hx with rfl | rfl | rfl <;> rw [V.tame_eq] <;> simp [V.kids, V.kind, V.list, V.mem, V.text]
  have e4 : (V.mk 5 false [] exL []).tame := by
    rw [V.tame_eq]
    refine ⟨by simp [V.text], by simp [V.mem], fun x hx => e3 x (by simpa [V.kids, V.list, V.mem] using hx)⟩
  rw [V.tame_eq]
  refine ⟨by simp [exV, V.text], by simp [exV, V.mem, M.name], fun x hx => ?_⟩
  simp [exV, V.kids, V.list, V.mem, M.val] at hx
  subst hx
  exact e4
theorem ex_size : exV.size ≤ 90000 := by decide
end Go.Proofs.YtkenananejgcpaaGreatDoor.Jsn
