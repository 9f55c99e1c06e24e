/-
  What Put and Get do: four bytes of a number, the highest first; the number in four bytes; other bytes than four are refused.
-/
import Derived.Test.YtaoaegkfejlgkaaC4
import Derived.Deep.QuietTactic
import Derived.BigQuiet
namespace Go.Proofs.Ytaoaegkfejlgkaa
open Go.RowKit
/-- The four bytes of a number. -/
def put4 (n : Nat) : List Nat := [n / 16777216, n / 65536 % 256, n / 256 % 256, n % 256]
set_option maxHeartbeats 400000 in
theorem put_any (n : Nat) (w : World) (hn : n < 4294967296) :
    Calls Try.prog 42 #[.int .u32 (n : Int)] w fun e w' => e = .returned (.slice (some ⟨w.heap.size, 0, none⟩) 4 4) ∧ w.alloc (.cells (Vs .u8 (put4 n)) 5) = w' := by
  go_enter Try.func42, Try.ntmps42
  go_wp2
  go_ret
  exact ⟨rfl, rfl⟩
set_option maxHeartbeats 400000 in
theorem get_bad (w : World) (A : Option Addr) (n c : Nat) (h : n ≠ 4) :
    Calls Try.prog 51 #[.slice A n c] w fun e w' => e = .returned (.tuple #[.int .u32 0, .int .i64 11]) ∧ w = w' := by
  have hd : ((n : Int) != 4) = true := by simp; omega
  go_enter Try.func51, Try.ntmps51
  go_wp2
  go_ret2
  exact ⟨rfl, rfl⟩
/-- The number in four bytes. -/
def num4 (l : List Nat) : Nat := l.getD 0 0 * 16777216 + l.getD 1 0 * 65536 + l.getD 2 0 * 256 + l.getD 3 0
theorem get_nums (x0 x1 x2 x3 : Nat) (h0 : x0 < 256) (h1 : x1 < 256) (h2 : x2 < 256) (h3 : x3 < 256) : ∃ y0 y1 y2 z1 z2 z3 : Nat,
    IntKind.u32.wrap (x0 : Int) = (x0 : Int) ∧ IntKind.u32.wrap (x1 : Int) = (x1 : Int) ∧ IntKind.u32.wrap (x2 : Int) = (x2 : Int) ∧ IntKind.u32.wrap (x3 : Int) = (x3 : Int) ∧
    IntKind.u32.wrap ((x0 : Int) * 16777216) = (y0 : Int) ∧ IntKind.u32.wrap ((x1 : Int) * 65536) = (y1 : Int) ∧ IntKind.u32.wrap ((x2 : Int) * 256) = (y2 : Int) ∧
    bits .or .u32 (y0 : Int) (y1 : Int) = (z1 : Int) ∧ bits .or .u32 (z1 : Int) (y2 : Int) = (z2 : Int) ∧ bits .or .u32 (z2 : Int) (x3 : Int) = (z3 : Int) ∧ z3 = x0 * 16777216 + x1 * 65536 + x2 * 256 + x3 := by
  have o1 : x0 * 16777216 ||| x1 * 65536 = x0 * 16777216 + x1 * 65536 := by
    have := Nat.two_pow_add_eq_or_of_lt (i := 24) (b := x1 * 65536) (by omega) x0
    rw [Nat.mul_comm] at this
    exact this.symm
  have o2 : x0 * 16777216 + x1 * 65536 ||| x2 * 256 = x0 * 16777216 + x1 * 65536 + x2 * 256 := by
    have := Nat.two_pow_add_eq_or_of_lt (i := 16) (b := x2 * 256) (by omega) (x0 * 256 + x1)
    rw [show 2 ^ 16 * (x0 * 256 + x1) = x0 * 16777216 + x1 * 65536 by omega] at this
    exact this.symm
  have o3 : x0 * 16777216 + x1 * 65536 + x2 * 256 ||| x3 = x0 * 16777216 + x1 * 65536 + x2 * 256 + x3 := by
    have := Nat.two_pow_add_eq_or_of_lt (i := 8) (b := x3) (by omega) (x0 * 65536 + x1 * 256 + x2)
    rw [show 2 ^ 8 * (x0 * 65536 + x1 * 256 + x2) = x0 * 16777216 + x1 * 65536 + x2 * 256 by omega] at this
    exact this.symm
  refine ⟨x0 * 16777216, x1 * 65536, x2 * 256, x0 * 16777216 + x1 * 65536, x0 * 16777216 + x1 * 65536 + x2 * 256, x0 * 16777216 + x1 * 65536 + x2 * 256 + x3, ?_, ?_, ?_, ?_, ?_, ?_, ?_, ?_, ?_, ?_, rfl⟩
  · rw [IntKind.wrap_u32]; omega
  · rw [IntKind.wrap_u32]; omega
  · rw [IntKind.wrap_u32]; omega
  · rw [IntKind.wrap_u32]; omega
  · rw [IntKind.wrap_u32]; omega
  · rw [IntKind.wrap_u32]; omega
  · rw [IntKind.wrap_u32]; omega
  · rw [u32_or_nat _ _ (by omega) (by omega), o1]
  · rw [u32_or_nat _ _ (by omega) (by omega), o2]
  · rw [u32_or_nat _ _ (by omega) (by omega), o3]
set_option maxHeartbeats 400000 in
theorem get_ok (w : World) (A : Option Addr) (c : Nat) (B : Nat) (l : List Nat) (hl : l.length = 4) (hr : RdB w B A l) (hb : Crc.Bs l) :
    Calls Try.prog 51 #[.slice A 4 c] w fun e w' => e = .returned (.tuple #[.int .u32 (num4 l : Nat), .int .i64 0]) ∧ ∃ k, w' = w.drewN k := by
  obtain ⟨ad, rfl, _, hcs⟩ := hr (by omega)
  have c0 : w.cell? ad = some (.int .u8 (l.getD 0 0 : Nat)) := hcs 0 _ (vals_get _ _ 0 (by omega))
  have c1 : w.cell? ⟨ad.block, ad.off + 1, none⟩ = some (.int .u8 (l.getD 1 0 : Nat)) := hcs 1 _ (vals_get _ _ 1 (by omega))
  have c2 : w.cell? ⟨ad.block, ad.off + 2, none⟩ = some (.int .u8 (l.getD 2 0 : Nat)) := hcs 2 _ (vals_get _ _ 2 (by omega))
  have c3 : w.cell? ⟨ad.block, ad.off + 3, none⟩ = some (.int .u8 (l.getD 3 0 : Nat)) := hcs 3 _ (vals_get _ _ 3 (by omega))
  obtain ⟨y0, y1, y2, z1, z2, z3, e0, e1, e2, e3, p0, p1, p2, q1, q2, q3, hz⟩ := get_nums _ _ _ _ (hb.getD 0) (hb.getD 1) (hb.getD 2) (hb.getD 3)
  have HZ : Hid (num4 l = z3) := Lib.hid hz.symm
  clear hcs hb hr hl hz
  generalize l.getD 0 0 = x0 at *; generalize l.getD 1 0 = x1 at *; generalize l.getD 2 0 = x2 at *; generalize l.getD 3 0 = x3 at *
  go_enter Try.func51, Try.ntmps51
  go_wp2
  go_quiet (fail)
  go_wp2
  go_ret2
  rw [HZ.out]
  exact ⟨rfl, _, rfl⟩
theorem put4_num (n : Nat) : num4 (put4 n) = n := by
  show n / 16777216 * 16777216 + n / 65536 % 256 * 65536 + n / 256 % 256 * 256 + n % 256 = n
  omega
theorem put4_Bs {n : Nat} (h : n < 4294967296) : Crc.Bs (put4 n) := fun x hx => by
  simp only [put4, List.mem_cons, List.not_mem_nil, or_false] at hx
  omega
theorem num4_lt {l : List Nat} (h : Crc.Bs l) : num4 l < 4294967296 := by
  have h0 := h.getD 0; have h1 := h.getD 1; have h2 := h.getD 2; have h3 := h.getD 3
  unfold num4
  omega
theorem num4_put {l : List Nat} (h : Crc.Bs l) (hl : l.length = 4) : put4 (num4 l) = l := by
  obtain ⟨a, b, c, d, rfl⟩ : ∃ a b c d, l = [a, b, c, d] := by
    match l, hl with
    | [a, b, c, d], _ => exact ⟨a, b, c, d, rfl⟩
  have h0 := h.getD 0; have h1 := h.getD 1; have h2 := h.getD 2; have h3 := h.getD 3
  simp only [List.getD_cons_zero, List.getD_cons_succ] at h0 h1 h2 h3
  unfold put4 num4
  simp only [List.getD_cons_zero, List.getD_cons_succ]
  congr 1
  · omega
  congr 1
  · omega
  congr 1
  · omega
  congr 1
  omega
end Go.Proofs.Ytaoaegkfejlgkaa
