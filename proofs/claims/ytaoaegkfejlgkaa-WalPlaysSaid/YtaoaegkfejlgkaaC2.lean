/-
  What New, Write and (*Running).Sum do: a new checksum of no bytes; its state behind more bytes; the sum of the bytes so far, the running checksum left as it was.
-/
import Derived.Test.YtaoaegkfejlgkaaC1
import Derived.Test.YtaoaegkfejlgkaaMem
namespace Go.Proofs.Ytaoaegkfejlgkaa
open Go.RowKit
/-- A running checksum lies in block g, in state s. -/
def Hst (w : World) (g s : Nat) : Prop := Blk w g 98 #[.int .u32 (s : Int)]
theorem block_add (a : Addr) (n : Nat) : (a.add n).block = a.block := by unfold Addr.add; split <;> rfl
theorem add_add (a : Addr) (i j : Nat) : (a.add i).add j = a.add (i + j) := by
  unfold Addr.add
  by_cases hi : i = 0 <;> by_cases hj : j = 0 <;> simp [hi, hj, Nat.add_assoc]
section
variable {a w : World} {g : Nat}
theorem gb_put (h : a.grownBy w (some g)) (i : Nat) (u : Value) : a.grownBy (w.setCell ⟨g, i, none⟩ u) (some g) :=
  ⟨h.os, h.tape, h.output, by simpa using h.size, fun k hk hne => (Below.heap_setCell w ⟨g, i, none⟩ u k (fun e => hne (by rw [e]))).trans (h.block k hk hne)⟩
theorem gb_refl (w : World) (g : Nat) : w.grownBy w (some g) := ⟨rfl, rfl, rfl, Nat.le_refl _, fun _ _ _ => rfl⟩
end
/-- A slice at A reads as these bytes, none of them in block g. -/
def Rd (w : World) (g : Nat) (A : Option Addr) (l : List Nat) : Prop := 0 < l.length → ∃ ad, A = some ad ∧ ad.block ≠ g ∧ ad.block < w.heap.size ∧ ∀ j u, (vals .u8 l)[j]? = some u → w.cell? (ad.add j) = some u
theorem Rd.grown {w w' : World} {g : Nat} {A : Option Addr} {l : List Nat} (h : Rd w g A l) (hg : w.grownBy w' (some g)) : Rd w' g A l := fun hl => by
  obtain ⟨ad, e, h1, h2, h3⟩ := h hl
  refine ⟨ad, e, h1, Nat.lt_of_lt_of_le h2 hg.size, fun j u hu => ?_⟩
  rw [← h3 j u hu]
  exact World.cell?_of_block (hg.block _ (by rw [block_add]; exact h2) (by rw [block_add]; intro e; injection e with e; exact h1 e))
set_option maxHeartbeats 400000 in
theorem new_any (w : World) : Calls Try.prog 56 #[] w fun e w' => e = .returned (.pointer (some ⟨w.heap.size, 0, none⟩)) ∧ w.alloc (.cells #[.int .u32 4294967295] 98) = w' := by
  go_enter Try.func56, Try.ntmps56
  go_wp2
  go_ret
  exact ⟨rfl, rfl⟩
theorem inv_num {s : Nat} (h : s < 4294967296) : bits .xor .u32 IntKind.u32.max (s : Int) = ((4294967295 - s : Nat) : Int) := by
  have e := u32_xor_nat 4294967295 s (by decide) h
  rw [Nat.xor_comm, ← Crc.inv_xor h] at e
  exact e
set_option maxHeartbeats 400000 in
theorem hsum_any (w : World) (g s : Nat) (hH : Hst w g s) (hs : s < 4294967296) :
    Calls Try.prog 58 #[.pointer (some ⟨g, 0, none⟩)] w fun e w' => e = .returned (.int .u32 ((4294967295 - s : Nat) : Int)) ∧ w = w' := by
  have hc : w.cell? ⟨g, 0, none⟩ = some (.int .u32 (s : Int)) := by rw [hH.cell]; rfl
  have HE := Lib.hid (inv_num hs)
  clear hH
  go_enter Try.func58, Try.ntmps58
  go_wp2
  go_ret
  exact ⟨ret_num HE.out, rfl⟩
set_option maxRecDepth 100000
set_option maxHeartbeats 400000 in
theorem write_any (w : World) (g s : Nat) (A : Option Addr) (c : Nat) (bs : List Nat) (hH : Hst w g s) (hs : s < 4294967296) (hR : Rd w g A bs) (hb : Crc.Bs bs) (hm : bs.length ≤ 9223372036854775807) :
    Calls Try.prog 57 #[.pointer (some ⟨g, 0, none⟩), .slice A bs.length c] w fun e w' => e = .returned (.tuple #[]) ∧ Hst w' g (Crc.run s bs) ∧ w.grownBy w' (some g) := by
  have HH := Lib.hid hH
  have HR := Lib.hid hR
  have HBs := Lib.hid hb
  clear hH hR hb
  go_enter Try.func57, Try.ntmps57
  go_wp2
  go_loopw [8] (fun i wr => ∃ k : Nat, k ≤ bs.length ∧ i = .int .i64 k ∧ Hst wr g (Crc.run s (bs.take k)) ∧ w.grownBy wr (some g)) (fun i _ => bs.length - (intOf i).toNat)
  case atStart => exact ⟨0, by omega, rfl, by simpa [Crc.run_nil] using HH.out, gb_refl w g⟩
  case round =>
    obtain ⟨k, hk, rfl, hH, hg⟩ := hrel
    by_cases hlt : k < bs.length
    · obtain ⟨ad, rfl, hne, hadb, hcs⟩ := (HR.out.grown hg) (by omega)
      have hc1 : wr.cell? (ad.add k) = some (.int .u8 (bs.getD k 0 : Nat)) := hcs k _ (vals_get _ _ _ hlt)
      have hc2 : wr.cell? ⟨g, 0, none⟩ = some (.int .u32 (Crc.run s (bs.take k) : Nat)) := by rw [hH.cell]; rfl
      have hf2 : wr.frozen? ⟨g, 0, none⟩ = false := hH.frozen 0
      have hx := HBs.out.getD k
      have hst := Crc.run_lt (bs.take k) hs (HBs.out.take k)
      have HS := Lib.hid (Crc.run_snoc s bs k hlt)
      have HH2 := Lib.hid hH
      have HG := Lib.hid hg
      clear hcs hH hg
      generalize Crc.run s (bs.take k) = st at *
      generalize bs.getD k 0 = x at *
      have hxor := u32_xor_nat st x hst (by omega)
      have hst2 := Crc.xor_byte hst hx
      go_wp2_with fail
      refine (shiftByte_any (st ^^^ x) _ hst2).mono ?_
      rintro e w' ⟨rfl, rfl⟩
      have hst3 := Crc.steps_lt 8 hst2
      clear hxor
      generalize Crc.steps 8 (st ^^^ x) = st2 at *
      go_wp2
      go_roundw
      case rel => exact ⟨k + 1, by omega, by go_num, by rw [HS.out]; exact HH2.out.put 0 _, gb_put HG.out 0 _⟩
      case measure => simp [intOf]; omega
    · obtain rfl : k = bs.length := by omega
      have HH2 := Lib.hid hH
      have HG := Lib.hid hg
      clear hH hg
      rw [List.take_length] at HH2
      go_wp2
      go_end0
      exact ⟨rfl, HH2.out, HG.out⟩
end Go.Proofs.Ytaoaegkfejlgkaa
