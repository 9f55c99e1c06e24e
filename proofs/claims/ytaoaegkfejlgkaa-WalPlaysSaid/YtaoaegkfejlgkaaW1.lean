/-
  The small functions of package wal: Cost, isBlank; a copy of bytes; numbers and sums of package crc, over bytes.
-/
import Derived.Test.YtaoaegkfejlgkaaWDisk3
import Derived.Test.YtaoaegkfejlgkaaBytesJ
import Derived.Test.YtaoaegkfejlgkaaC5
namespace Go.Proofs.Ytaoaegkfejlgkaa.Dsk
open Go.RowKit
theorem Rd.rdb {w : World} {S : Nat → Prop} {A : Option Addr} {l : List UInt8} (h : Rd w S A l) : RdB w w.heap.size A (ns l) := fun hl => by
  rw [ns_length] at hl
  obtain ⟨ad, e, _, h2, h3⟩ := h hl
  exact ⟨ad, e, h2, fun j u hu => h3 j u (by rw [vals_ns] at hu; exact hu)⟩
theorem Vs_be4 {n : Nat} (h : n < 4294967296) : Vs .u8 (put4 n) = (bc (be4 n)).toArray := by
  unfold Vs
  rw [← ns_be4 h, vals_ns]
theorem wput_any (n : Nat) (w : World) (hn : n < 4294967296) : Calls Try.prog 42 #[.int .u32 (n : Int)] w fun e w' => e = .returned (.slice (some ⟨w.heap.size, 0, none⟩) 4 4) ∧ w.alloc (.cells (bc (be4 n)).toArray 5) = w' := by
  have := put_any n w hn
  rwa [Vs_be4 hn] at this
theorem wget_any (w : World) (A : Option Addr) (c : Nat) (S : Nat → Prop) (l : List UInt8) (hl : l.length = 4) (hr : Rd w S A l) :
    Calls Try.prog 51 #[.slice A 4 c] w fun e w' => e = .returned (.tuple #[.int .u32 (num l : Nat), .int .i64 0]) ∧ ∃ k, w' = w.drewN k :=
  get_ok w A c w.heap.size (ns l) (by rw [ns_length, hl]) hr.rdb (ns_Bs l)
theorem wsum_one (w : World) (g : Nat) (A : Option Addr) (n c : Nat) (S : Nat → Prop) (l : List UInt8) (hg : w.heap.size = g) (hn : l.length = n) (hr : Rd w S A l) (hc : l.length ≤ c) (hm : l.length ≤ 2000000) :
    Calls Try.prog 52 #[.slice (some ⟨g, 0, none⟩) 1 1] (w.alloc (.cells #[.slice A n c] 33)) fun e w' => e = .returned (.int .u32 (csum l : Nat)) ∧ Below w.heap.size w w' :=
  sum_one w g A n c (ns l) hg (by rw [ns_length, hn]) hr.rdb (by rw [ns_length]; exact hc) (ns_Bs l) (by rw [ns_length]; omega)
/-- Four parts, in a list that was made for the call. -/
theorem parts_four {w : World} {A0 A1 A2 A3 : Option Addr} {c0 c1 c2 c3 : Nat} {l0 l1 l2 l3 : List Nat} (h0 : RdB w w.heap.size A0 l0) (h1 : RdB w w.heap.size A1 l1) (h2 : RdB w w.heap.size A2 l2) (h3 : RdB w w.heap.size A3 l3)
    (k0 : l0.length ≤ c0) (k1 : l1.length ≤ c1) (k2 : l2.length ≤ c2) (k3 : l3.length ≤ c3) (C : Array Value) (hC : C = #[.slice A0 l0.length c0, .slice A1 l1.length c1, .slice A2 l2.length c2, .slice A3 l3.length c3]) :
    Parts (w.alloc (.cells C 33)) (w.alloc (.cells C 33)).heap.size (some ⟨w.heap.size, 0, none⟩) [l0, l1, l2, l3] := fun i hi => by
  have up : ∀ {A : Option Addr} {l : List Nat}, RdB w w.heap.size A l → RdB (w.alloc (.cells C 33)) (w.alloc (.cells C 33)).heap.size A l := fun hr => (hr.below ((Below.refl _ _).alloc (Nat.le_refl _) _)).more (by simp)
  have hb := Go.Proofs.Ytaoaegkfejlgkaa.Blk.new w 33 C
  have hc : ∀ j, (w.alloc (.cells C 33)).cell? ((⟨w.heap.size, 0, none⟩ : Addr).add j) = C[j]? := fun j => by rw [Addr.add_mid, Nat.zero_add, hb.cell]
  match i, hi with
  | 0, _ => exact ⟨_, A0, c0, rfl, by simp, by rw [hc, hC]; rfl, k0, up h0⟩
  | 1, _ => exact ⟨_, A1, c1, rfl, by simp, by rw [hc, hC]; rfl, k1, up h1⟩
  | 2, _ => exact ⟨_, A2, c2, rfl, by simp, by rw [hc, hC]; rfl, k2, up h2⟩
  | 3, _ => exact ⟨_, A3, c3, rfl, by simp, by rw [hc, hC]; rfl, k3, up h3⟩
theorem wsum_four (w : World) (g : Nat) (A0 A1 A2 A3 : Option Addr) (n0 n1 n2 n3 c0 c1 c2 c3 : Nat) (S0 S1 S2 S3 : Nat → Prop) (l0 l1 l2 l3 : List UInt8) (hg : w.heap.size = g) (h0 : Rd w S0 A0 l0) (h1 : Rd w S1 A1 l1) (h2 : Rd w S2 A2 l2) (h3 : Rd w S3 A3 l3)
    (e0 : l0.length = n0) (e1 : l1.length = n1) (e2 : l2.length = n2) (e3 : l3.length = n3) (k0 : l0.length ≤ c0) (k1 : l1.length ≤ c1) (k2 : l2.length ≤ c2) (k3 : l3.length ≤ c3) (hm : l0.length + l1.length + l2.length + l3.length ≤ 2000000) (C : Array Value) (hC : C = #[.slice A0 n0 c0, .slice A1 n1 c1, .slice A2 n2 c2, .slice A3 n3 c3]) :
    Calls Try.prog 52 #[.slice (some ⟨g, 0, none⟩) 4 4] (w.alloc (.cells C 33)) fun e w' => e = .returned (.int .u32 (csum (l0 ++ (l1 ++ (l2 ++ l3))) : Nat)) ∧ Below w.heap.size w w' := by
  subst hg e0 e1 e2 e3
  have hf : [ns l0, ns l1, ns l2, ns l3].flatten = ns (l0 ++ (l1 ++ (l2 ++ l3))) := by simp [ns_append]
  refine (sum_any _ (some ⟨w.heap.size, 0, none⟩) 4 [ns l0, ns l1, ns l2, ns l3] (parts_four h0.rdb h1.rdb h2.rdb h3.rdb (by rw [ns_length]; exact k0) (by rw [ns_length]; exact k1) (by rw [ns_length]; exact k2) (by rw [ns_length]; exact k3) C (by simp only [ns_length]; exact hC)) ?_ (by simp) ?_).mono ?_
  · intro p hp
    simp only [List.mem_cons, List.not_mem_nil, or_false] at hp
    rcases hp with rfl | rfl | rfl | rfl <;> exact ns_Bs _
  · rw [hf, ns_length]; simp only [List.length_append]; omega
  · rintro e w' ⟨rfl, hb'⟩
    rw [hf]
    exact ⟨rfl, ((Below.refl w.heap.size w).alloc (Nat.le_refl _) _).trans (hb'.mono (by simp))⟩
/-! Cost. -/
def costOf (n : Nat) : Nat := if n < 1 ∨ 65536 < n then 0 else 9 + n
theorem costOf_ok {n : Nat} (h1 : 1 ≤ n) (h2 : n ≤ 65536) : costOf n = 9 + n := by unfold costOf; rw [if_neg (by omega)]
theorem costOf_bad {n : Nat} (h : n < 1 ∨ 65536 < n) : costOf n = 0 := by unfold costOf; rw [if_pos h]
theorem cost_ok (w : World) (n : Nat) (h1 : 1 ≤ n) (h2 : n ≤ 65536) : Calls Try.prog 23 #[.int .i64 (n : Int)] w fun e w' => e = .returned (.int .i64 ((9 + n : Nat) : Int)) ∧ w = w' := by
  have e1 : ¬ (n : Int) < 1 := by omega
  have e2 : ¬ (65536 : Int) < n := by omega
  have HE : Hid ((9 : Int) + n = ((9 + n : Nat) : Int)) := Lib.hid (by omega)
  go_enter Try.func23, Try.ntmps23
  go_wp2
  go_ret
  exact ⟨ret_num HE.out, rfl⟩
theorem cost_bad (w : World) (n : Nat) (h : n < 1 ∨ 65536 < n) : Calls Try.prog 23 #[.int .i64 (n : Int)] w fun e w' => e = .returned (.int .i64 (0 : Int)) ∧ w = w' := by
  have hx : (n : Int) < 1 ∨ (¬ (n : Int) < 1 ∧ (65536 : Int) < n) := by omega
  clear h
  rcases hx with h1 | ⟨h1, h2⟩
  all_goals
    go_enter Try.func23, Try.ntmps23
    go_wp2
    go_ret
    exact ⟨rfl, rfl⟩
theorem cost_any (w : World) (n : Nat) : Calls Try.prog 23 #[.int .i64 (n : Int)] w fun e w' => e = .returned (.int .i64 (costOf n : Nat)) ∧ w = w' := by
  by_cases h : n < 1 ∨ 65536 < n
  · rw [costOf_bad h]; exact cost_bad w n h
  · rw [costOf_ok (by omega) (by omega)]; exact cost_ok w n (by omega) (by omega)
/-! isBlank. -/
theorem blank_take (l : List UInt8) (k : Nat) (hk : k < l.length) : blankB (l.take (k + 1)) = (blankB (l.take k) && l.getD k 0 == 0) := by
  unfold blankB
  rw [List.take_succ_eq_append_getElem hk, List.getD_eq_getElem?_getD, List.getElem?_eq_getElem hk]
  simp only [List.all_append, List.all_cons, List.all_nil, Bool.and_true, Option.getD_some]
theorem blank_not {l : List UInt8} {k : Nat} (h : l.getD k 0 ≠ 0) : blankB l = false := by
  cases hb : blankB l with
  | false => rfl
  | true => exact absurd (blankB_iff.1 hb k) h
theorem isBlank_any (w : World) (S : Nat → Prop) (A : Option Addr) (c : Nat) (l : List UInt8) (hR : Rd w S A l) (hl : l.length ≤ 2000000) :
    Calls Try.prog 44 #[.slice A l.length c] w fun e w' => e = .returned (.bool (blankB l)) ∧ w = w' := by
  have HR := Lib.hid hR
  have HL := Lib.hid hl
  clear hR hl
  go_enter Try.func44, Try.ntmps44
  go_wp2
  go_loop [7] (fun i => ∃ k : Nat, k ≤ l.length ∧ i = .int .i64 k ∧ blankB (l.take k) = true) (fun i => l.length - (intOf i).toNat)
  case atStart => exact ⟨0, Nat.zero_le _, rfl, rfl⟩
  case round =>
    obtain ⟨k, hk, rfl, hb⟩ := hrel
    have HB := Lib.hid hb
    clear hb
    by_cases hlt : k < l.length
    · obtain ⟨ad, rfl, _, _, hcs⟩ := HR.out (by omega)
      have hc1 : w.cell? (ad.add k) = some (.int .u8 ((l.getD k 0).toNat : Nat)) := hcs k _ (bc_get _ _ hlt)
      have HN := Lib.hid (blank_take l k hlt)
      have HM := Lib.hid (@blank_not l k)
      clear hcs
      generalize l.getD k 0 = x at *
      have hl := HL.out
      by_cases hx : x = 0
      · subst hx
        have e0 : ((UInt8.toNat 0 : Nat) : Int) = 0 := rfl
        rw [e0] at hc1
        go_wp2
        go_round
        case rel => exact ⟨k + 1, by omega, by go_num, by rw [HN.out, HB.out]; rfl⟩
        case measure => simp [intOf]; omega
      · have hne : (((x.toNat : Nat) : Int) != 0) = true := by
          have : x.toNat ≠ 0 := fun h => hx (UInt8.toNat_inj.1 h)
          simp; omega
        have HXn := Lib.hid hx
        clear hx
        go_wp2
        go_ret
        exact ⟨ret_bool (HM.out HXn.out).symm, rfl⟩
    · obtain rfl : k = l.length := by omega
      rw [List.take_length] at HB
      go_wp2
      go_ret
      exact ⟨ret_bool HB.out.symm, rfl⟩
/-! A copy of bytes. -/
theorem nil_no (w : World) (ad : Addr) (n c : Nat) : (binOp .eql 33 (.slice (some ad) n c) (.slice none 0 0)).run Try.prog w = .ok (.bool false) w := by
  rfl
theorem nil_yes (w : World) (n c : Nat) : (binOp .eql 33 (.slice none n c) (.slice none 0 0)).run Try.prog w = .ok (.bool true) w := by
  rfl
theorem nil_no' (w : World) (ad : Addr) (n c : Nat) : (binOp .neq 33 (.slice (some ad) n c) (.slice none 0 0)).run Try.prog w = .ok (.bool true) w := by
  rfl
theorem nil_yes' (w : World) (n c : Nat) : (binOp .neq 33 (.slice none n c) (.slice none 0 0)).run Try.prog w = .ok (.bool false) w := by
  rfl
theorem rd_of_rdb {w : World} {B : Nat} {S : Nat → Prop} {A : Option Addr} {l : List UInt8} (h : RdB w B A (ns l)) (hb : ∀ ad, A = some ad → S ad.block ∧ ad.block < w.heap.size) : Rd w S A l := fun hl => by
  obtain ⟨ad, e, _, h2⟩ := h (by rw [ns_length]; exact hl)
  exact ⟨ad, e, (hb ad e).1, (hb ad e).2, fun j u hu => h2 j u (by rw [vals_ns]; exact hu)⟩
/-- Bytes that were made: where they lie, and what they are. -/
def Fresh (w : World) (l : List UInt8) (e : Ending) (w' : World) : Prop := ∃ p c, e = .returned (.slice (some ⟨p, 0, none⟩) l.length c) ∧ l.length ≤ c ∧ c ≤ maxLen ∧ w.heap.size ≤ p ∧ Rd w' (· = p) (some ⟨p, 0, none⟩) l ∧ Below w.heap.size w w'
set_option maxRecDepth 100000 in
theorem clone_any (w : World) (S : Nat → Prop) (ad : Addr) (c : Nat) (l : List UInt8) (hR : Rd w S (some ad) l) (h1 : 1 ≤ l.length) (hl : l.length ≤ 900000) :
    Calls Try.prog 29 #[.slice (some ad) l.length c] w (Fresh w l) := by
  have HR := Lib.hid hR
  have HL := Lib.hid hl
  have H1 := Lib.hid h1
  have HO : Hid ((w.alloc (.cells #[] 5)).ownsRow w.heap.size 5 1 (.slice (some ⟨w.heap.size, 0, none⟩) 0 0) ([] : List Nat).length (vals .u8 [])) := Lib.hid (empty_own w)
  have HRb := Lib.hid ((hR.below (w' := w.alloc (.cells #[] 5)) (B := w.heap.size) ((Below.refl _ _).alloc (Nat.le_refl _) _) (S := S)))
  clear hR hl h1 HRb
  have HR2 : Hid (RdB (w.alloc (.cells #[] 5)) (w.alloc (.cells #[] 5)).heap.size (some ad) (ns l)) := Lib.hid ((HR.out.rdb.below ((Below.refl _ _).alloc (Nat.le_refl _) _)).more (by simp))
  have hnil := fun w => nil_no w ad l.length c
  go_enter Try.func29, Try.ntmps29
  go_wp2_with (at_builtin; go_must (refine wpList_append_bytes rfl _ _ rfl w.heap.size _ [] rfl HO.out (some ad) c (ns l) (show Value.slice (some ad) l.length c = .slice (some ad) (ns l).length c by rw [ns_length]) (fun h => by cases h) HR2.out (by rw [ns_length, List.length_nil, Nat.zero_add]; exact Nat.le_trans HL.out (by decide)) (by simp) ?_); intro v4 w4 hown4 hgrow4 _)
  rw [List.nil_append] at hown4
  obtain ⟨A, c', rfl, h5, h6, h7, h8, h9⟩ := own_form hown4
  have HB4 : Hid (Below w.heap.size w w4) := Lib.hid (((Below.refl w.heap.size w).alloc (Nat.le_refl _) (.cells #[] 5)).grown hgrow4 (by simp) (fun j hj => by have hj2 : some w.heap.size = some j := hj; injection hj2 with hj2; omega))
  rw [ns_length] at h5 ⊢
  have HA := Lib.hid h9
  have HD := Lib.hid h8
  clear h7 h8 h9 hgrow4 hown4
  have hA : ∃ p, A = some ⟨p, 0, none⟩ ∧ w.heap.size ≤ p ∧ p < w4.heap.size := by
    obtain ⟨ad, e, _⟩ := HD.out (by rw [ns_length]; exact H1.out)
    obtain ⟨p, e2, h2⟩ := HA.out ad e
    exact ⟨p, by rw [e, e2], h2⟩
  obtain ⟨p, rfl, hp, hp2⟩ := hA
  go_ret
  exact ⟨p, c', rfl, h5, h6, hp, rd_of_rdb HD.out (fun ad e => by injection e with e; subst e; exact ⟨rfl, hp2⟩), HB4.out⟩
end Go.Proofs.Ytaoaegkfejlgkaa.Dsk
