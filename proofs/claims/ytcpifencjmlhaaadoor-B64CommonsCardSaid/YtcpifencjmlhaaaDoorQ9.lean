/-
  The common alphabet: its letters, the padding; and what the statements' own common does: the document's letters with these in place of the others, padded.
-/
import Derived.Test.YtcpifencjmlhaaaDoorQ4
import Derived.Test.YtcpifencjmlhaaaDoorQ7
import Derived.Test.YtcpifencjmlhaaaDoorQ8
namespace Go.Proofs.YtcpifencjmlhaaaDoor.B64
open Go.RowKit
/-- The letters of the common alphabet. -/
def std : List Nat := [65, 66, 67, 68, 69, 70, 71, 72, 73, 74, 75, 76, 77, 78, 79, 80, 81, 82, 83, 84, 85, 86, 87, 88, 89, 90, 97, 98, 99, 100, 101, 102, 103, 104, 105, 106, 107, 108, 109, 110, 111, 112, 113, 114, 115, 116, 117, 118, 119, 120, 121, 122, 48, 49, 50, 51, 52, 53, 54, 55, 56, 57, 43, 47]
theorem std_str : str std = ⟨#[65, 66, 67, 68, 69, 70, 71, 72, 73, 74, 75, 76, 77, 78, 79, 80, 81, 82, 83, 84, 85, 86, 87, 88, 89, 90, 97, 98, 99, 100, 101, 102, 103, 104, 105, 106, 107, 108, 109, 110, 111, 112, 113, 114, 115, 116, 117, 118, 119, 120, 121, 122, 48, 49, 50, 51, 52, 53, 54, 55, 56, 57, 43, 47]⟩ := by kernel_rfl
theorem std_alpha : Alpha std := ⟨rfl, by unfold Bs; decide +kernel, by decide +kernel, by decide +kernel⟩
def sub (c : Nat) : Nat := if c = 45 then 43 else if c = 95 then 47 else c
theorem sub_letter : ∀ v, v < 64 → sub (url.getD v 0) = std.getD v 0 := by decide +kernel
theorem lets_sub : ∀ l, Ls l → (lets url l).map sub = lets std l
  | [], _ => rfl
  | v :: l, h => by
    show sub (url.getD v 0) :: (lets url l).map sub = std.getD v 0 :: lets std l
    rw [sub_letter v h.head, lets_sub l h.tail]
/-- So many more make a multiple of four. -/
def pad (n : Nat) : Nat := (4 - n % 4) % 4
/-- What bytes are written as in the common alphabet. -/
def stdL (bs : List Nat) : List Nat := lets std (enc bs) ++ List.replicate (pad (len bs.length)) 61
theorem stdL_Bs (bs : List Nat) : Bs (stdL bs) := (lets_Bs std_alpha.2.1 _).append (fun x hx => by rw [List.eq_of_mem_replicate hx]; decide)
theorem stdL_length (bs : List Nat) : (stdL bs).length = len bs.length + pad (len bs.length) := by
  unfold stdL
  rw [List.length_append, lets_length, enc_length, List.length_replicate]
/-- Behind k letters. -/
def subs (l : List Nat) (k : Nat) : List Nat := (l.take k).map sub ++ l.drop k
theorem subs_length (l : List Nat) (k : Nat) : (subs l k).length = l.length := by
  unfold subs
  rw [List.length_append, List.length_map, ← List.length_append, List.take_append_drop]
theorem subs_get (l : List Nat) (k : Nat) (h : k < l.length) : (subs l k).getD k 0 = l.getD k 0 := by
  unfold subs
  rw [List.getD_eq_getElem?_getD, List.getElem?_append_right (by simp; omega)]
  simp [List.getD_eq_getElem?_getD, Nat.min_eq_left (Nat.le_of_lt h)]
theorem subs_step (l : List Nat) (k : Nat) (h : k < l.length) : subs l (k + 1) = (subs l k).set k (sub (l.getD k 0)) := by
  unfold subs
  rw [List.set_append_right _ _ (by simp; omega), List.length_map, List.length_take, Nat.min_eq_left (Nat.le_of_lt h), Nat.sub_self, List.drop_eq_getElem_cons h, List.set_cons_zero, List.take_add_one, List.getElem?_eq_getElem h, Option.toList_some, List.map_append, List.append_assoc, List.getD_eq_getElem?_getD, List.getElem?_eq_getElem h, Option.getD_some]
  rfl
theorem set_same (l : List Nat) (k c : Nat) (h : l.getD k 0 = c) (hk : k < l.length) : l.set k c = l := by
  rw [← h, List.getD_eq_getElem?_getD, List.getElem?_eq_getElem hk, Option.getD_some]
  exact List.set_getElem_self hk
theorem subs_all (l : List Nat) : subs l l.length = l.map sub := by unfold subs; simp
def slen : Value → Nat
  | .slice _ n _ => n
  | _ => 0
set_option maxRecDepth 100000
set_option maxHeartbeats 1000000 in
theorem common_any (w : World) (A : Option Addr) (c : Nat) (bs : List Nat) (hR : RdB w w.heap.size A bs) (hb : Bs bs) (hm : bs.length ≤ 100000) :
    Calls Tryd.prog 8 #[.slice A bs.length c] w fun e w' => e = .returned (.string (str (stdL bs))) ∧ Below w.heap.size w w' := by
  have HC := Lib.hid (rEncode_any w A c bs hR hb hm)
  have HBs := Lib.hid hb
  clear hR hb
  go_enter Tryd.func8, Tryd.ntmps8
  go_wp2_with fail
  refine HC.out.mono ?_
  rintro e w1 ⟨rfl, hb1⟩
  clear HC
  have hll : (encU bs).length ≤ 200000 := by rw [encU_length]; unfold len; omega
  obtain ⟨cap, w2, hcv, hrow, hb2⟩ := conv_str w1 (encU bs) (encU_Bs bs) (by omega)
  have hz1 := hb1.size
  have HB2 : Hid (Below w.heap.size w w2) := Lib.hid (hb1.trans (hb2.mono hz1))
  have HW : Hid (RowAt w2 w1.heap.size cap (encU bs)) := Lib.hid hrow
  have HF : Hid (stdL bs = (encU bs).map sub ++ List.replicate (pad (encU bs).length) 61) := Lib.hid (by unfold stdL encU; rw [lets_sub _ (enc_Ls bs HBs.out), lets_length, enc_length])
  have HBe := Lib.hid (encU_Bs bs)
  clear hrow hb2 hb1
  generalize str (encU bs) = se at *
  generalize encU bs = l0 at *
  go_wp2
  clear hcv
  generalize w1.heap.size = g at *
  go_loopw [11] (fun i wr => ∃ k : Nat, k ≤ l0.length ∧ i = .int .i64 k ∧ RowAt wr g cap (subs l0 k) ∧ Below w.heap.size w wr) (fun i _ => l0.length - (intOf i).toNat)
  case atStart => exact ⟨0, by omega, rfl, HW.out, HB2.out⟩
  case round =>
    obtain ⟨k, hk, rfl, hrow, hbel⟩ := hrel
    clear HW HB2
    by_cases hlt : k < l0.length
    · have hsl := subs_length l0 k
      have hc1 : wr.cell? ⟨g, k, none⟩ = some (.int .u8 (l0.getD k 0 : Nat)) := by
        rw [← subs_get l0 k hlt]
        exact hrow.cell k (by omega)
      have hcap : l0.length ≤ cap := by obtain ⟨_, _, _, _, _, h, _⟩ := hrow; omega
      have hf1 : wr.frozen? ⟨g, k, none⟩ = false := hrow.frozen k (by omega)
      have hx := HBe.out.getD k
      have HG := Lib.hid (subs_get l0 k hlt)
      have HS := Lib.hid (subs_step l0 k hlt)
      have HSL := Lib.hid hsl
      have HW := Lib.hid hrow
      have HB := Lib.hid hbel
      clear hrow hbel hsl
      generalize l0.getD k 0 = x at *
      by_cases h45 : x = 45
      · subst h45
        rw [show ((45 : Nat) : Int) = (45 : Int) from rfl] at hc1
        have HW2 : Hid (RowAt (wr.setCell ⟨g, k, none⟩ (.int .u8 43)) g cap (subs l0 (k + 1))) := Lib.hid (by rw [HS.out]; exact HW.out.put k 43)
        have HB3 : Hid (Below w.heap.size w (wr.setCell ⟨g, k, none⟩ (.int .u8 43))) := Lib.hid (below_put HB.out hz1 _ _)
        go_wp2
        go_roundw
        case rel => exact ⟨k + 1, by omega, by go_num, HW2.out, HB3.out⟩
        case measure => simp [intOf]; omega
      have d45 : ((x : Int) == 45) = false := beq_false_of_ne (by omega)
      by_cases h95 : x = 95
      · subst h95
        rw [show ((95 : Nat) : Int) = (95 : Int) from rfl] at hc1
        have HW2 : Hid (RowAt (wr.setCell ⟨g, k, none⟩ (.int .u8 47)) g cap (subs l0 (k + 1))) := Lib.hid (by rw [HS.out]; exact HW.out.put k 47)
        have HB3 : Hid (Below w.heap.size w (wr.setCell ⟨g, k, none⟩ (.int .u8 47))) := Lib.hid (below_put HB.out hz1 _ _)
        clear d45 h45
        go_wp2
        go_roundw
        case rel => exact ⟨k + 1, by omega, by go_num, HW2.out, HB3.out⟩
        case measure => simp [intOf]; omega
      have d95 : ((x : Int) == 95) = false := beq_false_of_ne (by omega)
      have HW2 : Hid (RowAt wr g cap (subs l0 (k + 1))) := Lib.hid (by
        rw [HS.out, show sub x = x by unfold sub; rw [if_neg h45, if_neg h95], set_same _ _ _ HG.out (by rw [HSL.out]; exact hlt)]
        exact HW.out)
      go_wp2
      go_roundw
      case rel => exact ⟨k + 1, by omega, by go_num, HW2.out, HB.out⟩
      case measure => simp [intOf]; omega
    · obtain rfl : k = l0.length := by omega
      rw [subs_all] at hrow
      have HW := Lib.hid hrow
      have HB := Lib.hid hbel
      have HSL : Hid ((l0.map sub).length = l0.length) := Lib.hid (by simp)
      clear hrow hbel hlt hk HBe
      go_wp2
      generalize hmm : l0.map sub = m at *
      clear hmm
      go_loopw [3] (fun v wr => ∃ (L : List Nat) (j g' cap' : Nat), v = .slice (some ⟨g', 0, none⟩) L.length cap' ∧ L = m ++ List.replicate j 61 ∧ j ≤ pad l0.length ∧ w.heap.size ≤ g' ∧ RowAt wr g' cap' L ∧ Below w.heap.size w wr) (fun v _ => l0.length + 4 - slen v)
      case atStart => exact ⟨m, 0, g, cap, by rw [HSL.out], by simp, Nat.zero_le _, hz1, HW.out, HB.out⟩
      case round =>
        obtain ⟨L, j, g', cap', rfl, hL, hj, hg', hrow, hbel⟩ := hrel
        clear HW HB
        have HW := Lib.hid hrow
        have HB := Lib.hid hbel
        have hLl : L.length = l0.length + j := by rw [hL, List.length_append, List.length_replicate, HSL.out]
        have HL := Lib.hid hL
        have HLl := Lib.hid hLl
        have hp : pad l0.length = (4 - l0.length % 4) % 4 := rfl
        clear hrow hbel hL
        by_cases hq : L.length % 4 = 0
        · have hd : ((L.length : Int) % 4 != 0) = false := by rw [bne_eq_false_iff_eq]; omega
          have HJ : Hid (j = pad l0.length) := Lib.hid (by omega)
          have hcv : (convert 22 9 (.slice (some ⟨g', 0, none⟩) L.length cap')).run Tryd.prog wr = .ok (.string (str L)) wr := conv_bytes HW.out.rd
          clear hLl hp hq
          generalize hsL : str L = sL at *
          have HsL := Lib.hid hsL
          clear hsL
          go_wp2
          go_ret
          refine ⟨?_, HB.out⟩
          rw [HF.out, ← HJ.out, ← HL.out, HsL.out]
          rfl
        · have hd : ((L.length : Int) % 4 != 0) = true := by rw [bne_iff_ne]; omega
          have HJ : Hid (j + 1 ≤ pad l0.length) := Lib.hid (by omega)
          have hlen : L.length + 1 ≤ 1000000 := by rw [hp] at hj; omega
          have hms : L.length < l0.length + 4 := by rw [hp] at hj; omega
          clear hLl hp hq
          go_wp2_with (at_builtin; refine wpList_append_row rfl _ _ rfl w.heap.size g' cap' L rfl HW.out hg' HB.out.size 61 rfl hlen ?_; intro g2 cap2 w4 hrow4 hg2 hbel4)
          have HW4 := Lib.hid hrow4
          have HB4 := Lib.hid (HB.out.trans hbel4)
          clear hrow4 hbel4 HW HB
          go_wp2
          go_roundw
          case rel => exact ⟨L ++ [61], j + 1, g2, cap2, by rw [List.length_append, List.length_singleton], by rw [HL.out, List.replicate_succ', List.append_assoc], HJ.out, hg2, HW4.out, HB4.out⟩
          case measure => show l0.length + 4 - (L.length + 1) < l0.length + 4 - L.length; omega
end Go.Proofs.YtcpifencjmlhaaaDoor.B64
