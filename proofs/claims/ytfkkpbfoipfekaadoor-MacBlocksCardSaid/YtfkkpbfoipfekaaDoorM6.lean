/-
  What the document's own pad makes: the key, or its sum where it is longer than a block, with noughts behind it, each byte xored with x.
-/
import Derived.Test.YtfkkpbfoipfekaaDoorM5
import Derived.Test.YtfkkpbfoipfekaaDoorR5
import Derived.Test.YtfkkpbfoipfekaaDoorReg4
namespace Go.Proofs.YtfkkpbfoipfekaaDoor
open Go.RowKit
theorem fill64_at (l : List Nat) (k : Nat) (h : k < l.length) : (Mac.fill64 l).getD k 0 = l.getD k 0 := by
  unfold Mac.fill64
  rw [List.getD_eq_getElem?_getD, List.getD_eq_getElem?_getD, List.getElem?_append_left h]
theorem fill64_past (l : List Nat) (k : Nat) (h : l.length ≤ k) : (Mac.fill64 l).getD k 0 = 0 := by
  unfold Mac.fill64
  rw [List.getD_eq_getElem?_getD, List.getElem?_append_right h, List.getElem?_replicate]
  split <;> rfl
set_option maxRecDepth 100000
set_option maxHeartbeats 400000 in
theorem pad_any (w : World) (A : Option Addr) (c : Nat) (key : List Nat) (x : Nat) (hx : x < 256) (hR : RdB w w.heap.size A key) (hAc : A = none → c = 0) (hb : Sha.Bs key) (hlen : key.length ≤ 400) :
    Calls Tryd.prog 17 #[.slice A key.length c, .int .u8 (x : Int)] w fun e w' => ∃ v, e = .returned v ∧ w'.ownsRow w.heap.size 5 1 v 64 (vals .u8 (Mac.xorAll x (Mac.blockOf key))) ∧ Below w.heap.size w w' := by
  have HR := Lib.hid hR
  have HLB := Lib.hid hb
  have HAc := Lib.hid hAc
  clear hR hb hAc
  go_enter Tryd.func17, Tryd.ntmps17
  by_cases hlong : 64 < key.length
  · go_wp2_with fail
    refine (rsum_any w A c key HR.out HAc.out HLB.out hlen).mono ?_
    rintro e w1 ⟨v1, rfl, hown1, hb1⟩
    have hown' : w1.ownsRow w.heap.size 5 1 v1 (Sha.sum key).length (vals .u8 (Sha.sum key)) := by rw [Sha.sum_length]; exact hown1
    obtain ⟨X, cx, hv, hcx, _, hXn, hXr, _⟩ := own_form hown'
    subst hv
    have HXr := Lib.hid hXr
    have HW := Lib.hid hb1
    have HZ := Lib.hid hb1.size
    have HE : Hid (Mac.blockOf key = Mac.fill64 (Sha.sum key)) := Lib.hid (by unfold Mac.blockOf Mac.short; rw [if_pos hlong])
    have HLL : Hid ((Sha.sum key).length ≤ 64) := Lib.hid (by rw [Sha.sum_length]; omega)
    clear hown1 hown' hXr hXn hb1 HLB HR HAc hlong
    have HLB := Lib.hid (Sha.sum_Bs key)
    generalize Sha.sum key = s at *
    go_wp2
    go_loopw [5, 6] (fun v i wr => ∃ k : Nat, k ≤ 64 ∧ i = .int .i64 k ∧ wr.ownsRow w1.heap.size 5 1 v (Mac.xorAll x ((Mac.fill64 s).take k)).length (vals .u8 (Mac.xorAll x ((Mac.fill64 s).take k))) ∧ Below w1.heap.size w1 wr) (fun _ i _ => 64 - (intOf i).toNat)
    case atStart => exact ⟨0, by omega, rfl, World.ownsRow_nil _ _ _ _, Below.refl _ _⟩
    case round =>
      obtain ⟨k, hk, rfl, hown, hbel⟩ := hrel
      have hsz := hbel.size
      have HB := Lib.hid hbel
      have HO := Lib.hid hown
      clear hbel hown
      by_cases hlt : k < 64
      · have HN := Lib.hid (xor_take x (Mac.fill64 s) k (by rw [Mac.fill64_length HLL.out]; exact hlt))
        have hlen : (Mac.xorAll x ((Mac.fill64 s).take k)).length = k := by rw [Mac.xorAll_length, List.length_take, Mac.fill64_length HLL.out]; omega
        have HLen := Lib.hid hlen
        clear hlen
        by_cases hks : k < s.length
        · have hd1 : decide ((k : Int) < (s.length : Int)) = true := by simp; omega
          obtain ⟨ad, rfl, hab, hac⟩ := HXr.out (by omega)
          have hc1 : wr.cell? (ad.add k) = some (.int .u8 (s.getD k 0 : Nat)) := (HB.out.cell (by rw [block_add]; exact hab)).trans (hac k _ (vals_get _ _ _ hks))
          have hy := HLB.out.getD k
          have HY := Lib.hid (fill64_at s k hks)
          clear hac
          generalize s.getD k 0 = y at *
          have hxy := u8_xor_nat x y hx hy
          go_wp2_with (at_builtin; refine wpList_append_bytes rfl _ _ rfl w1.heap.size _ _ rfl (HO.out.alloc _) (some ⟨wr.heap.size, 0, none⟩) 1 [x ^^^ y] rfl (fun h => by cases h) (new_rdb wr [x ^^^ y]) (by rw [HLen.out]; simp; omega) (by simp; omega) ?_; intro v2 w2 hown2 hgrow2 _)
          have HO2 : Hid (w2.ownsRow w1.heap.size 5 1 v2 (Mac.xorAll x ((Mac.fill64 s).take (k + 1))).length (vals .u8 (Mac.xorAll x ((Mac.fill64 s).take (k + 1))))) := Lib.hid (by rw [HN.out, HY.out, Nat.xor_comm y x]; exact hown2)
          have HB2 : Hid (Below w1.heap.size w1 w2) := Lib.hid ((HB.out.alloc hsz _).grown hgrow2 (by simp; omega) (own_row HO.out))
          clear hown2 hgrow2 hc1 hxy
          go_wp2
          go_roundw
          case rel => exact ⟨k + 1, by omega, by go_num, HO2.out, HB2.out⟩
          case measure => simp [intOf]; omega
        · have hd1 : decide ((k : Int) < (s.length : Int)) = false := by simp; omega
          have HY := Lib.hid (fill64_past s k (by omega))
          go_wp2_with (at_builtin; refine wpList_append_bytes rfl _ _ rfl w1.heap.size _ _ rfl (HO.out.alloc _) (some ⟨wr.heap.size, 0, none⟩) 1 [x] rfl (fun h => by cases h) (new_rdb wr [x]) (by rw [HLen.out]; simp; omega) (by simp; omega) ?_; intro v2 w2 hown2 hgrow2 _)
          have HO2 : Hid (w2.ownsRow w1.heap.size 5 1 v2 (Mac.xorAll x ((Mac.fill64 s).take (k + 1))).length (vals .u8 (Mac.xorAll x ((Mac.fill64 s).take (k + 1))))) := Lib.hid (by rw [HN.out, HY.out, Nat.zero_xor]; exact hown2)
          have HB2 : Hid (Below w1.heap.size w1 w2) := Lib.hid ((HB.out.alloc hsz _).grown hgrow2 (by simp; omega) (own_row HO.out))
          clear hown2 hgrow2
          go_wp2
          go_roundw
          case rel => exact ⟨k + 1, by omega, by go_num, HO2.out, HB2.out⟩
          case measure => simp [intOf]; omega
      · obtain rfl : k = 64 := by omega
        have e : (Mac.fill64 s).take 64 = Mac.fill64 s := List.take_of_length_le (by rw [Mac.fill64_length HLL.out]; omega)
        rw [e, Mac.xorAll_length, Mac.fill64_length HLL.out] at HO
        rw [show ((64 : Nat) : Int) = (64 : Int) from rfl]
        go_wp2
        go_ret
        exact ⟨_, rfl, by rw [HE.out]; exact own_lower HO.out HZ.out, HW.out.trans (HB.out.mono HZ.out)⟩
  · have HW := Lib.hid (Below.refl w.heap.size w)
    have HZ := Lib.hid (Nat.le_refl w.heap.size)
    have HE : Hid (Mac.blockOf key = Mac.fill64 key) := Lib.hid (by unfold Mac.blockOf Mac.short; rw [if_neg hlong])
    have HLL : Hid (key.length ≤ 64) := Lib.hid (by omega)
    go_wp2
    go_loopw [5, 6] (fun v i wr => ∃ k : Nat, k ≤ 64 ∧ i = .int .i64 k ∧ wr.ownsRow w.heap.size 5 1 v (Mac.xorAll x ((Mac.fill64 key).take k)).length (vals .u8 (Mac.xorAll x ((Mac.fill64 key).take k))) ∧ Below w.heap.size w wr) (fun _ i _ => 64 - (intOf i).toNat)
    case atStart => exact ⟨0, by omega, rfl, World.ownsRow_nil _ _ _ _, Below.refl _ _⟩
    case round =>
      obtain ⟨k, hk, rfl, hown, hbel⟩ := hrel
      have hsz := hbel.size
      have HB := Lib.hid hbel
      have HO := Lib.hid hown
      clear hbel hown
      by_cases hlt : k < 64
      · have HN := Lib.hid (xor_take x (Mac.fill64 key) k (by rw [Mac.fill64_length HLL.out]; exact hlt))
        have hlen : (Mac.xorAll x ((Mac.fill64 key).take k)).length = k := by rw [Mac.xorAll_length, List.length_take, Mac.fill64_length HLL.out]; omega
        have HLen := Lib.hid hlen
        clear hlen
        by_cases hks : k < key.length
        · have hd1 : decide ((k : Int) < (key.length : Int)) = true := by simp; omega
          obtain ⟨ad, rfl, hab, hac⟩ := HR.out (by omega)
          have hc1 : wr.cell? (ad.add k) = some (.int .u8 (key.getD k 0 : Nat)) := (HB.out.cell (by rw [block_add]; exact hab)).trans (hac k _ (vals_get _ _ _ hks))
          have hy := HLB.out.getD k
          have HY := Lib.hid (fill64_at key k hks)
          clear hac
          generalize key.getD k 0 = y at *
          have hxy := u8_xor_nat x y hx hy
          go_wp2_with (at_builtin; refine wpList_append_bytes rfl _ _ rfl w.heap.size _ _ rfl (HO.out.alloc _) (some ⟨wr.heap.size, 0, none⟩) 1 [x ^^^ y] rfl (fun h => by cases h) (new_rdb wr [x ^^^ y]) (by rw [HLen.out]; simp; omega) (by simp; omega) ?_; intro v2 w2 hown2 hgrow2 _)
          have HO2 : Hid (w2.ownsRow w.heap.size 5 1 v2 (Mac.xorAll x ((Mac.fill64 key).take (k + 1))).length (vals .u8 (Mac.xorAll x ((Mac.fill64 key).take (k + 1))))) := Lib.hid (by rw [HN.out, HY.out, Nat.xor_comm y x]; exact hown2)
          have HB2 : Hid (Below w.heap.size w w2) := Lib.hid ((HB.out.alloc hsz _).grown hgrow2 (by simp; omega) (own_row HO.out))
          clear hown2 hgrow2 hc1 hxy
          go_wp2
          go_roundw
          case rel => exact ⟨k + 1, by omega, by go_num, HO2.out, HB2.out⟩
          case measure => simp [intOf]; omega
        · have hd1 : decide ((k : Int) < (key.length : Int)) = false := by simp; omega
          have HY := Lib.hid (fill64_past key k (by omega))
          go_wp2_with (at_builtin; refine wpList_append_bytes rfl _ _ rfl w.heap.size _ _ rfl (HO.out.alloc _) (some ⟨wr.heap.size, 0, none⟩) 1 [x] rfl (fun h => by cases h) (new_rdb wr [x]) (by rw [HLen.out]; simp; omega) (by simp; omega) ?_; intro v2 w2 hown2 hgrow2 _)
          have HO2 : Hid (w2.ownsRow w.heap.size 5 1 v2 (Mac.xorAll x ((Mac.fill64 key).take (k + 1))).length (vals .u8 (Mac.xorAll x ((Mac.fill64 key).take (k + 1))))) := Lib.hid (by rw [HN.out, HY.out, Nat.zero_xor]; exact hown2)
          have HB2 : Hid (Below w.heap.size w w2) := Lib.hid ((HB.out.alloc hsz _).grown hgrow2 (by simp; omega) (own_row HO.out))
          clear hown2 hgrow2
          go_wp2
          go_roundw
          case rel => exact ⟨k + 1, by omega, by go_num, HO2.out, HB2.out⟩
          case measure => simp [intOf]; omega
      · obtain rfl : k = 64 := by omega
        have e : (Mac.fill64 key).take 64 = Mac.fill64 key := List.take_of_length_le (by rw [Mac.fill64_length HLL.out]; omega)
        rw [e, Mac.xorAll_length, Mac.fill64_length HLL.out] at HO
        rw [show ((64 : Nat) : Int) = (64 : Int) from rfl]
        go_wp2
        go_ret
        exact ⟨_, rfl, by rw [HE.out]; exact own_lower HO.out HZ.out, HW.out.trans (HB.out.mono HZ.out)⟩
end Go.Proofs.YtfkkpbfoipfekaaDoor
