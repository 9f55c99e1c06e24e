/-
  What the document's own Expand makes: of any number up to 400 so many bytes of what the key is spread to.
-/
import Derived.Test.YtfkkpbfoipfekaaDoorM9
namespace Go.Proofs.YtfkkpbfoipfekaaDoor
open Go.RowKit
theorem below_own {w w1 w2 : World} {base : Nat} {v : Value} {n : Nat} {xs : List Value} (h : Below w.heap.size w w1) (hown : w1.ownsRow base 5 1 v n xs) (hg : w1.grownBy w2 v.ownBlock) (hle : w.heap.size ≤ base) : Below w.heap.size w w2 :=
  h.grown hg h.size (fun j hj => Nat.le_trans hle (own_row hown j hj))
set_option maxRecDepth 100000
set_option maxHeartbeats 400000 in
theorem rexpand_any (w : World) (A B : Option Addr) (c d : Nat) (key info : List Nat) (N : Nat) (hN : N ≤ 400) (hR : RdB w w.heap.size A key) (hAc : A = none → c = 0) (hb : Sha.Bs key) (hRi : RdB w w.heap.size B info) (hBd : B = none → d = 0) (hbi : Sha.Bs info) (hlk : key.length ≤ 400) (hli : info.length ≤ 200) :
    Calls Tryd.prog 14 #[.slice A key.length c, .slice B info.length d, .int .i64 (N : Int)] w fun e w' => ∃ X cx, e = .returned (.slice X N cx) ∧ RdB w' w'.heap.size X (spreadTo key info N) ∧ N ≤ cx ∧ Below w.heap.size w w' := by
  have HR := Lib.hid hR
  have HB := Lib.hid hb
  have HAc := Lib.hid hAc
  have HRi := Lib.hid hRi
  have HBi := Lib.hid hbi
  have HBd := Lib.hid hBd
  clear hR hb hAc hRi hbi hBd
  go_enter Tryd.func14, Tryd.ntmps14
  go_wp2
  go_loopw [7, 8, 9] (fun v p i wr => ∃ j : Nat, j ≤ 20 ∧ i = .int .i64 (j + 1 : Nat) ∧ wr.ownsRow w.heap.size 5 1 v (Mac.spread key info j).length (vals .u8 (Mac.spread key info j)) ∧ wr.ownsRow w.heap.size 5 1 p (Mac.blk key info j).length (vals .u8 (Mac.blk key info j)) ∧ Below w.heap.size w wr) (fun v _ _ _ => 5000 - lenV v)
  case atStart => exact ⟨0, by omega, rfl, World.ownsRow_nil _ _ _ _, World.ownsRow_nil _ _ _ _, Below.refl _ _⟩
  case round =>
    obtain ⟨j, hj, rfl, hv, hp, hbel⟩ := hrel
    have hsz := hbel.size
    have hsl := Mac.spread_length key info j
    obtain ⟨X, cx, hvx, hcx, hcm, hXn, hXr, _⟩ := own_form hv
    obtain ⟨Y, cy, hpy, hcy, _, hYn, hYr, _⟩ := own_form hp
    rw [hsl] at hvx
    subst hvx hpy
    have HV := Lib.hid hv
    have HP := Lib.hid hp
    have HBl := Lib.hid hbel
    have HXr := Lib.hid hXr
    have HYr := Lib.hid hYr
    have HYn := Lib.hid hYn
    have HXn := Lib.hid hXn
    have HSL := Lib.hid hsl
    clear hv hp hbel hXr hYr hYn hXn hsl
    have HE := Lib.hid (empty_own wr)
    have HBe : Hid (Below w.heap.size w (wr.alloc (.cells #[] 5))) := Lib.hid (HBl.out.alloc hsz _)
    have hbl : (Mac.blk key info j).length ≤ 32 := by
      cases j with
      | zero => simp [Mac.blk]
      | succ j => rw [Mac.blk_length]; omega
    by_cases hlt : 32 * j < N
    · have hd1 : decide (((32 * j : Nat) : Int) < (N : Int)) = true := by simp; omega
      have hnum : IntKind.u8.wrap ((j : Int) + 1) = (j : Int) + 1 := by rw [IntKind.wrap_u8]; omega
      have HBL := Lib.hid hbl
      clear hbl
      go_wp2_with (at_builtin; first
        | (refine wpList_append_bytes rfl _ (.tmp 18) rfl wr.heap.size (.slice (some ⟨wr.heap.size, 0, none⟩) 0 0) [] rfl HE.out Y cy (Mac.blk key info j) rfl HYn.out ((HYr.out.below ((Below.refl _ _).alloc (Nat.le_refl _) _)).more (by simp)) (by have := HBL.out; simp; omega) (by simp) ?_; intro v2 w2 hown2 hgrow2 _)
        | (refine wpList_append_bytes rfl _ (.tmp 20) rfl wr.heap.size v2 ([] ++ Mac.blk key info j) rfl hown2 B d info rfl HBd.out ((HRi.out.below (below_own HBe.out HE.out hgrow2 hsz)).more (below_own HBe.out HE.out hgrow2 hsz).size) (by have := HBL.out; simp; omega) (by have := hgrow2.size; simp at this; omega) ?_; intro v3 w3 hown3 hgrow3 _)
        | (refine wpList_append_bytes rfl _ (.tmp 26) rfl wr.heap.size v3 ([] ++ Mac.blk key info j ++ info) rfl (hown3.alloc _) (some ⟨w3.heap.size, 0, none⟩) 1 [j + 1] rfl (fun h => by cases h) (new_rdb w3 [j + 1]) (by have := HBL.out; simp; omega) (by have h1 := hgrow2.size; have h2 := hgrow3.size; simp at h1 ⊢; omega) ?_; intro v4 w4 hown4 hgrow4 _))
      have q1 : Below wr.heap.size wr (wr.alloc (.cells #[] 5)) := (Below.refl _ _).alloc (Nat.le_refl _) _
      have q2 : Below wr.heap.size wr w2 := below_own q1 HE.out hgrow2 (Nat.le_refl _)
      have q3 : Below wr.heap.size wr w3 := below_own q2 hown2 hgrow3 (Nat.le_refl _)
      have q4 : Below wr.heap.size wr w4 := below_own (q3.alloc q3.size _) (hown3.alloc _) hgrow4 (Nat.le_refl _)
      have HB4 : Hid (Below w.heap.size w w4) := Lib.hid (HBl.out.trans (q4.mono hsz))
      have hz4 : w.heap.size ≤ w4.heap.size := HB4.out.size
      have HV4 : Hid (w4.ownsRow w.heap.size 5 1 (.slice X (32 * j) cx) (Mac.spread key info j).length (vals .u8 (Mac.spread key info j))) := Lib.hid (own_below HV.out q4)
      rw [List.nil_append] at hown4
      obtain ⟨M, cm, hvm, _, _, hMn, hMr, _⟩ := own_form hown4
      subst hvm
      have HMr := Lib.hid hMr
      have HMn := Lib.hid hMn
      clear q1 q2 q3 q4 hown2 hown3 hown4 hgrow2 hgrow3 hgrow4 hMr hMn HV HP HBl HE HBe
      refine (rcode_any w4 A M c cm key (Mac.blk key info j ++ info ++ [j + 1]) ((HR.out.below HB4.out).more hz4) HAc.out HB.out hlk HMr.out HMn.out (((Mac.blk_Bs _ _ _).append HBi.out).append (fun x hx => by
          rw [List.mem_singleton] at hx
          omega)) (by have := HBL.out; simp only [List.length_append, List.length_cons, List.length_nil]; omega)).mono ?_
      rintro e w5 ⟨v5, rfl, hown5, hb5⟩
      have ebl : Mac.code key (Mac.blk key info j ++ info ++ [j + 1]) = Mac.blk key info (j + 1) := rfl
      rw [ebl] at hown5
      have hown5' : w5.ownsRow w4.heap.size 5 1 v5 (Mac.blk key info (j + 1)).length (vals .u8 (Mac.blk key info (j + 1))) := by rw [Mac.blk_length]; exact hown5
      obtain ⟨Z, cz, hvz, hcz, _, hZn, hZr, _⟩ := own_form hown5'
      subst hvz
      have HV5 := Lib.hid (own_below HV4.out hb5)
      have HO5 := Lib.hid hown5'
      have HD := Lib.hid (own_disj HV4.out hown5')
      have HB5 : Hid (Below w.heap.size w w5) := Lib.hid (HB4.out.trans (hb5.mono hz4))
      have hz5 : w.heap.size ≤ w5.heap.size := HB5.out.size
      have HZr := Lib.hid hZr
      have HZn := Lib.hid hZn
      clear hown5 hown5' hb5 hZr hZn HB4 HV4 ebl HMr HMn
      go_wp2_with (at_builtin; refine wpList_append_bytes rfl _ _ rfl w.heap.size (.slice X (32 * j) cx) _ rfl HV5.out Z cz (Mac.blk key info (j + 1)) rfl HZn.out HZr.out (by rw [HSL.out, Mac.blk_length]; omega) hz5 ?_; intro v6 w6 hown6 hgrow6 _)
      have hown6' : w6.ownsRow w.heap.size 5 1 v6 (Mac.spread key info (j + 1)).length (vals .u8 (Mac.spread key info (j + 1))) := hown6
      have hlv : lenV v6 = 32 * (j + 1) := by
        obtain ⟨_, _, e, _⟩ := own_form hown6'
        rw [e, ← Mac.spread_length key info (j + 1)]
        rfl
      refine ⟨⟨j + 1, by omega, by congr 1, hown6', own_lower (HO5.out.kept hgrow6 HD.out) hz4, HB5.out.grown hgrow6 hz5 (own_row HV5.out)⟩, ?_⟩
      rw [hlv]
      show 5000 - 32 * (j + 1) < 5000 - 32 * j
      omega
    · have hd1 : decide (((32 * j : Nat) : Int) < (N : Int)) = false := by simp; omega
      have hNc : N ≤ cx := by have := HSL.out; omega
      have hsl := slice_to X (32 * j) cx N hNc
      have HRd : Hid (RdB wr wr.heap.size X (spreadTo key info N)) := Lib.hid (by rw [← spreadTo_of key info N j (by omega)]; exact HXr.out.head N)
      clear HXr HYr HV HP HE HBe
      go_wp2
      go_ret
      exact ⟨X, cx, rfl, HRd.out, hNc, HBl.out⟩
end Go.Proofs.YtfkkpbfoipfekaaDoor
