/-
  The walk of the statement MacKeys: whatever the bytes and the number it returns true, and nothing that was there before has changed.
-/
import Derived.Test.YtfkkpbfoipfekaaDoorM8
import Derived.Test.YtfkkpbfoipfekaaDoorReg8
import Derived.Test.YtfkkpbfoipfekaaDoorZer
namespace Go.Proofs.YtfkkpbfoipfekaaDoor
open Go.RowKit
theorem below_lit' {w w1 w2 : World} {g : Nat} (h : Below w.heap.size w w1) (hg : w1.grownBy w2 (Value.ownBlock (.slice (some ⟨g, 0, none⟩) 0 0))) (hle : w.heap.size ≤ g) : Below w.heap.size w w2 :=
  h.grown hg h.size (fun j hj => by simp only [Value.ownBlock, Option.some.injEq] at hj; omega)
theorem enter10r (vs : Array Value) (w : World) : (callFunc 10 vs).run Tryd.prog w = .ok (.enter 10 vs) w := by kernel_rfl
theorem ob_rcode {ops : Array Oper} {a0 : Act} {k : Nat → Kd} {w0 : World} {Q : Exit → Act → World → Prop} {o : Oper} {i : Nat} (A : At ops a0 k i o) (x y : Operand) (ts : Array TypeId) (key m : List Nat) (hop : o.op = .call { callee := .value (.func 10), args := #[x, y], argTypes := ts })
    (hx : ∀ listed a w, Rg ops a0 (Rw w0) (fun i => (k i).is) listed a w → (∀ e ∈ o.after, Region.binds .any e = true → listed.getD e.on false = true) → ∃ A c, a.eval x = .slice A key.length c ∧ RdB w w.heap.size A key ∧ (A = none → c = 0))
    (hy : ∀ listed a w, Rg ops a0 (Rw w0) (fun i => (k i).is) listed a w → (∀ e ∈ o.after, Region.binds .any e = true → listed.getD e.on false = true) → ∃ A c, a.eval y = .slice A m.length c ∧ RdB w w.heap.size A m ∧ (A = none → c = 0))
    (hki : k i = .row (Mac.code key m)) (hb : Sha.Bs key) (hN : key.length ≤ 400) (hbm : Sha.Bs m) (hM : m.length ≤ 300) : Obl Tryd.prog ops Q a0 (Rw w0) (fun i => (k i).is) i o :=
  fun listed a w h hd K hK => by
    obtain ⟨A', c, e, hr, hn0⟩ := hx listed a w h hd
    obtain ⟨B', d, e', hr', hn1⟩ := hy listed a w h hd
    refine o_call 10 _ ts hop #[.slice A' key.length c, .slice B' m.length d] (by simp only [List.map_toArray, List.map_cons, List.map_nil, e, e']) (enter10r _ _) (A.hg.wanted h hd) ((rcode_any w A' B' c d key m hr hn0 hb hN hr' hn1 hbm hM).mono ?_)
    rintro e w' ⟨v, rfl, hown, hb'⟩
    exact ⟨v, rfl, hK _ _ (A.fin h hb' (by rw [hki]; exact ⟨_, by rw [Mac.code_length]; exact hown⟩))⟩
def kindsK7 (X : Option Addr) (cx : Nat) (kz : List Nat) (A : Option Addr) (c : Nat) (key m : List Nat) (i : Nat) : Kd := ([.val (.slice X kz.length cx), .bytes m, .parts [m], .row (Mac.code key m), .str (Mac.code key m), .val (.slice A key.length c), .bytes m, .parts [m], .row (Mac.code key m), .str (Mac.code key m), .val (.bool true), .val (.bool true)] : List Kd).getD i (.val undef)
def kindsK8 (X : Option Addr) (cx : Nat) (kz : List Nat) (B : Option Addr) (d : Nat) (m : List Nat) (i : Nat) : Kd := ([.val (.slice X kz.length cx), .bytes m, .parts [m], .row (Mac.code kz m), .str (Mac.code kz m), .val (.slice X kz.length cx), .val (.slice B m.length d), .row (Mac.code kz m), .str (Mac.code kz m), .val (.bool true), .val (.bool true)] : List Kd).getD i (.val undef)
set_option maxRecDepth 100000
set_option maxHeartbeats 1000000 in
theorem macKeys_any (w : World) (A B : Option Addr) (c d : Nat) (key m : List Nat) (n : Int) (hRk : RdB w w.heap.size A key) (hRm : RdB w w.heap.size B m) (hAc : A = none → c = 0) (hBd : B = none → d = 0) (hc : key.length ≤ c) (hd : m.length ≤ d) (hbk : Sha.Bs key) (hbm : Sha.Bs m) (hI : Iat w) (hK : Kat w) (h2 : 2 ≤ w.heap.size) :
    Calls Tryd.prog 4 #[.slice A key.length c, .int .i64 n, .slice B m.length d] w fun e w' => e = .returned (.bool true) ∧ Below w.heap.size w w' := by
  have HRk := Lib.hid hRk
  have HRm := Lib.hid hRm
  have HBk := Lib.hid hbk
  have HBm := Lib.hid hbm
  have HI := Lib.hid hI
  have HK := Lib.hid hK
  have HAc := Lib.hid hAc
  have HBd := Lib.hid hBd
  clear hRk hRm hbk hbm hI hK hAc hBd
  go_enter Tryd.func4, Tryd.ntmps4
  go_wp2_with fail
  refine (anchor_any w HI.out HK.out h2).mono ?_
  rintro e w1 ⟨rfl, hb1⟩
  have HB1 := Lib.hid hb1
  have hz1 := hb1.size
  clear hb1
  by_cases hl1 : 200 < key.length
  · have hd1 : decide ((200 : Int) < (key.length : Int)) = true := by simp; omega
    go_wp2
    go_ret
    exact ⟨rfl, HB1.out⟩
  have hd1 : decide ((200 : Int) < (key.length : Int)) = false := by simp; omega
  by_cases hl2 : 200 < m.length
  · have hd2 : decide ((200 : Int) < (m.length : Int)) = true := by simp; omega
    go_wp2
    go_ret
    exact ⟨rfl, HB1.out⟩
  have hd2 : decide ((200 : Int) < (m.length : Int)) = false := by simp; omega
  by_cases hl3 : n < 0
  · have hd3 : decide (n < 0) = true := by simp; omega
    go_wp2
    go_ret
    exact ⟨rfl, HB1.out⟩
  have hd3 : decide (n < 0) = false := by simp; omega
  by_cases hl4 : 64 < n
  · have hd4 : decide (64 < n) = true := by simp; omega
    go_wp2
    go_ret
    exact ⟨rfl, HB1.out⟩
  have hd4 : decide (64 < n) = false := by simp; omega
  obtain ⟨z, rfl⟩ : ∃ z : Nat, n = (z : Int) := ⟨n.toNat, by omega⟩
  have hz64 : z ≤ 64 := by omega
  have HE := Lib.hid (empty_own w1)
  have HBe : Hid (Below w.heap.size w (w1.alloc (.cells #[] 5))) := Lib.hid (HB1.out.alloc hz1 _)
  go_upto_region 6 with (at_builtin; first
    | (refine wpList_append_bytes rfl _ (.tmp 27) rfl w1.heap.size _ [] rfl HE.out A c key rfl HAc.out ((HRk.out.below HBe.out).more (by simp; omega)) (by simp; omega) (by simp) ?_; intro v2 w2 hown2 hgrow2 _)
    | (refine wpList_append_zeros rfl _ (.tmp 29) rfl w1.heap.size _ ([] ++ key) rfl hown2 z rfl (by omega) (by simp; omega) (by have := hgrow2.size; simp at this; omega) ?_; intro v3 w3 hown3 hgrow3))
  have HB2 : Hid (Below w.heap.size w w2) := Lib.hid (below_lit' HBe.out hgrow2 hz1)
  have HB3 : Hid (Below w.heap.size w w3) := Lib.hid (HB2.out.grown hgrow3 HB2.out.size (fun j hj => Nat.le_trans hz1 (own_row hown2 j hj)))
  have hz3 : w.heap.size ≤ w3.heap.size := HB3.out.size
  simp only [List.nil_append] at hown3
  obtain ⟨X, cx, hv3, hcx, _, hXn, hXr, _⟩ := own_form hown3
  subst hv3
  have HXr := Lib.hid hXr
  have HXn := Lib.hid hXn
  have HKB := Lib.hid (HBk.out.append (Mac.zeros_Bs z))
  have hkl : (key ++ noughts z).length = key.length + z := by rw [List.length_append, noughts_length]
  have HRk3 : Hid (RdB w3 w3.heap.size A key) := Lib.hid ((HRk.out.below HB3.out).more hz3)
  have HRm3 : Hid (RdB w3 w3.heap.size B m) := Lib.hid ((HRm.out.below HB3.out).more hz3)
  have HC : Hid (Cx w3.drew) := Lib.hid ⟨HI.out.below HB3.out.drew (by omega), HK.out.below HB3.out.drew h2, by show 2 ≤ w3.heap.size; omega⟩
  clear hown2 hown3 hgrow2 hgrow3 hXr hXn HB1 HB2 HBe HE
  by_cases hs : key.length + z ≤ 64
  · have HZ : Hid (Mac.code (key ++ noughts z) m = Mac.code key m) := Lib.hid (Mac.code_zeros key m z hs)
    have HKL : Hid ((key ++ noughts z).length ≤ 64) := Lib.hid (by rw [hkl]; exact hs)
    have HKB' : Hid (Sha.Bs (key ++ noughts z)) := HKB
    clear HKB hkl
    have HKB := HKB'
    clear HKB'
    generalize key ++ noughts z = kz at *
    have hd5 : decide ((kz.length : Int) ≤ 64) = true := by have := HKL.out; simp; omega
    go_upto_region 7 with (fail)
    refine region_inv (Rw w3.drew) (fun i => (kindsK7 X cx kz A c key m i).is) (by kernel_rfl) (by kernel_rfl) (Below.refl _ _) ⟨?_, ?_, ?_, ?_, ?_, ?_, ?_, ?_, ?_, ?_, ?_, ?_, trivial⟩ ?_
    · exact ob_old ⟨by kernel_rfl, (at0 _ _), ⟨_, rfl, by exact (by decide : 34 < 55)⟩, (.inl rfl)⟩ 7 rfl (by kernel_rfl) (fun w' hr => rfl)
    · exact ob_old ⟨by kernel_rfl, (atS (at0 _ _)), ⟨_, rfl, by exact (by decide : 35 < 55)⟩, (.inl rfl)⟩ 2 rfl (by kernel_rfl) (fun w' hr => ⟨HBm.out, B, d, rfl, hd, HRm3.out.inRegion (Below.refl _ _) hr⟩)
    · exact ob_build1 ⟨by kernel_rfl, (atS (atS (at0 _ _))), ⟨_, rfl, by exact (by decide : 36 < 55)⟩, (.inl rfl)⟩ 1 35 m rfl (by kernel_rfl) rfl rfl rfl
    · exact ob_code ⟨by kernel_rfl, (atS (atS (atS (at0 _ _)))), ⟨_, rfl, by exact (by decide : 37 < 55)⟩, (.inl rfl)⟩ (.tmp 34) (.tmp 36) _ kz [m] rfl (fun _ _ w' h hd => ⟨X, cx, h.opd (j := 0) hd (by kernel_rfl) rfl, HXr.out.inRegion (Below.refl _ _) h.world, HXn.out, hcx⟩) (fun _ _ _ h hd => h.opd (j := 2) hd (by kernel_rfl) rfl) (by rw [flat1, HZ.out]; rfl) HC.out HKB.out (by have := HKL.out; omega) (by simp) (by simp; omega)
    · exact ob_conv ⟨by kernel_rfl, (atS (atS (atS (atS (at0 _ _))))), ⟨_, rfl, by exact (by decide : 38 < 55)⟩, (.inl rfl)⟩ 3 37 (Mac.code key m) rfl (by kernel_rfl) rfl rfl rfl (by rw [Mac.code_length]; decide)
    · exact ob_old ⟨by kernel_rfl, (atS (atS (atS (atS (atS (at0 _ _)))))), ⟨_, rfl, by exact (by decide : 39 < 55)⟩, (.inl rfl)⟩ 0 rfl (by kernel_rfl) (fun w' hr => rfl)
    · exact ob_old ⟨by kernel_rfl, (atS (atS (atS (atS (atS (atS (at0 _ _))))))), ⟨_, rfl, by exact (by decide : 40 < 55)⟩, (.inl rfl)⟩ 2 rfl (by kernel_rfl) (fun w' hr => ⟨HBm.out, B, d, rfl, hd, HRm3.out.inRegion (Below.refl _ _) hr⟩)
    · exact ob_build1 ⟨by kernel_rfl, (atS (atS (atS (atS (atS (atS (atS (at0 _ _)))))))), ⟨_, rfl, by exact (by decide : 41 < 55)⟩, (.inl rfl)⟩ 6 40 m rfl (by kernel_rfl) rfl rfl rfl
    · exact ob_code ⟨by kernel_rfl, (atS (atS (atS (atS (atS (atS (atS (atS (at0 _ _))))))))), ⟨_, rfl, by exact (by decide : 42 < 55)⟩, (.inl rfl)⟩ (.tmp 39) (.tmp 41) _ key [m] rfl (fun _ _ w' h hd => ⟨A, c, h.opd (j := 5) hd (by kernel_rfl) rfl, HRk3.out.inRegion (Below.refl _ _) h.world, HAc.out, hc⟩) (fun _ _ _ h hd => h.opd (j := 7) hd (by kernel_rfl) rfl) (by rw [flat1]; rfl) HC.out HBk.out (by omega) (by simp) (by simp; omega)
    · exact ob_conv ⟨by kernel_rfl, (atS (atS (atS (atS (atS (atS (atS (atS (atS (at0 _ _)))))))))), ⟨_, rfl, by exact (by decide : 43 < 55)⟩, (.inl rfl)⟩ 8 42 (Mac.code key m) rfl (by kernel_rfl) rfl rfl rfl (by rw [Mac.code_length]; decide)
    · exact ob_eql ⟨by kernel_rfl, (atS (atS (atS (atS (atS (atS (atS (atS (atS (atS (at0 _ _))))))))))), ⟨_, rfl, by exact (by decide : 44 < 55)⟩, (.inl rfl)⟩ 4 9 38 43 (Mac.code key m) rfl (by kernel_rfl) rfl (by kernel_rfl) rfl rfl rfl rfl
    · exact ob_assign ⟨by kernel_rfl, (atS (atS (atS (atS (atS (atS (atS (atS (atS (atS (atS (at0 _ _)))))))))))), ⟨_, rfl, by exact (by decide : 6 < 55)⟩, (.inl rfl)⟩ 10 44 rfl (by kernel_rfl) rfl rfl
    · intro a' w' hG hdf hsz hold hr
      have hv : a'.tmps.getD 6 undef = .bool true := hG 11 6 (by exact (by decide : 11 < 12)) rfl
      have HF := Lib.hid (HB3.out.drew.trans (hr.mono (show w.heap.size ≤ w3.heap.size from hz3)))
      clear hr hG hold hsz
      go_wp2
      refine bodyPost_ret (results_tmp rfl _ _ _) hdf ⟨?_, HF.out⟩
      rw [hv]
  · have HKL : Hid ((key ++ noughts z).length ≤ 400) := Lib.hid (by rw [hkl]; omega)
    have HKS : Hid (64 < (key ++ noughts z).length) := Lib.hid (by rw [hkl]; omega)
    have HKB' : Hid (Sha.Bs (key ++ noughts z)) := HKB
    clear HKB hkl
    have HKB := HKB'
    clear HKB'
    generalize key ++ noughts z = kz at *
    have hd5 : decide ((kz.length : Int) ≤ 64) = false := by have := HKS.out; simp; omega
    go_upto_region 8 with (fail)
    refine region_inv (Rw w3.drew) (fun i => (kindsK8 X cx kz B d m i).is) (by kernel_rfl) (by kernel_rfl) (Below.refl _ _) ⟨?_, ?_, ?_, ?_, ?_, ?_, ?_, ?_, ?_, ?_, ?_, trivial⟩ ?_
    · exact ob_old ⟨by kernel_rfl, (at0 _ _), ⟨_, rfl, by exact (by decide : 45 < 55)⟩, (.inl rfl)⟩ 7 rfl (by kernel_rfl) (fun w' hr => rfl)
    · exact ob_old ⟨by kernel_rfl, (atS (at0 _ _)), ⟨_, rfl, by exact (by decide : 46 < 55)⟩, (.inl rfl)⟩ 2 rfl (by kernel_rfl) (fun w' hr => ⟨HBm.out, B, d, rfl, hd, HRm3.out.inRegion (Below.refl _ _) hr⟩)
    · exact ob_build1 ⟨by kernel_rfl, (atS (atS (at0 _ _))), ⟨_, rfl, by exact (by decide : 47 < 55)⟩, (.inl rfl)⟩ 1 46 m rfl (by kernel_rfl) rfl rfl rfl
    · exact ob_code ⟨by kernel_rfl, (atS (atS (atS (at0 _ _)))), ⟨_, rfl, by exact (by decide : 48 < 55)⟩, (.inl rfl)⟩ (.tmp 45) (.tmp 47) _ kz [m] rfl (fun _ _ w' h hd => ⟨X, cx, h.opd (j := 0) hd (by kernel_rfl) rfl, HXr.out.inRegion (Below.refl _ _) h.world, HXn.out, hcx⟩) (fun _ _ _ h hd => h.opd (j := 2) hd (by kernel_rfl) rfl) (by rw [flat1]; rfl) HC.out HKB.out (by have := HKL.out; omega) (by simp) (by simp; omega)
    · exact ob_conv ⟨by kernel_rfl, (atS (atS (atS (atS (at0 _ _))))), ⟨_, rfl, by exact (by decide : 49 < 55)⟩, (.inl rfl)⟩ 3 48 (Mac.code kz m) rfl (by kernel_rfl) rfl rfl rfl (by rw [Mac.code_length]; decide)
    · exact ob_old ⟨by kernel_rfl, (atS (atS (atS (atS (atS (at0 _ _)))))), ⟨_, rfl, by exact (by decide : 50 < 55)⟩, (.inl rfl)⟩ 7 rfl (by kernel_rfl) (fun w' hr => rfl)
    · exact ob_old ⟨by kernel_rfl, (atS (atS (atS (atS (atS (atS (at0 _ _))))))), ⟨_, rfl, by exact (by decide : 51 < 55)⟩, (.inl rfl)⟩ 2 rfl (by kernel_rfl) (fun w' hr => rfl)
    · exact ob_rcode ⟨by kernel_rfl, (atS (atS (atS (atS (atS (atS (atS (at0 _ _)))))))), ⟨_, rfl, by exact (by decide : 52 < 55)⟩, (.inl rfl)⟩ (.tmp 50) (.tmp 51) _ kz m rfl (fun _ _ w' h hd => ⟨X, cx, h.opd (j := 5) hd (by kernel_rfl) rfl, HXr.out.inRegion (Below.refl _ _) h.world, HXn.out⟩) (fun _ _ w' h hd => ⟨B, d, h.opd (j := 6) hd (by kernel_rfl) rfl, HRm3.out.inRegion (Below.refl _ _) h.world, HBd.out⟩) rfl HKB.out (by have := HKL.out; omega) HBm.out (by omega)
    · exact ob_conv ⟨by kernel_rfl, (atS (atS (atS (atS (atS (atS (atS (atS (at0 _ _))))))))), ⟨_, rfl, by exact (by decide : 53 < 55)⟩, (.inl rfl)⟩ 7 52 (Mac.code kz m) rfl (by kernel_rfl) rfl rfl rfl (by rw [Mac.code_length]; decide)
    · exact ob_eql ⟨by kernel_rfl, (atS (atS (atS (atS (atS (atS (atS (atS (atS (at0 _ _)))))))))), ⟨_, rfl, by exact (by decide : 54 < 55)⟩, (.inl rfl)⟩ 4 8 49 53 (Mac.code kz m) rfl (by kernel_rfl) rfl (by kernel_rfl) rfl rfl rfl rfl
    · exact ob_assign ⟨by kernel_rfl, (atS (atS (atS (atS (atS (atS (atS (atS (atS (atS (at0 _ _))))))))))), ⟨_, rfl, by exact (by decide : 6 < 55)⟩, (.inl rfl)⟩ 9 54 rfl (by kernel_rfl) rfl rfl
    · intro a' w' hG hdf hsz hold hr
      have hv : a'.tmps.getD 6 undef = .bool true := hG 10 6 (by exact (by decide : 10 < 11)) rfl
      have HF := Lib.hid (HB3.out.drew.trans (hr.mono (show w.heap.size ≤ w3.heap.size from hz3)))
      clear hr hG hold hsz
      go_wp2
      refine bodyPost_ret (results_tmp rfl _ _ _) hdf ⟨?_, HF.out⟩
      rw [hv]
end Go.Proofs.YtfkkpbfoipfekaaDoor
