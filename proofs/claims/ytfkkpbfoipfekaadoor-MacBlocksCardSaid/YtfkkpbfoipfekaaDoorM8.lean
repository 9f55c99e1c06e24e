/-
  What mac.Extract makes: the code of the material under the salt.
-/
import Derived.Test.YtfkkpbfoipfekaaDoorM7
import Derived.Test.YtfkkpbfoipfekaaDoorCut
namespace Go.Proofs.YtfkkpbfoipfekaaDoor
open Go.RowKit
set_option maxRecDepth 100000
set_option maxHeartbeats 400000 in
theorem extract_any (w : World) (A B : Option Addr) (c d : Nat) (key m : List Nat) (hR : RdB w w.heap.size A key) (hAc : A = none → c = 0) (hc : key.length ≤ c) (hb : Sha.Bs key) (hRm : RdB w w.heap.size B m) (hd : m.length ≤ d) (hbm : Sha.Bs m) (hI : Iat w) (hK : Kat w) (h2 : 2 ≤ w.heap.size) (hN : key.length < 576460752303423488) (hM : 64 + m.length < 576460752303423488) :
    Calls Tryd.prog 12 #[.slice A key.length c, .slice B m.length d] w fun e w' => ∃ v, e = .returned v ∧ w'.ownsRow w.heap.size 5 1 v 32 (vals .u8 (Mac.code key m)) ∧ Below w.heap.size w w' := by
  have HR := Lib.hid hR
  have HB := Lib.hid hb
  have HAc := Lib.hid hAc
  have HBm := Lib.hid hbm
  have HI := Lib.hid hI
  have HK := Lib.hid hK
  have HP := Lib.hid (parts_one hRm hd)
  clear hR hb hAc hRm hbm hI hK
  go_enter Tryd.func12, Tryd.ntmps12
  go_wp2_with fail
  have HB1 : Hid (Below w.heap.size w (w.alloc (.cells #[.slice B m.length d] 22))) := Lib.hid ((Below.refl _ _).alloc (Nat.le_refl _) _)
  have hz1 : w.heap.size ≤ (w.alloc (.cells #[.slice B m.length d] 22)).heap.size := HB1.out.size
  generalize w.alloc (.cells #[.slice B m.length d] 22) = w1 at *
  refine (code_any w1 A c key _ 1 [m] ((HR.out.below HB1.out).more hz1) HAc.out hc HB.out HP.out (by intro p hp; rw [List.mem_singleton] at hp; subst hp; exact HBm.out) (HI.out.below HB1.out (by omega)) (HK.out.below HB1.out h2) (by omega) hN (by simp) (by simpa using hM)).mono ?_
  rintro e w2 ⟨v, rfl, hown, hb2⟩
  have HO : Hid (w2.ownsRow w.heap.size 5 1 v 32 (vals .u8 (Mac.code key m))) := Lib.hid (by
    rw [flat1] at hown
    exact own_lower hown hz1)
  have HB2 := Lib.hid (HB1.out.trans (hb2.mono hz1))
  clear hown hb2
  go_wp2
  go_ret
  exact ⟨v, rfl, HO.out, HB2.out⟩
end Go.Proofs.YtfkkpbfoipfekaaDoor
