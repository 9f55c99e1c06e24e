/-
  escaped: what begins with a sign.
-/
import Derived.Test.YtkenananejgcpaaGreatDoorJPa3
namespace Go.Proofs.YtkenananejgcpaaGreatDoor.Jsn
open Go.RowKit Txt
set_option maxRecDepth 100000
set_option maxHeartbeats 2000000 in
theorem escaped_short (pp : Nat) (t : List UInt8) (a r : Nat) (w : World) (h : Ps w pp t a r) (ha : a + 1 < t.length) (hu : (nb t (a + 1)).toNat ≠ 117) (hz : unesc (nb t (a + 1)).toNat ≠ 0) (hl : t.length ≤ 100000) :
    Calls Tryz.prog 96 #[.pointer (some ⟨pp, 0, none⟩)] w fun e w' => e = .returned (.int .i32 (unesc (nb t (a + 1)).toNat : Nat)) ∧ Ps w' pp t (a + 2) r ∧ G pp w w' := by
  obtain ⟨c0, c1, -, f1, -⟩ := h.cells
  obtain ⟨w1, hw1⟩ : ∃ w1, w1 = w.setCell ⟨pp, 1, none⟩ (.int .i64 ((a : Int) + 1)) := ⟨_, rfl⟩
  have hp1 : Ps w1 pp t (a + 1) r := by rw [hw1]; exact h.set1 (a + 1)
  have HG1 : Hid (G pp w w1) := Lib.hid (by rw [hw1]; exact put1 pp _)
  have HC := Lib.hid (next_any pp t (a + 1) r w1 hp1 (by omega))
  have HU := fun w => Lib.hid (unescape_any (nb t (a + 1)) w)
  have w6 := wrap64i (n := (a : Int) + 1) (by omega) (by omega)
  have w7 := wrap64i (n := (a : Int) + 1 + 1) (by omega) (by omega)
  have e1 : (((nb t (a + 1)).toNat : Int) != 117) = true := by rw [bne_iff_ne]; omega
  have e2 : (((unesc (nb t (a + 1)).toNat : Nat) : Int) == 0) = false := by rw [beq_eq_false_iff_ne]; omega
  generalize nb t (a + 1) = y at *
  generalize unesc y.toNat = u at *
  clear h hp1 ha hu hz hl
  go_enter Tryz.func96, Tryz.ntmps96
  go_wp2_with fail
  rw [← hw1]
  clear hw1
  refine HC.out.mono ?_
  rintro e w2 ⟨rfl, hp2, hg2⟩
  obtain ⟨d0, d1, -, f2, -⟩ := hp2.cells
  have d1' : w2.cell? ⟨pp, 1, none⟩ = some (.int .i64 ((a : Int) + 1)) := d1
  have HP2 : Hid (Ps (w2.setCell ⟨pp, 1, none⟩ (.int .i64 ((a : Int) + 1 + 1))) pp t (a + 2) r) := Lib.hid (hp2.set1 (a + 2))
  have HG2 := Lib.hid ((HG1.out.trans hg2).trans (put1 pp (.int .i64 ((a : Int) + 1 + 1))))
  clear hp2 hg2 HC HG1 d1
  go_wp2_with fail
  refine (HU _).out.mono ?_
  rintro e w3 ⟨rfl, rfl⟩
  go_wp2
  go_ret
  exact ⟨rfl, HP2.out, HG2.out⟩
set_option maxHeartbeats 2000000 in
theorem escaped_unit (pp : Nat) (t : List UInt8) (a r : Nat) (n : Int) (w : World) (h : Ps w pp t a r) (hu : (nb t (a + 1)).toNat = 117) (hh : Hex4 t (a + 2) n) (hn : n < 55296 ∨ 57343 < n) (hl : t.length ≤ 100000) :
    Calls Tryz.prog 96 #[.pointer (some ⟨pp, 0, none⟩)] w fun e w' => e = .returned (.int .i32 n) ∧ Ps w' pp t (a + 6) r ∧ G pp w w' := by
  obtain ⟨c0, c1, -, f1, -⟩ := h.cells
  have hroom := hh.room
  obtain ⟨w1, hw1⟩ : ∃ w1, w1 = w.setCell ⟨pp, 1, none⟩ (.int .i64 ((a : Int) + 1)) := ⟨_, rfl⟩
  have hp1 : Ps w1 pp t (a + 1) r := by rw [hw1]; exact h.set1 (a + 1)
  have HG1 : Hid (G pp w w1) := Lib.hid (by rw [hw1]; exact put1 pp _)
  have HC := Lib.hid (next_any pp t (a + 1) r w1 hp1 (by omega))
  rw [hu] at HC
  have HX : Hid (∀ w2, Ps w2 pp t (a + 2) r → Calls Tryz.prog 110 #[.pointer (some ⟨pp, 0, none⟩)] w2 fun e w' => e = .returned (.int .i32 n) ∧ Ps w' pp t (a + 6) r ∧ G pp w2 w') := Lib.hid (fun w2 h2 => hexNumber_any pp t (a + 2) r n w2 h2 hh hl)
  have w6 := wrap64i (n := (a : Int) + 1) (by omega) (by omega)
  have w7 := wrap64i (n := (a : Int) + 1 + 1) (by omega) (by omega)
  have HN := Lib.hid hn
  clear h hp1 hu hh hl hroom hn
  go_enter Tryz.func96, Tryz.ntmps96
  go_wp2_with fail
  rw [← hw1]
  clear hw1
  refine HC.out.mono ?_
  rintro e w2 ⟨rfl, hp2, hg2⟩
  obtain ⟨d0, d1, -, f2, -⟩ := hp2.cells
  have d1' : w2.cell? ⟨pp, 1, none⟩ = some (.int .i64 ((a : Int) + 1)) := d1
  obtain ⟨w3, hw3⟩ : ∃ w3, w3 = w2.setCell ⟨pp, 1, none⟩ (.int .i64 ((a : Int) + 1 + 1)) := ⟨_, rfl⟩
  have HP3 : Hid (Ps w3 pp t (a + 2) r) := Lib.hid (by rw [hw3]; exact hp2.set1 (a + 2))
  have HG3 : Hid (G pp w w3) := Lib.hid (by rw [hw3]; exact (HG1.out.trans hg2).trans (put1 pp _))
  clear hp2 hg2 HC HG1 d1
  go_wp2_with fail
  rw [← hw3]
  clear hw3
  refine (HX.out w3 HP3.out).mono ?_
  rintro e w4 ⟨rfl, hp4, hg4⟩
  have HP4 := Lib.hid hp4
  have HG4 := Lib.hid (HG3.out.trans hg4)
  clear hp4 hg4 HP3 HG3 HX
  rcases HN.out with hn | hn
  · have n1 : ¬ (55296 : Int) ≤ n := by omega
    have n2 : ¬ (56320 : Int) ≤ n := by omega
    clear hn
    go_wp2
    go_ret
    exact ⟨rfl, HP4.out, HG4.out⟩
  · have n1 : ¬ n < (56320 : Int) := by omega
    have n2 : ¬ n ≤ (57343 : Int) := by omega
    clear hn
    go_wp2
    all_goals go_ret
    all_goals exact ⟨rfl, HP4.out, HG4.out⟩
end Go.Proofs.YtkenananejgcpaaGreatDoor.Jsn
