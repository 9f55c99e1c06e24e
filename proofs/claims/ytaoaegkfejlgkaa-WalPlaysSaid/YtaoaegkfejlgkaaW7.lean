/-
  Lists of writes in memory; the contract of perform of package wal.
-/
import Derived.Test.YtaoaegkfejlgkaaW6
namespace Go.Proofs.Ytaoaegkfejlgkaa.Dsk
open Go.RowKit
/-- A slice of writes at A, in blocks for which S holds. -/
def RdWs (w : World) (S : Nat → Prop) (A : Option Addr) (ws : List Wr) : Prop :=
  ∀ (i : Nat) a b, ws[i]? = some (a, b) → ∃ ad B c, A = some ad ∧ ad.block < w.heap.size ∧ S ad.block ∧ w.cell? (ad.add (i * 2)) = some (.int .i64 ((a : Nat) : Int)) ∧ w.cell? ⟨(ad.add (i * 2)).block, (ad.add (i * 2)).off + 1, none⟩ = some (.slice B b.length c) ∧ b.length ≤ c ∧ Rd w S B b
theorem RdWs.keep {w w' : World} {S : Nat → Prop} {A : Option Addr} {ws : List Wr} (h : RdWs w S A ws) (hk : ∀ k, S k → k < w.heap.size → w'.heap[k]? = w.heap[k]?) (hz : w.heap.size ≤ w'.heap.size) : RdWs w' S A ws := fun i a b hi => by
  obtain ⟨ad, B, c, h1, h2, h3, h4, h5, h6, h7⟩ := h i a b hi
  have hc : ∀ {x : Addr}, x.block = ad.block → w'.cell? x = w.cell? x := fun {x} hx => World.cell?_of_block (by rw [hx]; exact hk _ h3 h2)
  refine ⟨ad, B, c, h1, Nat.lt_of_lt_of_le h2 hz, h3, ?_, ?_, h6, fun hl => ?_⟩
  · rw [hc (block_add _ _)]; exact h4
  · rw [hc (x := ⟨(ad.add (i * 2)).block, (ad.add (i * 2)).off + 1, none⟩) (block_add _ _)]; exact h5
  · obtain ⟨ad', e, a1, a2, a3⟩ := h7 hl
    refine ⟨ad', e, a1, Nat.lt_of_lt_of_le a2 hz, fun j u hu => ?_⟩
    rw [← a3 j u hu]
    exact World.cell?_of_block (by rw [block_add]; exact hk _ a1 a2)
theorem RdWs.but {w w' : World} {S : Nat → Prop} {A : Option Addr} {ws : List Wr} {d g : Nat} (h : RdWs w S A ws) (hb : But d g w w') (hd : ¬ S d) (hg : ¬ S g) : RdWs w' S A ws :=
  h.keep (fun k hS hk => hb.block k hk (fun e => hd (e ▸ hS)) (fun e => hg (e ▸ hS))) hb.size
theorem RdWs.more {w : World} {S S' : Nat → Prop} {A : Option Addr} {ws : List Wr} (h : RdWs w S A ws) (hS : ∀ k, S k → S' k) : RdWs w S' A ws := fun i a b hi => by
  obtain ⟨ad, B, c, h1, h2, h3, h4, h5, h6, h7⟩ := h i a b hi
  exact ⟨ad, B, c, h1, h2, hS _ h3, h4, h5, h6, h7.more hS⟩
theorem RdWs.nil (w : World) (S : Nat → Prop) (A : Option Addr) : RdWs w S A [] := fun i a b h => by simp at h
theorem Rd.tight {w : World} {S : Nat → Prop} {A : Option Addr} {l : List UInt8} (h : Rd w S A l) : Rd w (fun k => S k ∧ k < w.heap.size) A l := fun hl => by
  obtain ⟨ad, e, h1, h2, h3⟩ := h hl
  exact ⟨ad, e, ⟨h1, h2⟩, h2, h3⟩
theorem Rd.old {w w' : World} {S : Nat → Prop} {A : Option Addr} {l : List UInt8} (h : Rd w S A l) (hb : Below w.heap.size w w') : Rd w' S A l := (h.tight.below hb (fun _ hk => hk.2)).more (fun _ hk => hk.1)
/-- Behind any write. -/
theorem okn_write {s : Dk} {n : Nat} {a : Nat} {b : List UInt8} (h : s.okn n) : (s.write a b).2.okn (n + 1) := by
  by_cases he : s.err a b.length ≠ 0
  · unfold Dk.write; rw [if_pos he]; exact h.mono (by omega)
  · have he' : s.err a b.length = 0 := by simpa using he
    have hd : s.down = false := by
      cases hx : s.down with
      | false => rfl
      | true => rw [Dk.err_down hx] at he'; cases he'
    have hx : ¬ ((a : Int) < 0 ∨ (b.length : Int) < 0 ∨ (s.l.length : Int) - a < b.length) := fun hx => by rw [Dk.err_bad hd hx] at he'; cases he'
    rw [write_up hd (by omega)]
    split
    · exact okn_torn h (by omega)
    · rename_i hs
      exact okn_done h (by omega) (fun h1 h2 => hs (by simp [h1, h2]))
theorem perf_cons (s : Dk) (a : Nat) (b : List UInt8) (r : List Wr) : perf s ((a, b) :: r) = if (s.write a b).1 ≠ 0 then s.write a b else perf (s.write a b).2 r := rfl
set_option maxRecDepth 100000
set_option maxHeartbeats 2000000 in
theorem perform_any (w : World) (d g : Nat) (s : Dk) (h : Dsk w d g s) (n : Nat) (ho : s.okn n) (S : Nat → Prop) (A : Option Addr) (c : Nat) (ws : List Wr) (hR : RdWs w S A ws) (hd : ¬ S d) (hg : ¬ S g) (hn : n + ws.length ≤ 2000000) (ha : ∀ x ∈ ws, x.1 ≤ 2000000) :
    Calls Try.prog 27 #[.pointer (some ⟨d, 0, none⟩), .slice A ws.length c] w fun e w' => e = .returned (.int .i64 (perf s ws).1) ∧ Dsk w' d g (perf s ws).2 ∧ But d g w w' := by
  have H := Lib.hid h
  have HO := Lib.hid ho
  have HR := Lib.hid hR
  have HD := Lib.hid hd
  have HG := Lib.hid hg
  have HN := Lib.hid hn
  have HA := Lib.hid ha
  clear h ho hR hd hg ha
  go_enter Try.func27, Try.ntmps27
  go_wp2
  go_loopw [10] (fun i wr => ∃ (k : Nat) (s' : Dk), k ≤ ws.length ∧ i = .int .i64 k ∧ Dsk wr d g s' ∧ s'.okn (n + k) ∧ perf s ws = perf s' (ws.drop k) ∧ But d g w wr) (fun i _ => ws.length - (intOf i).toNat)
  case atStart => exact ⟨0, s, Nat.zero_le _, rfl, H.out, HO.out, by rw [List.drop_zero], But.refl _ _ _⟩
  case round =>
    obtain ⟨k, s', hk, rfl, hD, hok, hp, hb⟩ := hrel
    have HB := Lib.hid hb
    have HP := Lib.hid hp
    have HDk := Lib.hid hD
    have HOk := Lib.hid hok
    clear hb hp hD hok
    by_cases hlt : k < ws.length
    · obtain ⟨⟨a, b⟩, hx⟩ : ∃ x, ws[k]? = some x := ⟨_, List.getElem?_eq_getElem hlt⟩
      obtain ⟨ad, B, c', rfl, h2, h3, h4, h5, h6, h7⟩ := (HR.out.but HB.out HD.out HG.out) k a b hx
      have hdrop : ws.drop k = (a, b) :: ws.drop (k + 1) := by
        rw [List.drop_eq_getElem_cons hlt]
        rw [List.getElem?_eq_getElem hlt] at hx
        injection hx with hx
        rw [hx]
      have ha2 : a ≤ 2000000 := HA.out (a, b) (List.mem_of_getElem? hx)
      have HP2 := Lib.hid (HP.out.trans (by rw [hdrop, perf_cons]))
      have hbA : Below wr.heap.size wr (wr.alloc (.cells #[.int .i64 (a : Int), .slice B b.length c'] 71)) := (Below.refl _ _).alloc (Nat.le_refl _) _
      have HW := Lib.hid (write_any (wr.alloc (.cells #[.int .i64 (a : Int), .slice B b.length c'] 71)) d g s' (HDk.out.old hbA) (HOk.out.ok (by have := HN.out; omega)) a b B c' S (h7.old hbA) HD.out HG.out h6 (by omega) (by omega))
      have HBA := Lib.hid (HB.out.trans (But.of_below hbA (d := d) (g := g)))
      clear h2 h3 h6 h7 hdrop hbA hx ha2
      have HOw := Lib.hid (okn_write (a := a) (b := b) HOk.out)
      generalize hT : s'.write (a : Int) b = T at *
      clear hT
      by_cases he : T.1 = 0
      · rw [he, if_neg (by simp)] at HP2
        rw [he] at HW
        go_wp2_with fail
        refine HW.out.mono ?_
        rintro e w2 ⟨rfl, hD2, hb2, hz2⟩
        have HD2 := Lib.hid hD2
        have HB2 := Lib.hid (HBA.out.trans hb2)
        clear hD2 hb2 hz2
        go_wp2
        go_roundw
        case rel => exact ⟨k + 1, T.2, by omega, by go_num, HD2.out, HOw.out, HP2.out, HB2.out⟩
        case measure => simp [intOf]; omega
      · rw [if_pos he] at HP2
        have hne : (T.1 != 0) = true := by simpa using he
        have HE := Lib.hid (show (perf s ws).1 = T.1 ∧ (perf s ws).2 = T.2 by rw [HP2.out]; exact ⟨rfl, rfl⟩)
        clear HP2 HP
        generalize T.1 = E at *
        go_wp2_with fail
        refine HW.out.mono ?_
        rintro e w2 ⟨rfl, hD2, hb2, hz2⟩
        have HD2 := Lib.hid hD2
        have HB2 := Lib.hid (HBA.out.trans hb2)
        clear hD2 hb2 hz2
        go_wp2
        go_ret
        rw [HE.out.1, HE.out.2]
        exact ⟨rfl, HD2.out, HB2.out⟩
    · obtain rfl : k = ws.length := by omega
      have hp0 := HP.out
      rw [List.drop_length] at hp0
      have HE := Lib.hid (show (perf s ws).1 = 0 ∧ (perf s ws).2 = s' by rw [hp0]; exact ⟨rfl, rfl⟩)
      clear hp0
      go_wp2
      go_ret
      rw [HE.out.1, HE.out.2]
      exact ⟨rfl, HDk.out, HB.out⟩
end Go.Proofs.Ytaoaegkfejlgkaa.Dsk
