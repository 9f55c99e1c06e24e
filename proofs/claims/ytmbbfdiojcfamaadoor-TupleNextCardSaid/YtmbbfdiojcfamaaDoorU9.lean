/-
  What the program's Compare and the document's Compare answer: the order of keys; nothing that was there before is changed.
-/
import Derived.Test.YtmbbfdiojcfamaaDoorU8
namespace Go.Proofs.YtmbbfdiojcfamaaDoor.Txt
open Go.RowKit Tup
set_option maxRecDepth 100000
theorem kcmp_take : ∀ (l m : List Pt) (k : Nat), (∀ i p q, i < k → l[i]? = some p → m[i]? = some q → pcmp p q = 0) → k ≤ l.length → k ≤ m.length → kcmp l m = kcmp (l.drop k) (m.drop k)
  | _, _, 0, _, _, _ => rfl
  | [], _, k + 1, _, h, _ => absurd h (by simp)
  | _ :: _, [], k + 1, _, _, h => absurd h (by simp)
  | p :: l, q :: m, k + 1, h, h1, h2 => by
    have h0 := h 0 p q (by omega) rfl rfl
    rw [kcmp_cons, if_neg (by rw [h0]; decide), List.drop_succ_cons, List.drop_succ_cons]
    exact kcmp_take l m k (fun i p q hi hp hq => h (i + 1) p q (by omega) (by simpa using hp) (by simpa using hq)) (by simpa using h1) (by simpa using h2)
theorem kcmp_at {l m : List Pt} {k : Nat} {p q : Pt} (h : kcmp l m = kcmp (l.drop k) (m.drop k)) (hp : l[k]? = some p) (hq : m[k]? = some q) : kcmp l m = if pcmp p q ≠ 0 then pcmp p q else kcmp (l.drop (k + 1)) (m.drop (k + 1)) := by
  have hk : k < l.length := (List.getElem?_eq_some_iff.1 hp).1
  have hk2 : k < m.length := (List.getElem?_eq_some_iff.1 hq).1
  rw [h, List.drop_eq_getElem_cons hk, List.drop_eq_getElem_cons hk2, kcmp_cons]
  rw [List.getElem?_eq_getElem hk] at hp
  rw [List.getElem?_eq_getElem hk2] at hq
  injection hp with hp
  injection hq with hq
  rw [hp, hq]
theorem kcmp_nil_left (m : List Pt) : kcmp [] m = if m = [] then 0 else -1 := by cases m <;> rfl
set_option maxHeartbeats 4000000 in
theorem compareFunc_any (l m : List Pt) (A B : Option Addr) (c d : Nat) (w : World) (hR : Rd w w.heap.size A (cells3 l)) (hS : Rd w w.heap.size B (cells3 m)) (hl : l.length ≤ 1000) (hm : m.length ≤ 1000) :
    Calls Tryd.prog 30 #[.slice A l.length c, .slice B m.length d, .func (.func 31) #[] #[]] w fun e w' => e = .returned (.int .i64 (kcmp l m)) ∧ Below w.heap.size w w' := by
  have HR := Lib.hid hR
  have HS := Lib.hid hS
  clear hR hS
  have hms := mk_size
  have hmt := mk_toList
  go_enter Tryd.func30, Tryd.ntmps30
  go_wp2
  go_loopw [13] (fun v wr => ∃ k : Nat, k ≤ l.length ∧ k ≤ m.length ∧ v = .int .i64 k ∧ kcmp l m = kcmp (l.drop k) (m.drop k) ∧ Below w.heap.size w wr) (fun v _ => l.length - (intOf v).toNat)
  case atStart => exact ⟨0, by omega, by omega, rfl, rfl, Below.refl _ _⟩
  case round =>
    obtain ⟨k, hk, hkm, rfl, hkc, hb⟩ := hrel
    have HC := Lib.hid hkc
    have HB := Lib.hid hb
    have hz := hb.size
    clear hkc hb
    by_cases hlt : k < l.length
    · obtain ⟨ad, rfl, hadb, hcs⟩ := HR.out.below HB.out (by rw [cells3_length]; omega)
      obtain ⟨p, hp⟩ : ∃ p, l[k]? = some p := ⟨l[k], List.getElem?_eq_getElem hlt⟩
      obtain ⟨e0, e1, e2⟩ := cells3_get l k p hp
      have hc0 := hcs _ _ e0
      have hc1 : wr.cell? ⟨(ad.add (k * 3)).block, (ad.add (k * 3)).off + 1, none⟩ = some (.int .i64 p.n) := by have := hcs _ _ e1; rw [← add_add] at this; exact this
      have hc2 : wr.cell? ⟨(ad.add (k * 3)).block, (ad.add (k * 3)).off + 2, none⟩ = some (.string (mk p.t)) := by have := hcs _ _ e2; rw [← add_add] at this; exact this
      have HP := Lib.hid hp
      clear hcs e0 e1 e2 hp hadb
      have HB1 : Hid (Below w.heap.size w (wr.alloc (.cells #[.bool p.num, .int .i64 p.n, .string (mk p.t)] 33))) := Lib.hid (HB.out.alloc hz _)
      have hz1 := HB1.out.size
      by_cases hml : k < m.length
      · obtain ⟨bd, rfl, hbdb, hcs⟩ := HS.out.below HB1.out (by rw [cells3_length]; omega)
        obtain ⟨q, hq⟩ : ∃ q, m[k]? = some q := ⟨m[k], List.getElem?_eq_getElem hml⟩
        obtain ⟨e0, e1, e2⟩ := cells3_get m k q hq
        have hd0 := hcs _ _ e0
        have hd1 : (wr.alloc (.cells #[.bool p.num, .int .i64 p.n, .string (mk p.t)] 33)).cell? ⟨(bd.add (k * 3)).block, (bd.add (k * 3)).off + 1, none⟩ = some (.int .i64 q.n) := by have := hcs _ _ e1; rw [← add_add] at this; exact this
        have hd2 : (wr.alloc (.cells #[.bool p.num, .int .i64 p.n, .string (mk p.t)] 33)).cell? ⟨(bd.add (k * 3)).block, (bd.add (k * 3)).off + 2, none⟩ = some (.string (mk q.t)) := by have := hcs _ _ e2; rw [← add_add] at this; exact this
        have HX : Hid (kcmp l m = if pcmp p q ≠ 0 then pcmp p q else kcmp (l.drop (k + 1)) (m.drop (k + 1))) := Lib.hid (kcmp_at HC.out HP.out hq)
        clear hcs e0 e1 e2 hq hbdb
        have hml' : (k : Int) < (m.length : Int) := by omega
        go_wp2_with fail
        refine (compareParts_any p q _).mono ?_
        rintro e w1 ⟨rfl, hb1⟩
        have HB2 : Hid (Below w.heap.size w w1) := Lib.hid ((HB1.out.alloc hz1 _).trans (hb1.mono (by simp; omega)))
        clear hb1 HB1 HB
        by_cases hpc : pcmp p q = 0
        · have HX2 : Hid (kcmp l m = kcmp (l.drop (k + 1)) (m.drop (k + 1))) := Lib.hid (by rw [HX.out, if_neg (fun h => h hpc)])
          rw [hpc]
          clear HX hpc
          go_wp2
          go_roundw
          case rel => exact ⟨k + 1, by omega, by omega, by go_num, HX2.out, HB2.out⟩
          case measure => simp [intOf]; omega
        · have HX2 : Hid (kcmp l m = pcmp p q) := Lib.hid (by rw [HX.out, if_pos hpc])
          have hne : (pcmp p q != 0) = true := by rw [bne_iff_ne]; exact hpc
          clear HX hpc
          generalize pcmp p q = z at *
          go_wp2
          go_ret
          exact ⟨by rw [HX2.out]; rfl, HB2.out⟩
      · have HX : Hid (kcmp l m = 1) := Lib.hid (by rw [HC.out, List.drop_of_length_le (l := m) (by omega), List.drop_eq_getElem_cons hlt]; rfl)
        have hml' : (m.length : Int) ≤ (k : Int) := by omega
        go_wp2
        go_ret
        exact ⟨by rw [HX.out]; rfl, HB1.out⟩
    · have HX : Hid (kcmp l m = if m.length = k then 0 else -1) := Lib.hid (by
        rw [HC.out, List.drop_of_length_le (l := l) (by omega), kcmp_nil_left]
        by_cases h : m.length = k
        · rw [if_pos h, List.drop_of_length_le (by omega), if_pos rfl]
        · rw [if_neg h, if_neg (fun e => by have := congrArg List.length e; rw [List.length_drop, List.length_nil] at this; omega)])
      obtain rfl : k = l.length := by omega
      by_cases hml : l.length < m.length
      · have hml' : (l.length : Int) < (m.length : Int) := by omega
        rw [if_neg (by omega)] at HX
        go_wp2
        go_ret
        exact ⟨by rw [HX.out]; rfl, HB.out⟩
      · have hml' : (m.length : Int) ≤ (l.length : Int) := by omega
        rw [if_pos (by omega)] at HX
        go_wp2
        go_ret
        exact ⟨by rw [HX.out]; rfl, HB.out⟩
set_option maxHeartbeats 4000000 in
theorem compare_any (l m : List Pt) (A B : Option Addr) (c d : Nat) (w : World) (hR : Rd w w.heap.size A (cells3 l)) (hS : Rd w w.heap.size B (cells3 m)) (hl : l.length ≤ 1000) (hm : m.length ≤ 1000) :
    Calls Tryd.prog 17 #[.slice A l.length c, .slice B m.length d] w fun e w' => e = .returned (.int .i64 (kcmp l m)) ∧ Below w.heap.size w w' := by
  have HC := Lib.hid (compareFunc_any l m A B c d w hR hS hl hm)
  clear hR hS
  go_enter Tryd.func17, Tryd.ntmps17
  go_wp2_with fail
  refine HC.out.mono ?_
  rintro e w1 ⟨rfl, hb⟩
  have HB := Lib.hid hb
  clear hb HC
  go_wp2
  go_ret
  exact ⟨rfl, HB.out⟩
end Go.Proofs.YtmbbfdiojcfamaaDoor.Txt
