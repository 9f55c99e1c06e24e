/-
  What the document's Compare and the program's Next answer; nothing that was there before is changed.
-/
import Derived.Test.YtmbbfdiojcfamaaDoorU9
namespace Go.Proofs.YtmbbfdiojcfamaaDoor.Txt
open Go.RowKit Tup
set_option maxRecDepth 100000
set_option maxHeartbeats 8000000 in
theorem rcompare_any (l m : List Pt) (A B : Option Addr) (c d : Nat) (w : World) (hR : Rd w w.heap.size A (cells3 l)) (hS : Rd w w.heap.size B (cells3 m)) (hl : l.length ≤ 1000) (hm : m.length ≤ 1000) :
    Calls Tryd.prog 16 #[.slice A l.length c, .slice B m.length d] w fun e w' => e = .returned (.int .i64 (kcmp l m)) ∧ Below w.heap.size w w' := by
  have HR := Lib.hid hR
  have HS := Lib.hid hS
  clear hR hS
  have hms := mk_size
  have hmt := mk_toList
  go_enter Tryd.func16, Tryd.ntmps16
  go_wp2
  go_loopw [5] (fun v wr => ∃ k : Nat, k ≤ l.length ∧ k ≤ m.length ∧ v = .int .i64 k ∧ kcmp l m = kcmp (l.drop k) (m.drop k) ∧ Below w.heap.size w wr) (fun v _ => l.length - (intOf v).toNat)
  case atStart => exact ⟨0, by omega, by omega, rfl, rfl, Below.refl _ _⟩
  case round =>
    obtain ⟨k, hk, hkm, rfl, hkc, hb⟩ := hrel
    have HC := Lib.hid hkc
    have HB := Lib.hid hb
    have hz := hb.size
    clear hkc hb
    by_cases hlt : k < l.length
    · have hltd : (k : Int) < (l.length : Int) := by omega
      by_cases hml : k < m.length
      · have hml' : (k : Int) < (m.length : Int) := by omega
        obtain ⟨ad, rfl, hadb, hcs⟩ := HR.out.below HB.out (by rw [cells3_length]; omega)
        obtain ⟨p, hp⟩ : ∃ p, l[k]? = some p := ⟨l[k], List.getElem?_eq_getElem hlt⟩
        obtain ⟨e0, e1, e2⟩ := cells3_get l k p hp
        have hc0 : ∀ n, (wr.drewN n).cell? (ad.add (k * 3)) = some (.bool p.num) := fun _ => hcs _ _ e0
        have hc1 : ∀ n, (wr.drewN n).cell? ⟨(ad.add (k * 3)).block, (ad.add (k * 3)).off + 1, none⟩ = some (.int .i64 p.n) := fun _ => by have := hcs _ _ e1; rw [← add_add] at this; exact this
        have hc2 : ∀ n, (wr.drewN n).cell? ⟨(ad.add (k * 3)).block, (ad.add (k * 3)).off + 2, none⟩ = some (.string (mk p.t)) := fun _ => by have := hcs _ _ e2; rw [← add_add] at this; exact this
        obtain ⟨bd, rfl, hbdb, hcs'⟩ := HS.out.below HB.out (by rw [cells3_length]; omega)
        obtain ⟨q, hq⟩ : ∃ q, m[k]? = some q := ⟨m[k], List.getElem?_eq_getElem hml⟩
        obtain ⟨e0', e1', e2'⟩ := cells3_get m k q hq
        have hd0 : ∀ n, (wr.drewN n).cell? (bd.add (k * 3)) = some (.bool q.num) := fun _ => hcs' _ _ e0'
        have hd1 : ∀ n, (wr.drewN n).cell? ⟨(bd.add (k * 3)).block, (bd.add (k * 3)).off + 1, none⟩ = some (.int .i64 q.n) := fun _ => by have := hcs' _ _ e1'; rw [← add_add] at this; exact this
        have hd2 : ∀ n, (wr.drewN n).cell? ⟨(bd.add (k * 3)).block, (bd.add (k * 3)).off + 2, none⟩ = some (.string (mk q.t)) := fun _ => by have := hcs' _ _ e2'; rw [← add_add] at this; exact this
        have g0 : wr.cell? (ad.add (k * 3)) = some (.bool p.num) := hc0 0
        have k0 : wr.cell? (bd.add (k * 3)) = some (.bool q.num) := hd0 0
        have g1 : wr.cell? ⟨(ad.add (k * 3)).block, (ad.add (k * 3)).off + 1, none⟩ = some (.int .i64 p.n) := hc1 0
        have k1 : wr.cell? ⟨(bd.add (k * 3)).block, (bd.add (k * 3)).off + 1, none⟩ = some (.int .i64 q.n) := hd1 0
        have HX : Hid (kcmp l m = if pcmp p q ≠ 0 then pcmp p q else kcmp (l.drop (k + 1)) (m.drop (k + 1))) := Lib.hid (kcmp_at HC.out hp hq)
        clear hcs hcs' e0 e1 e2 e0' e1' e2' hp hq hadb hbdb
        obtain ⟨pb, pn, pt⟩ := p
        obtain ⟨qb, qn, qt⟩ := q
        simp only at *
        unfold pcmp at HX
        cases pb <;> cases qb <;> simp only [Bool.false_eq_true, if_true, if_false] at HX
        · have hT := fun (n : Nat) => (texts_any pt qt (wr.drewN n))
          have HT := Lib.hid hT
          clear hT
          generalize cmp pt qt = z at *
          by_cases hz0 : z = 0
          · subst hz0
            rw [if_neg (fun h => h rfl)] at HX
            go_wp2
            go_quiet ((go_at_call 29; with_reducible exact Calls.quiet_of_same (HT.out _)))
            go_wp2
            go_roundw
            case rel => exact ⟨k + 1, by omega, by omega, by go_num, HX.out, drew_n HB.out _⟩
            case measure => simp [intOf]; omega
          · rw [if_pos hz0] at HX
            have hne : (z != 0) = true := by rw [bne_iff_ne]; exact hz0
            clear hz0
            go_wp2
            go_quiet ((go_at_call 29; with_reducible exact Calls.quiet_of_same (HT.out _)))
            go_wp2
            go_ret
            exact ⟨by rw [HX.out]; rfl, drew_n HB.out _⟩
        · rw [if_pos (by decide)] at HX
          go_wp2
          go_ret
          exact ⟨by rw [HX.out]; rfl, HB.out⟩
        · rw [if_pos (by decide)] at HX
          go_wp2
          go_ret
          exact ⟨by rw [HX.out]; rfl, HB.out⟩
        · unfold Lib.compareInt at HX
          by_cases h1 : pn < qn
          · rw [if_pos h1, if_pos (by decide)] at HX
            have h2 : pn ≤ qn := by omega
            go_wp2
            go_quiet (fail)
            go_wp2
            go_quiet (fail)
            go_wp2
            go_ret
            exact ⟨by rw [HX.out]; rfl, drew_n HB.out _⟩
          · by_cases h2 : pn > qn
            · rw [if_neg h1, if_pos h2, if_pos (by decide)] at HX
              have h3 : qn ≤ pn := by omega
              clear h1
              go_wp2
              go_quiet (fail)
              go_wp2
              go_quiet (fail)
              go_wp2
              go_ret
              exact ⟨by rw [HX.out]; rfl, drew_n HB.out _⟩
            · rw [if_neg h1, if_neg h2, if_neg (by decide)] at HX
              obtain rfl : pn = qn := by omega
              clear h1 h2
              go_wp2
              go_quiet (fail)
              go_wp2
              go_quiet (fail)
              go_wp2
              go_roundw
              case rel => exact ⟨k + 1, by omega, by omega, by go_num, HX.out, drew_n HB.out _⟩
              case measure => simp [intOf]; omega
      · have hml' : (m.length : Int) ≤ (k : Int) := by omega
        have HX : Hid (kcmp l m = 1) := Lib.hid (by rw [HC.out, List.drop_of_length_le (l := m) (by omega), List.drop_eq_getElem_cons hlt]; rfl)
        have hml2 : (m.length : Int) < (l.length : Int) := by omega
        have hml3 : (m.length : Int) ≤ (l.length : Int) := by omega
        go_wp2
        go_ret
        exact ⟨by rw [HX.out]; rfl, HB.out⟩
    · have HX : Hid (kcmp l m = if m.length = k then 0 else -1) := Lib.hid (by
        rw [HC.out, List.drop_of_length_le (l := l) (by omega), kcmp_nil_left]
        by_cases h : m.length = k
        · rw [if_pos h, List.drop_of_length_le (by omega), if_pos rfl]
        · rw [if_neg h, if_neg (fun e => by have := congrArg List.length e; rw [List.length_drop, List.length_nil] at this; omega)])
      obtain rfl : k = l.length := by omega
      by_cases hml : l.length < m.length
      · have hml' : (l.length : Int) < (m.length : Int) := by omega
        rw [if_neg (by omega)] at HX
        go_wp2
        go_ret
        exact ⟨by rw [HX.out]; rfl, HB.out⟩
      · have hml' : (m.length : Int) ≤ (l.length : Int) := by omega
        have hml2 : (l.length : Int) ≤ (m.length : Int) := by omega
        rw [if_pos (by omega)] at HX
        go_wp2
        go_ret
        exact ⟨by rw [HX.out]; rfl, HB.out⟩
end Go.Proofs.YtmbbfdiojcfamaaDoor.Txt
