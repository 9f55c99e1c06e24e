/-
  The document's example; what clean and both answer; nothing that was there before is changed.
-/
import Derived.Test.YtmbbfdiojcfamaaDoorU5
namespace Go.Proofs.YtmbbfdiojcfamaaDoor.Txt
open Go.RowKit Tup
set_option maxRecDepth 100000
def exL : List Pt := [⟨false, 0, [97]⟩, ⟨true, -1, []⟩]
theorem exL_key : key exL = [1, 97, 0, 0, 2, 127, 255, 255, 255, 255, 255, 255, 255] := by decide +kernel
theorem exL_few : Few exL := ⟨by decide, fun p hp => by
  rcases List.mem_cons.1 hp with rfl | hp
  · exact ⟨⟨by decide, by decide⟩, by decide⟩
  · rw [List.mem_singleton.1 hp]; exact ⟨⟨by decide, by decide⟩, by decide⟩⟩
/-- A block that holds just the cells of parts, as a slice. -/
theorem rd_blk {w : World} {g : Nat} {t : TypeId} {cs : Array Value} (h : Blk w g t cs) : Rd w w.heap.size (some ⟨g, 0, none⟩) cs.toList := fun _ => ⟨_, rfl, h.lt, fun j u hu => by
  rw [Addr.add_mid, Nat.zero_add, h.cell]
  simpa using hu⟩
set_option maxHeartbeats 2000000 in
theorem anchor_any (w : World) (hm : Mx w) (h2 : 2 ≤ w.heap.size) :
    Calls Tryd.prog 8 #[] w fun e w' => e = .returned (.bool true) ∧ Below w.heap.size w w' := by
  have HM := Lib.hid hm
  clear hm
  have hms := mk_size
  have hmt := mk_toList
  have hl1 : (⟨#[97]⟩ : ByteArray) = mk [97] := rfl
  have hl2 : (⟨#[1, 97, 0, 0, 2, 127, 255, 255, 255, 255, 255, 255, 255]⟩ : ByteArray).toList = key exL := by rw [exL_key]; exact toList_lit _
  have hT : ∀ w, Calls Tryd.prog 21 #[.string ⟨#[97]⟩] w fun e w' => e = .returned (Pv ⟨false, 0, [97]⟩) ∧ Below w.heap.size w w' := fun w => text_any [97] w (by decide)
  go_enter Tryd.func8, Tryd.ntmps8
  go_wp2_with fail
  refine (hT _).mono ?_
  rintro e w1 ⟨rfl, hb1⟩
  have HB1 := Lib.hid hb1
  have hz1 := hb1.size
  clear hb1 hT
  unfold Pv
  go_wp2_with fail
  refine (num_any (-1) _).mono ?_
  rintro e w2 ⟨rfl, hb2⟩
  have HB2 : Hid (Below w.heap.size w w2) := Lib.hid (HB1.out.trans (hb2.mono hz1))
  have hz2 := HB2.out.size
  clear hb2 HB1
  unfold Pv
  simp only
  go_wp2_with fail
  have hk := key_any exL (some ⟨w2.heap.size, 0, none⟩) 2 (w2.alloc (.cells #[.bool false, .int .i64 0, .string (mk [97]), .bool true, .int .i64 (-1), .string (mk [])] 33)) (rd_blk (Blk.new w2 _ _)) exL_few (HM.out.below (HB2.out.alloc hz2 _) h2) (by simp; omega)
  refine hk.mono ?_
  rintro e w3 ⟨rfl, hb3⟩
  have HB3 : Hid (Below w.heap.size w w3) := Lib.hid ((HB2.out.alloc hz2 _).trans (hb3.mono (by simp; omega)))
  clear hb3 HB2 hk
  go_wp2
  go_ret
  exact ⟨rfl, HB3.out⟩
set_option maxHeartbeats 2000000 in
theorem clean_any (p : Pt) (w : World) (hp : p.t.length ≤ 1000) :
    Calls Tryd.prog 13 #[Pv p] w fun e w' => e = .returned (Pv p.clean) ∧ Below w.heap.size w w' := by
  have hms := mk_size
  have hmt := mk_toList
  obtain ⟨b, n, t⟩ := p
  unfold Pv
  simp only at *
  cases b with
  | true =>
    go_enter Tryd.func13, Tryd.ntmps13
    go_wp2_with fail
    refine (num_any n _).mono ?_
    rintro e w1 ⟨rfl, hb⟩
    unfold Pv
    have hS : (w.alloc (.cells #[.bool true, .int .i64 n, .string (mk t)] 33)).heap.size = w.heap.size + 1 := by simp
    have HB : Hid (Below w.heap.size w w1) := Lib.hid ((((Below.refl w.heap.size w).alloc (Nat.le_refl _) _).alloc (by omega) _).trans (hb.mono (by simp; omega)))
    have HK := Lib.hid ((Blk.new (w.alloc (.cells #[.bool true, .int .i64 n, .string (mk t)] 33)) 33 #[.bool false, .int .i64 0, .string ⟨#[]⟩]).below hb (by simp))
    rw [hS] at HK
    have c0 : w1.cell? ⟨w.heap.size + 1, 0, none⟩ = some (.bool false) := HK.out.cell 0
    have c1 : w1.cell? ⟨w.heap.size + 1, 1, none⟩ = some (.int .i64 0) := HK.out.cell 1
    have c2 : w1.cell? ⟨w.heap.size + 1, 2, none⟩ = some (.string ⟨#[]⟩) := HK.out.cell 2
    have f0 : w1.frozen? ⟨w.heap.size + 1, 0, none⟩ = false := HK.out.frozen 0
    have f1 : w1.frozen? ⟨w.heap.size + 1, 1, none⟩ = false := HK.out.frozen 1
    have f2 : w1.frozen? ⟨w.heap.size + 1, 2, none⟩ = false := HK.out.frozen 2
    clear hb hS
    go_wp2
    have qK := ((HK.out.put 0 (.bool true)).put 1 (.int .i64 n)).put 2 (.string (mk []))
    have q0 := qK.cell 0
    have q1 := qK.cell 1
    have q2 := qK.cell 2
    refine bodyPost_ret (v := .agg #[.bool true, .int .i64 n, .string (mk [])]) (by simp [results, Tryd.results13, go_sem, q0, q1, q2]) rfl ⟨rfl, ?_⟩
    exact ((HB.out.setCell (by show _ ≤ w.heap.size + 1; omega) _).setCell (by show _ ≤ w.heap.size + 1; omega) _).setCell (by show _ ≤ w.heap.size + 1; omega) _
  | false =>
    go_enter Tryd.func13, Tryd.ntmps13
    go_wp2_with fail
    refine (text_any t _ (by omega)).mono ?_
    rintro e w1 ⟨rfl, hb⟩
    unfold Pv
    have hS : (w.alloc (.cells #[.bool false, .int .i64 n, .string (mk t)] 33)).heap.size = w.heap.size + 1 := by simp
    have HB : Hid (Below w.heap.size w w1) := Lib.hid ((((Below.refl w.heap.size w).alloc (Nat.le_refl _) _).alloc (by omega) _).trans (hb.mono (by simp; omega)))
    have HK := Lib.hid ((Blk.new (w.alloc (.cells #[.bool false, .int .i64 n, .string (mk t)] 33)) 33 #[.bool false, .int .i64 0, .string ⟨#[]⟩]).below hb (by simp))
    rw [hS] at HK
    have c0 : w1.cell? ⟨w.heap.size + 1, 0, none⟩ = some (.bool false) := HK.out.cell 0
    have c1 : w1.cell? ⟨w.heap.size + 1, 1, none⟩ = some (.int .i64 0) := HK.out.cell 1
    have c2 : w1.cell? ⟨w.heap.size + 1, 2, none⟩ = some (.string ⟨#[]⟩) := HK.out.cell 2
    have f0 : w1.frozen? ⟨w.heap.size + 1, 0, none⟩ = false := HK.out.frozen 0
    have f1 : w1.frozen? ⟨w.heap.size + 1, 1, none⟩ = false := HK.out.frozen 1
    have f2 : w1.frozen? ⟨w.heap.size + 1, 2, none⟩ = false := HK.out.frozen 2
    clear hb hS
    go_wp2
    have qK := ((HK.out.put 0 (.bool false)).put 1 (.int .i64 0)).put 2 (.string (mk t))
    have q0 := qK.cell 0
    have q1 := qK.cell 1
    have q2 := qK.cell 2
    refine bodyPost_ret (v := .agg #[.bool false, .int .i64 0, .string (mk t)]) (by simp [results, Tryd.results13, go_sem, q0, q1, q2]) rfl ⟨rfl, ?_⟩
    exact ((HB.out.setCell (by show _ ≤ w.heap.size + 1; omega) _).setCell (by show _ ≤ w.heap.size + 1; omega) _).setCell (by show _ ≤ w.heap.size + 1; omega) _
/-- Parts in new memory, as the document has them. -/
def Both (B : Nat) (l : List Pt) (w' : World) (e : Ending) : Prop := ∃ A c, e = .returned (.tuple #[.slice A l.length c, .bool true]) ∧ (A = none → c = 0) ∧ l.length ≤ c ∧ c ≤ maxLen ∧ Rd w' w'.heap.size A (cells3 l) ∧ (∀ ad, A = some ad → B ≤ ad.block)
theorem info45 : (Tryd.prog.info? 45).map (fun i => (i.zero, i.size, i.bytes)) = some (some (.agg #[.bool false, .int .i64 0, .string ⟨#[]⟩]), 3, 32) := by kernel_rfl
abbrev OwnR (w : World) (base : Nat) (v : Value) (l : List Pt) : Prop := w.ownsRow base 45 3 v l.length (cells3 l)
/-- Parts that the statements speak of. -/
def Fit (l : List Pt) : Prop := l.length ≤ 12 ∧ ∀ p ∈ l, p.t.length ≤ 60
set_option maxHeartbeats 4000000 in
theorem both_any (l : List Pt) (A : Option Addr) (c : Nat) (w : World) (hR : Rd w w.heap.size A (cells3 l)) (hl : l.length ≤ 9223372036854775807) :
    Calls Tryd.prog 9 #[.slice A l.length c] w fun e w' => ((Fit l ∧ Both w.heap.size l w' e) ∨ (¬ Fit l ∧ e = .returned (.tuple #[.slice none 0 0, .bool false]))) ∧ Below w.heap.size w w' := by
  have HR := Lib.hid hR
  clear hR
  have hms := mk_size
  have hmt := mk_toList
  go_enter Tryd.func9, Tryd.ntmps9
  by_cases h12 : 12 < l.length
  · have hd : (12 : Int) < (l.length : Int) := by omega
    have HF : Hid (¬ Fit l) := Lib.hid (fun h => by have := h.1; omega)
    clear h12
    go_wp2
    go_ret2
    exact ⟨.inr ⟨HF.out, rfl⟩, Below.refl _ _⟩
  have hd : (l.length : Int) ≤ (12 : Int) := by omega
  have HL := Lib.hid h12
  clear h12
  go_wp2
  go_loopw [4, 12] (fun u v wr => ∃ k : Nat, k ≤ l.length ∧ v = .int .i64 k ∧ (∀ p ∈ l.take k, p.t.length ≤ 60) ∧ OwnR wr w.heap.size u (l.take k) ∧ Below w.heap.size w wr) (fun _ v _ => l.length - (intOf v).toNat)
  case atStart => exact ⟨0, by omega, rfl, (fun p hp => by simp at hp), ⟨rfl, .inl ⟨rfl, rfl⟩⟩, Below.refl _ _⟩
  case round =>
    obtain ⟨k, hk, rfl, hfit, hrow, hb⟩ := hrel
    have HF := Lib.hid hfit
    have HO := Lib.hid hrow
    have HB := Lib.hid hb
    have hz := hb.size
    have hkt : (l.take k).length = k := by rw [List.length_take]; omega
    clear hfit hb
    obtain ⟨A2, c2, rfl, hc1, hc2, hAc, hRd, hAb⟩ := row_form (cells3_length (l.take k)) hrow
    rw [hkt] at HO hc1
    have HR2 := Lib.hid hRd
    have HA := Lib.hid hAb
    have HAc := Lib.hid hAc
    clear hrow hRd hAb hAc
    by_cases hlt : k < l.length
    · obtain ⟨ad, rfl, hadb, hcs⟩ := HR.out.below HB.out (by rw [cells3_length]; omega)
      obtain ⟨q, hq⟩ : ∃ q, l[k]? = some q := ⟨l[k], List.getElem?_eq_getElem hlt⟩
      obtain ⟨e0, e1, e2⟩ := cells3_get l k q hq
      have hc0 := hcs _ _ e0
      have hc1' : wr.cell? ⟨(ad.add (k * 3)).block, (ad.add (k * 3)).off + 1, none⟩ = some (.int .i64 q.n) := by have := hcs _ _ e1; rw [← add_add] at this; exact this
      have hc2' : wr.cell? ⟨(ad.add (k * 3)).block, (ad.add (k * 3)).off + 2, none⟩ = some (.string (mk q.t)) := by have := hcs _ _ e2; rw [← add_add] at this; exact this
      have HQ := Lib.hid hq
      clear hcs e0 e1 e2 hq
      by_cases h60 : 60 < q.t.length
      · have hd2 : (60 : Int) < (q.t.length : Int) := by omega
        have HN : Hid (¬ Fit l) := Lib.hid (fun h => by have := h.2 q (List.mem_of_getElem? HQ.out); omega)
        have HB2 : Hid (Below w.heap.size w (wr.alloc (.cells #[.bool q.num, .int .i64 q.n, .string (mk q.t)] 33))) := Lib.hid (HB.out.alloc hz _)
        clear h60
        go_wp2
        go_ret2
        exact ⟨.inr ⟨HN.out, rfl⟩, HB2.out⟩
      · have hd2 : (q.t.length : Int) ≤ (60 : Int) := by omega
        have HF2 : Hid (∀ p ∈ l.take (k + 1), p.t.length ≤ 60) := Lib.hid (fun p hp => by
          rw [take_part l k q HQ.out] at hp
          rcases List.mem_append.1 hp with hp | hp
          · exact HF.out p hp
          · rw [List.mem_singleton.1 hp]; omega)
        have HO2 : Hid ((wr.alloc (.cells #[.bool q.num, .int .i64 q.n, .string (mk q.t)] 33)).ownsRow w.heap.size 45 3 (.slice A2 (k : Nat) c2) k (cells3 (l.take k))) := Lib.hid (by have := row_below HO.out ((Below.refl _ _).alloc (Nat.le_refl _) (.cells #[.bool q.num, .int .i64 q.n, .string (mk q.t)] 33)); rw [hkt] at this; exact this)
        have HB2 : Hid (Below w.heap.size w (wr.alloc (.cells #[.bool q.num, .int .i64 q.n, .string (mk q.t)] 33))) := Lib.hid (HB.out.alloc hz _)
        have hz3 := HB2.out.size
        rw [hkt]
        have hk12 : k ≤ 1000 := by omega
        clear h60
        go_wp2_with (at_builtin; go_loud (refine wpList_append_elem rfl _ _ 24 45 rfl w.heap.size 3 32 _ Tryd.underlying24 info45 rfl (by decide) (by decide) _ k (cells3 (l.take k)) [.bool q.num, .int .i64 q.n, .string (mk q.t)] rfl HO2.out rfl (by intro u hu; simp at hu; rcases hu with rfl | rfl | rfl <;> rfl) (by show Value.slice (some ⟨wr.heap.size + 1, 0, none⟩) 1 1 = _; simp) (by omega) hz3 _ rfl ?_); intro v6 w6 hown6 hbel6 _)
        have HO6 : Hid (OwnR w6 w.heap.size v6 (l.take (k + 1))) := Lib.hid (by
          show w6.ownsRow _ _ _ _ _ _
          rw [take_part l k q HQ.out, cells3_append, List.length_append, hkt]
          exact hown6)
        have HB6 : Hid (Below w.heap.size w w6) := Lib.hid (HB2.out.trans hbel6)
        clear hown6 hbel6 HO2 HB2 HO
        go_wp2
        go_roundw
        case rel => exact ⟨k + 1, by omega, by go_num, HF2.out, HO6.out, HB6.out⟩
        case measure => simp [intOf]; omega
    · obtain rfl : k = l.length := by omega
      rw [List.take_length] at HF HR2
      have HF2 : Hid (Fit l) := Lib.hid ⟨by have := HL.out; omega, HF.out⟩
      rw [hkt]
      clear hkt
      go_wp2
      go_ret2
      exact ⟨.inl ⟨HF2.out, A2, c2, rfl, HAc.out, hc1, hc2, HR2.out, fun ad h => by obtain ⟨p, rfl, h1, _⟩ := HA.out ad h; exact h1⟩, HB.out⟩
end Go.Proofs.YtmbbfdiojcfamaaDoor.Txt
