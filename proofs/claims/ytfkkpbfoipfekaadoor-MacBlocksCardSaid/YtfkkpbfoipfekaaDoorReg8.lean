/-
  More kinds of operations of a region that draws its order: bytes as a string, nil and empty ones too; strings compared; calls of layer 2.
-/
import Derived.Test.YtfkkpbfoipfekaaDoorM5
import Derived.Test.YtfkkpbfoipfekaaDoorReg7
namespace Go.Proofs.YtfkkpbfoipfekaaDoor
open Go.RowKit
theorem conv_bytes {w : World} {B : Nat} {A : Option Addr} {c : Nat} {l : List Nat} (h : RdB w B A l) : (convert 22 9 (.slice A l.length c)).run Tryd.prog w = .ok (.string (strOf l)) w := by
  rw [run_convert_bytes_string w 22 9 5 _ _ _ Tryd.underlying22 Tryd.underlying5 Tryd.underlying9]
  cases A with
  | none =>
    have hn : l = [] := by
      cases l with
      | nil => rfl
      | cons y r => obtain ⟨_, e, _⟩ := h (by simp); cases e
    subst hn
    rfl
  | some ad =>
    refine run_bytesToString w _ l.length c (l.map fun n : Nat => (n : Int)) ?_
    have := run_loadCells_list (P := Tryd.prog) w ad (vals .u8 l) (fun j u hu => by
      have hj' : j < (vals .u8 l).length := (List.getElem?_eq_some_iff.1 hu).1
      rw [vals_length] at hj'
      obtain ⟨ad', e, _, h3⟩ := h (by omega)
      injection e with e
      subst e
      exact h3 j u hu)
    rw [vals_length] at this
    rw [this]
    simp [vals]
theorem strOf_data (l : List Nat) : ∀ r : ByteArray, ((l.map fun n : Nat => (n : Int)).foldl (fun r n => r.push (UInt8.ofNat n.toNat)) r).data = r.data ++ (l.map UInt8.ofNat).toArray := by
  induction l with
  | nil => intro r; simp
  | cons x l ih =>
    intro r
    simp only [List.map_cons, List.foldl_cons]
    rw [ih]
    simp [ByteArray.push]
theorem strOf_inj {xs ys : List Nat} (hx : Sha.Bs xs) (hy : Sha.Bs ys) (h : strOf xs = strOf ys) : xs = ys := by
  have h1 := congrArg ByteArray.data h
  unfold strOf at h1
  rw [strOf_data, strOf_data] at h1
  have h2 : xs.map UInt8.ofNat = ys.map UInt8.ofNat := by simpa using h1
  have h3 := congrArg (List.map UInt8.toNat) h2
  rw [List.map_map, List.map_map] at h3
  have e : ∀ l : List Nat, Sha.Bs l → l.map (UInt8.toNat ∘ UInt8.ofNat) = l := fun l hl => by
    conv => rhs; rw [← List.map_id l]
    refine List.map_congr_left fun x hx => ?_
    have := hl x hx
    simp only [Function.comp, id_eq, UInt8.toNat_ofNat']
    exact Nat.mod_eq_of_lt this
  rw [e xs hx, e ys hy] at h3
  exact h3
theorem toList_loop (bs : ByteArray) : ∀ (n i : Nat) (r : List UInt8), bs.size - i = n → ByteArray.toList.loop bs i r = r.reverse ++ bs.data.toList.drop i := by
  intro n
  induction n with
  | zero =>
    intro i r h
    rw [ByteArray.toList.loop, if_neg (by omega), List.drop_of_length_le (by show bs.data.toList.length ≤ i; rw [Array.length_toList]; show bs.size ≤ i; omega), List.append_nil]
  | succ n ih =>
    intro i r h
    have hi : i < bs.data.toList.length := by rw [Array.length_toList]; show i < bs.size; omega
    rw [ByteArray.toList.loop, if_pos (by omega), ih _ _ (by omega), List.drop_eq_getElem_cons hi]
    have e : bs.get! i = bs.data.toList[i] := by
      rw [Array.length_toList] at hi
      show bs.data[i]! = _
      rw [getElem!_pos bs.data i hi]
      simp
    rw [e]
    simp
theorem toList_data (bs : ByteArray) : bs.toList = bs.data.toList := by
  unfold ByteArray.toList
  rw [toList_loop bs _ 0 [] rfl]
  simp
theorem eql_strs {xs ys : List Nat} (hx : Sha.Bs xs) (hy : Sha.Bs ys) (w : World) : (binOp .eql 9 (.string (strOf xs)) (.string (strOf ys))).run Tryd.prog w = .ok (.bool (decide (xs = ys))) w := by
  have e : ((strOf xs).toList == (strOf ys).toList) = decide (xs = ys) := by
    rw [toList_data, toList_data, Bool.eq_iff_iff, beq_iff_eq, decide_eq_true_iff]
    constructor
    · intro h
      exact strOf_inj hx hy (ByteArray.ext (Array.toList_inj.1 h))
    · rintro rfl
      rfl
  simp only [go_sem]
  exact congrArg (fun b => Result.ok (Value.bool b) w) e
theorem eq_bool (b : Bool) (w : World) : (binOp .eql 4 (.bool b) (.bool b)).run Tryd.prog w = .ok (.bool true) w := by
  cases b <;> simp [go_sem]
theorem guard_bool (x y : Operand) (b d : Bool) (w : World) : (eqGuard .eql 4 x y (.bool b) (.bool d)).run Tryd.prog w = .ok () w := by
  simp [eqGuard]
theorem enter15 (vs : Array Value) (w : World) : (callFunc 15 vs).run Tryd.prog w = .ok (.enter 15 vs) w := by kernel_rfl
theorem enter11c (vs : Array Value) (w : World) : (callFunc 11 vs).run Tryd.prog w = .ok (.enter 11 vs) w := by kernel_rfl
section
variable {ops : Array Oper} {a0 : Act} {k : Nat → Kd} {w0 : World} {Q : Exit → Act → World → Prop} {o : Oper} {i : Nat}
theorem ob_convB (A : At ops a0 k i o) (j : Nat) (t : Tmp) (l : List Nat) (hop : o.op = .convert 22 9 (.tmp t)) (hj : depB o j = true) (ht : dstOf ops j = some t) (hkj : k j = .bytes l) (hki : k i = .str l) : Obl Tryd.prog ops Q a0 (Rw w0) (fun i => (k i).is) i o :=
  fun _ _ _ h hd K hK => by
    have h1 := h.opd hd hj ht
    rw [hkj] at h1
    obtain ⟨_, A', c, e, _, hr⟩ := h1
    exact o_conv _ _ _ hop e (conv_bytes hr) (A.hg.wanted h hd) (hK _ _ (A.fin h (Below.refl _ _) (by rw [hki]; rfl)))
theorem ob_eqls (A : At ops a0 k i o) (j j' : Nat) (t t' : Tmp) (l m : List Nat) (hop : o.op = .binOp .eql 9 (.tmp t) (.tmp t') 9) (hj : depB o j = true) (ht : dstOf ops j = some t) (hj' : depB o j' = true) (ht' : dstOf ops j' = some t')
    (hkj : k j = .str l) (hkj' : k j' = .str m) (hki : k i = .val (.bool (decide (l = m)))) (hl : Sha.Bs l) (hm : Sha.Bs m) : Obl Tryd.prog ops Q a0 (Rw w0) (fun i => (k i).is) i o :=
  fun listed a w h hd K hK => by
    have h1 := h.opd hd hj ht
    have h2 := h.opd hd hj' ht'
    rw [hkj] at h1
    rw [hkj'] at h2
    exact o_binOp _ _ _ _ _ hop h1 h2 (guard_str _ _ _ _ _) (eql_strs hl hm _) (A.hg.wanted h hd) (hK _ _ (A.fin h (Below.refl _ _) (by rw [hki]; rfl)))
theorem ob_eqb (A : At ops a0 k i o) (j j' : Nat) (t t' : Tmp) (b : Bool) (hop : o.op = .binOp .eql 4 (.tmp t) (.tmp t') 4) (hj : depB o j = true) (ht : dstOf ops j = some t) (hj' : depB o j' = true) (ht' : dstOf ops j' = some t')
    (hkj : k j = .val (.bool b)) (hkj' : k j' = .val (.bool b)) (hki : k i = .val (.bool true)) : Obl Tryd.prog ops Q a0 (Rw w0) (fun i => (k i).is) i o :=
  fun listed a w h hd K hK => by
    have h1 := h.opd hd hj ht
    have h2 := h.opd hd hj' ht'
    rw [hkj] at h1
    rw [hkj'] at h2
    exact o_binOp _ _ _ _ _ hop h1 h2 (guard_bool _ _ _ _ _) (eq_bool _ _) (A.hg.wanted h hd) (hK _ _ (A.fin h (Below.refl _ _) (by rw [hki]; rfl)))
theorem ob_equal (A : At ops a0 k i o) (j j' : Nat) (t t' : Tmp) (ts : Array TypeId) (l m : List Nat) (hop : o.op = .call { callee := .value (.func 15), args := #[.tmp t, .tmp t'], argTypes := ts }) (hj : depB o j = true) (ht : dstOf ops j = some t) (hj' : depB o j' = true) (ht' : dstOf ops j' = some t')
    (hkj : k j = .bytes l) (hkj' : k j' = .bytes m) (hki : k i = .val (.bool (decide (l = m)))) (hl : l.length ≤ 9223372036854775807) : Obl Tryd.prog ops Q a0 (Rw w0) (fun i => (k i).is) i o :=
  fun listed a w h hd K hK => by
    have h1 := h.opd hd hj ht
    have h2 := h.opd hd hj' ht'
    rw [hkj] at h1
    rw [hkj'] at h2
    obtain ⟨hB, A', c, e, _, hr⟩ := h1
    obtain ⟨hB', B', d, e', _, hr'⟩ := h2
    refine o_call 15 _ ts hop #[.slice A' l.length c, .slice B' m.length d] (by simp only [List.map_toArray, List.map_cons, List.map_nil, e, e']) (enter15 _ _) (A.hg.wanted h hd) ((equal_any w A' B' c d l m hr hr' hB hB' hl).mono ?_)
    rintro e w' ⟨rfl, hb⟩
    exact ⟨_, rfl, hK _ _ (A.fin h hb (by rw [hki]; rfl))⟩
theorem ob_code (A : At ops a0 k i o) (x y : Operand) (ts : Array TypeId) (key : List Nat) (ps : List (List Nat)) (hop : o.op = .call { callee := .value (.func 11), args := #[x, y], argTypes := ts })
    (hx : ∀ listed a w, Rg ops a0 (Rw w0) (fun i => (k i).is) listed a w → (∀ e ∈ o.after, Region.binds .any e = true → listed.getD e.on false = true) → ∃ A c, a.eval x = .slice A key.length c ∧ RdB w w.heap.size A key ∧ (A = none → c = 0) ∧ key.length ≤ c)
    (hy : ∀ listed a w, Rg ops a0 (Rw w0) (fun i => (k i).is) listed a w → (∀ e ∈ o.after, Region.binds .any e = true → listed.getD e.on false = true) → (Kd.parts ps).is w (a.eval y))
    (hki : k i = .row (Mac.code key ps.flatten)) (hC : Cx w0) (hb : Sha.Bs key) (hN : key.length < 576460752303423488) (hn : ps.length ≤ 1152921504606846976) (hM : 64 + ps.flatten.length < 576460752303423488) : Obl Tryd.prog ops Q a0 (Rw w0) (fun i => (k i).is) i o :=
  fun listed a w h hd K hK => by
    obtain ⟨A', c, e, hr, hn0, hc⟩ := hx listed a w h hd
    obtain ⟨hB, B', d, e', hr'⟩ := hy listed a w h hd
    have hC' := hC.below h.world
    refine o_call 11 _ ts hop #[.slice A' key.length c, .slice B' ps.length d] (by simp only [List.map_toArray, List.map_cons, List.map_nil, e, e']) (enter11c _ _) (A.hg.wanted h hd) ((code_any w A' c key B' d ps hr hn0 hc hb hr' hB hC'.1 hC'.2.1 hC'.2.2 hN hn hM).mono ?_)
    rintro e w' ⟨v, rfl, hown, hb'⟩
    exact ⟨v, rfl, hK _ _ (A.fin h hb' (by rw [hki]; exact ⟨_, by rw [Mac.code_length]; exact hown⟩))⟩
end
end Go.Proofs.YtfkkpbfoipfekaaDoor
