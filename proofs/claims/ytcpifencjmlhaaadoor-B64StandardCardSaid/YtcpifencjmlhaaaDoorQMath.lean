/-
  Base64 in mathematics: bytes as letters' numbers, three bytes as four numbers, and back; what the program's two loops compute is just that.
-/
import Derived.WalkKit
namespace Go.Proofs.YtcpifencjmlhaaaDoor
namespace B64
/-- Bytes. -/
def Bs (l : List Nat) : Prop := ∀ x ∈ l, x < 256
/-- Numbers of letters. -/
def Ls (l : List Nat) : Prop := ∀ x ∈ l, x < 64
theorem Bs.take {l : List Nat} (h : Bs l) (n : Nat) : Bs (l.take n) := fun x hx => h x (List.mem_of_mem_take hx)
theorem Bs.drop {l : List Nat} (h : Bs l) (n : Nat) : Bs (l.drop n) := fun x hx => h x (List.mem_of_mem_drop hx)
theorem Bs.getD {l : List Nat} (h : Bs l) (i : Nat) : l.getD i 0 < 256 := by
  rw [List.getD_eq_getElem?_getD]
  by_cases hi : i < l.length
  · rw [List.getElem?_eq_getElem hi]; exact h _ (List.getElem_mem hi)
  · rw [List.getElem?_eq_none (by omega)]; decide
theorem Ls.getD {l : List Nat} (h : Ls l) (i : Nat) : l.getD i 0 < 64 := by
  rw [List.getD_eq_getElem?_getD]
  by_cases hi : i < l.length
  · rw [List.getElem?_eq_getElem hi]; exact h _ (List.getElem_mem hi)
  · rw [List.getElem?_eq_none (by omega)]; decide
theorem Ls.take {l : List Nat} (h : Ls l) (n : Nat) : Ls (l.take n) := fun x hx => h x (List.mem_of_mem_take hx)
theorem Ls.drop {l : List Nat} (h : Ls l) (n : Nat) : Ls (l.drop n) := fun x hx => h x (List.mem_of_mem_drop hx)
theorem Bs.append {l m : List Nat} (h : Bs l) (k : Bs m) : Bs (l ++ m) := fun x hx => (List.mem_append.1 hx).elim (h x) (k x)
/-- The numbers of the letters of bytes. -/
def enc : List Nat → List Nat
  | [] => []
  | [a] => [a / 4, a % 4 * 16]
  | [a, b] => [a / 4, a % 4 * 16 + b / 16, b % 16 * 4]
  | a :: b :: c :: r => a / 4 :: (a % 4 * 16 + b / 16) :: (b % 16 * 4 + c / 64) :: c % 64 :: enc r
/-- The bytes of which these are the letters' numbers, if there are any. -/
def dec : List Nat → Option (List Nat)
  | [] => some []
  | [_] => none
  | [x, y] => if y % 16 = 0 then some [x * 4 + y / 16] else none
  | [x, y, z] => if z % 4 = 0 then some [x * 4 + y / 16, y % 16 * 16 + z / 4] else none
  | x :: y :: z :: u :: r => (dec r).map fun d => (x * 4 + y / 16) :: (y % 16 * 16 + z / 4) :: (z % 4 * 64 + u) :: d
/-- Three at a time. -/
theorem three {P : List Nat → Prop} (h0 : P []) (h1 : ∀ a, P [a]) (h2 : ∀ a b, P [a, b]) (h3 : ∀ a b c r, P r → P (a :: b :: c :: r)) : ∀ l, P l
  | [] => h0
  | [a] => h1 a
  | [a, b] => h2 a b
  | a :: b :: c :: r => h3 a b c r (three h0 h1 h2 h3 r)
/-- Four at a time. -/
theorem four {P : List Nat → Prop} (h0 : P []) (h1 : ∀ a, P [a]) (h2 : ∀ a b, P [a, b]) (h3 : ∀ a b c, P [a, b, c]) (h4 : ∀ a b c d r, P r → P (a :: b :: c :: d :: r)) : ∀ l, P l
  | [] => h0
  | [a] => h1 a
  | [a, b] => h2 a b
  | [a, b, c] => h3 a b c
  | a :: b :: c :: d :: r => h4 a b c d r (four h0 h1 h2 h3 h4 r)
theorem Bs.tail {a : Nat} {l : List Nat} (h : Bs (a :: l)) : Bs l := fun x hx => h x (List.mem_cons_of_mem _ hx)
theorem Bs.head {a : Nat} {l : List Nat} (h : Bs (a :: l)) : a < 256 := h a List.mem_cons_self
theorem Ls.tail {a : Nat} {l : List Nat} (h : Ls (a :: l)) : Ls l := fun x hx => h x (List.mem_cons_of_mem _ hx)
theorem Ls.head {a : Nat} {l : List Nat} (h : Ls (a :: l)) : a < 64 := h a List.mem_cons_self
theorem Bs.cons {a : Nat} {l : List Nat} (h : a < 256) (k : Bs l) : Bs (a :: l) := fun x hx => by
  rcases List.mem_cons.1 hx with rfl | hx
  · exact h
  · exact k x hx
theorem Ls.cons {a : Nat} {l : List Nat} (h : a < 64) (k : Ls l) : Ls (a :: l) := fun x hx => by
  rcases List.mem_cons.1 hx with rfl | hx
  · exact h
  · exact k x hx
theorem Bs.nil : Bs [] := fun x hx => by cases hx
theorem Ls.nil : Ls [] := fun x hx => by cases hx
theorem enc_Ls : ∀ l, Bs l → Ls (enc l) := by
  refine three (fun _ => Ls.nil) (fun a h => ?_) (fun a b h => ?_) (fun a b c r ih h => ?_)
  · have := h.head
    exact .cons (by omega) (.cons (by omega) .nil)
  · have := h.head; have := h.tail.head
    exact .cons (by omega) (.cons (by omega) (.cons (by omega) .nil))
  · have := h.head; have := h.tail.head; have := h.tail.tail.head
    exact .cons (by omega) (.cons (by omega) (.cons (by omega) (.cons (by omega) (ih h.tail.tail.tail))))
/-- How many letters so many bytes have. -/
def len (n : Nat) : Nat := n / 3 * 4 + (n % 3 * 8 + 5) / 6
theorem len_three (n : Nat) : len (n + 3) = len n + 4 := by unfold len; omega
theorem enc_length : ∀ l, (enc l).length = len l.length := by
  refine three rfl (fun a => by simp [enc, len]) (fun a b => by simp [enc, len]) (fun a b c r ih => ?_)
  show (enc r).length + 4 = len (r.length + 3)
  rw [ih, len_three]
theorem dec_enc : ∀ l, Bs l → dec (enc l) = some l := by
  refine three (fun _ => rfl) (fun a h => ?_) (fun a b h => ?_) (fun a b c r ih h => ?_)
  · have := h.head
    show (if a % 4 * 16 % 16 = 0 then some [a / 4 * 4 + a % 4 * 16 / 16] else none) = _
    rw [if_pos (by omega)]
    congr 2; omega
  · have := h.head; have := h.tail.head
    show (if b % 16 * 4 % 4 = 0 then some [a / 4 * 4 + (a % 4 * 16 + b / 16) / 16, (a % 4 * 16 + b / 16) % 16 * 16 + b % 16 * 4 / 4] else none) = _
    rw [if_pos (by omega)]
    congr 2
    · omega
    · congr 1; omega
  · have := h.head; have := h.tail.head; have := h.tail.tail.head
    show (dec (enc r)).map (fun d => (a / 4 * 4 + (a % 4 * 16 + b / 16) / 16) :: ((a % 4 * 16 + b / 16) % 16 * 16 + (b % 16 * 4 + c / 64) / 4) :: ((b % 16 * 4 + c / 64) % 4 * 64 + c % 64) :: d) = _
    rw [ih h.tail.tail.tail, Option.map_some]
    congr 2
    · omega
    · congr 1
      · omega
      · congr 1; omega
theorem enc_dec : ∀ l, Ls l → ∀ d, dec l = some d → enc d = l ∧ Bs d := by
  refine four (fun _ d hd => ?_) (fun a _ d hd => by cases hd) (fun x y h d hd => ?_) (fun x y z h d hd => ?_) (fun x y z u r ih h d hd => ?_)
  · injection hd with hd; subst hd; exact ⟨rfl, .nil⟩
  · have := h.head; have := h.tail.head
    have hd : (if y % 16 = 0 then some [x * 4 + y / 16] else none) = some d := hd
    split at hd
    · injection hd with hd; subst hd
      refine ⟨?_, .cons (by omega) .nil⟩
      show [(x * 4 + y / 16) / 4, (x * 4 + y / 16) % 4 * 16] = _
      congr 1
      · omega
      · congr 1; omega
    · cases hd
  · have := h.head; have := h.tail.head; have := h.tail.tail.head
    have hd : (if z % 4 = 0 then some [x * 4 + y / 16, y % 16 * 16 + z / 4] else none) = some d := hd
    split at hd
    · injection hd with hd; subst hd
      refine ⟨?_, .cons (by omega) (.cons (by omega) .nil)⟩
      show [(x * 4 + y / 16) / 4, (x * 4 + y / 16) % 4 * 16 + (y % 16 * 16 + z / 4) / 16, (y % 16 * 16 + z / 4) % 16 * 4] = _
      congr 1
      · omega
      · congr 1
        · omega
        · congr 1; omega
    · cases hd
  · have := h.head; have := h.tail.head; have := h.tail.tail.head; have := h.tail.tail.tail.head
    have hd : (dec r).map (fun d => (x * 4 + y / 16) :: (y % 16 * 16 + z / 4) :: (z % 4 * 64 + u) :: d) = some d := hd
    obtain ⟨d', h1, rfl⟩ := Option.map_eq_some_iff.1 hd
    obtain ⟨h2, h3⟩ := ih h.tail.tail.tail.tail d' h1
    refine ⟨?_, .cons (by omega) (.cons (by omega) (.cons (by omega) h3))⟩
    show (x * 4 + y / 16) / 4 :: ((x * 4 + y / 16) % 4 * 16 + (y % 16 * 16 + z / 4) / 16) :: ((y % 16 * 16 + z / 4) % 16 * 4 + (z % 4 * 64 + u) / 64) :: (z % 4 * 64 + u) % 64 :: enc d' = _
    rw [h2]
    congr 1
    · omega
    · congr 1
      · omega
      · congr 1
        · omega
        · congr 1; omega
theorem enc_append : ∀ l, l.length % 3 = 0 → ∀ m, enc (l ++ m) = enc l ++ enc m := by
  refine three (fun _ m => rfl) (fun a h => ?_) (fun a b h => ?_) (fun a b c r ih h m => ?_)
  · simp at h
  · simp at h
  · show _ :: _ :: _ :: _ :: enc (r ++ m) = _ :: _ :: _ :: _ :: (enc r ++ enc m)
    rw [ih (by simp only [List.length_cons] at h; omega)]
/-! The program's loop over bytes. -/
/-- What is written while six bits or more are held. -/
def drain (B h : Nat) : List Nat := if h < 6 then [] else if h < 12 then [B / 2 ^ (h - 6) % 64] else [B / 2 ^ (h - 6) % 64, B / 2 ^ (h - 12) % 64]
structure St where
  out : List Nat
  B : Nat
  h : Nat
def estep (s : St) (x : Nat) : St := ⟨s.out ++ drain ((s.B * 256 + x) % 4294967296) (s.h + 8), (s.B * 256 + x) % 4294967296, (s.h + 8) % 6⟩
def erun (s : St) (l : List Nat) : St := l.foldl estep s
/-- What is written at the end. -/
def efin (s : St) : List Nat := if s.h = 0 then s.out else s.out ++ [s.B * 2 ^ (6 - s.h) % 64]
theorem erun_nil (s : St) : erun s [] = s := rfl
theorem erun_cons (s : St) (x : Nat) (l : List Nat) : erun s (x :: l) = erun (estep s x) l := rfl
theorem erun_snoc (s : St) (l : List Nat) (i : Nat) (h : i < l.length) : erun s (l.take (i + 1)) = estep (erun s (l.take i)) (l.getD i 0) := by
  rw [List.take_add_one, List.getElem?_eq_getElem h, Option.toList_some]
  unfold erun
  rw [List.foldl_append, List.foldl_cons, List.foldl_nil, List.getD_eq_getElem?_getD, List.getElem?_eq_getElem h, Option.getD_some]
def Held (s : St) : Prop := (s.h = 0 ∨ s.h = 2 ∨ s.h = 4) ∧ s.B < 4294967296
theorem erun_held : ∀ (l : List Nat) (s : St), Held s → Held (erun s l)
  | [], _, h => h
  | x :: l, s, h => by
    rw [erun_cons]
    refine erun_held l _ ⟨?_, Nat.mod_lt _ (by decide)⟩
    show (s.h + 8) % 6 = 0 ∨ (s.h + 8) % 6 = 2 ∨ (s.h + 8) % 6 = 4
    rcases h.1 with e | e | e <;> rw [e] <;> decide
theorem drain8 (B : Nat) : drain B 8 = [B / 4 % 64] := rfl
theorem drain10 (B : Nat) : drain B 10 = [B / 16 % 64] := rfl
theorem drain12 (B : Nat) : drain B 12 = [B / 64 % 64, B % 64] := by
  show [B / 64 % 64, B / 1 % 64] = _
  rw [Nat.div_one]
theorem estep0 (o : List Nat) (B x : Nat) : estep ⟨o, B, 0⟩ x = ⟨o ++ [(B * 256 + x) % 4294967296 / 4 % 64], (B * 256 + x) % 4294967296, 2⟩ := by
  unfold estep; simp only [Nat.zero_add, drain8]
theorem estep2 (o : List Nat) (B x : Nat) : estep ⟨o, B, 2⟩ x = ⟨o ++ [(B * 256 + x) % 4294967296 / 16 % 64], (B * 256 + x) % 4294967296, 4⟩ := by
  unfold estep
  rw [show (2 + 8 : Nat) = 10 from rfl, drain10]
theorem estep4 (o : List Nat) (B x : Nat) : estep ⟨o, B, 4⟩ x = ⟨o ++ [(B * 256 + x) % 4294967296 / 64 % 64, (B * 256 + x) % 4294967296 % 64], (B * 256 + x) % 4294967296, 0⟩ := by
  unfold estep
  rw [show (4 + 8 : Nat) = 12 from rfl, drain12]
theorem efin0 (o : List Nat) (B : Nat) : efin ⟨o, B, 0⟩ = o := rfl
theorem efin2 (o : List Nat) (B : Nat) : efin ⟨o, B, 2⟩ = o ++ [B * 16 % 64] := rfl
theorem efin4 (o : List Nat) (B : Nat) : efin ⟨o, B, 4⟩ = o ++ [B * 4 % 64] := rfl
theorem efin_erun : ∀ l, Bs l → ∀ o B, efin (erun ⟨o, B, 0⟩ l) = o ++ enc l := by
  refine three (fun _ o B => ?_) (fun a h o B => ?_) (fun a b h o B => ?_) (fun a b c r ih h o B => ?_)
  · rw [erun_nil, efin0]; show o = o ++ []; rw [List.append_nil]
  · have := h.head
    rw [erun_cons, erun_nil, estep0, efin2, List.append_assoc]
    congr 1
    show [_, _] = [a / 4, a % 4 * 16]
    congr 1
    · omega
    · congr 1; omega
  · have := h.head; have := h.tail.head
    rw [erun_cons, erun_cons, erun_nil, estep0, estep2, efin4, List.append_assoc, List.append_assoc]
    congr 1
    show [_, _, _] = [a / 4, a % 4 * 16 + b / 16, b % 16 * 4]
    congr 1
    · omega
    · congr 1
      · omega
      · congr 1; omega
  · have := h.head; have := h.tail.head; have := h.tail.tail.head
    rw [erun_cons, erun_cons, erun_cons, estep0, estep2, estep4, ih h.tail.tail.tail, List.append_assoc, List.append_assoc, List.append_assoc]
    congr 1
    show _ :: _ :: _ :: _ :: enc r = _ :: _ :: _ :: _ :: enc r
    congr 1
    · omega
    · congr 1
      · omega
      · congr 1
        · omega
        · congr 1; omega
/-! The program's loop over letters. -/
def dstep (s : St) (v : Nat) : St := if s.h + 6 < 8 then ⟨s.out, (s.B * 64 + v) % 4294967296, s.h + 6⟩ else ⟨s.out ++ [(s.B * 64 + v) % 4294967296 / 2 ^ (s.h - 2) % 256], (s.B * 64 + v) % 4294967296, s.h - 2⟩
def drun (s : St) (l : List Nat) : St := l.foldl dstep s
theorem drun_nil (s : St) : drun s [] = s := rfl
theorem drun_cons (s : St) (x : Nat) (l : List Nat) : drun s (x :: l) = drun (dstep s x) l := rfl
theorem drun_snoc (s : St) (l : List Nat) (i : Nat) (h : i < l.length) : drun s (l.take (i + 1)) = dstep (drun s (l.take i)) (l.getD i 0) := by
  rw [List.take_add_one, List.getElem?_eq_getElem h, Option.toList_some]
  unfold drun
  rw [List.foldl_append, List.foldl_cons, List.foldl_nil, List.getD_eq_getElem?_getD, List.getElem?_eq_getElem h, Option.getD_some]
def DHeld (s : St) : Prop := (s.h = 0 ∨ s.h = 2 ∨ s.h = 4 ∨ s.h = 6) ∧ s.B < 4294967296
theorem dstep0 (o : List Nat) (B v : Nat) : dstep ⟨o, B, 0⟩ v = ⟨o, (B * 64 + v) % 4294967296, 6⟩ := rfl
theorem dstep6 (o : List Nat) (B v : Nat) : dstep ⟨o, B, 6⟩ v = ⟨o ++ [(B * 64 + v) % 4294967296 / 16 % 256], (B * 64 + v) % 4294967296, 4⟩ := rfl
theorem dstep4 (o : List Nat) (B v : Nat) : dstep ⟨o, B, 4⟩ v = ⟨o ++ [(B * 64 + v) % 4294967296 / 4 % 256], (B * 64 + v) % 4294967296, 2⟩ := rfl
theorem dstep2 (o : List Nat) (B v : Nat) : dstep ⟨o, B, 2⟩ v = ⟨o ++ [(B * 64 + v) % 4294967296 % 256], (B * 64 + v) % 4294967296, 0⟩ := by
  show (⟨o ++ [(B * 64 + v) % 4294967296 / 1 % 256], (B * 64 + v) % 4294967296, 0⟩ : St) = _
  rw [Nat.div_one]
theorem dstep_held {s : St} (h : DHeld s) (v : Nat) : DHeld (dstep s v) := by
  obtain ⟨o, B, k⟩ := s
  obtain ⟨h1, h2⟩ := h
  simp only at h1
  have hm : (B * 64 + v) % 4294967296 < 4294967296 := Nat.mod_lt _ (by decide)
  rcases h1 with rfl | rfl | rfl | rfl
  · rw [dstep0]; exact ⟨.inr (.inr (.inr rfl)), hm⟩
  · rw [dstep2]; exact ⟨.inl rfl, hm⟩
  · rw [dstep4]; exact ⟨.inr (.inl rfl), hm⟩
  · rw [dstep6]; exact ⟨.inr (.inr (.inl rfl)), hm⟩
theorem drun_held : ∀ (l : List Nat) (s : St), DHeld s → DHeld (drun s l)
  | [], _, h => h
  | x :: l, s, h => by rw [drun_cons]; exact drun_held l _ (dstep_held h x)
/-- What is left at the end is no letter's, and is 0: then the bytes are those written. -/
def dfin (s : St) : Option (List Nat) := if s.h = 6 ∨ s.B % 2 ^ s.h ≠ 0 then none else some s.out
theorem dfin0 (o : List Nat) (B : Nat) : dfin ⟨o, B, 0⟩ = some o := by
  unfold dfin; rw [if_neg (by simp [Nat.mod_one])]
theorem dfin6 (o : List Nat) (B : Nat) : dfin ⟨o, B, 6⟩ = none := by
  unfold dfin; rw [if_pos (.inl rfl)]
theorem dfin4 (o : List Nat) (B : Nat) : dfin ⟨o, B, 4⟩ = if B % 16 = 0 then some o else none := by
  unfold dfin
  by_cases h : B % 16 = 0
  · rw [if_pos h, if_neg (by simp [h])]
  · rw [if_neg h, if_pos (.inr (by simpa using h))]
theorem dfin2 (o : List Nat) (B : Nat) : dfin ⟨o, B, 2⟩ = if B % 4 = 0 then some o else none := by
  unfold dfin
  by_cases h : B % 4 = 0
  · rw [if_pos h, if_neg (by simp [h])]
  · rw [if_neg h, if_pos (.inr (by simpa using h))]
theorem dfin_drun : ∀ l, Ls l → ∀ o B, dfin (drun ⟨o, B, 0⟩ l) = (dec l).map (o ++ ·) := by
  refine four (fun _ o B => ?_) (fun a h o B => ?_) (fun x y h o B => ?_) (fun x y z h o B => ?_) (fun x y z u r ih h o B => ?_)
  · rw [drun_nil, dfin0]; show some o = some (o ++ []); rw [List.append_nil]
  · rw [drun_cons, drun_nil, dstep0, dfin6]; rfl
  · have := h.head; have := h.tail.head
    rw [drun_cons, drun_cons, drun_nil, dstep0, dstep6, dfin4]
    show _ = Option.map _ (if y % 16 = 0 then some [x * 4 + y / 16] else none)
    by_cases hy : y % 16 = 0
    · rw [if_pos hy, if_pos (by omega), Option.map_some]
      congr 3; omega
    · rw [if_neg hy, if_neg (by omega)]; rfl
  · have := h.head; have := h.tail.head; have := h.tail.tail.head
    rw [drun_cons, drun_cons, drun_cons, drun_nil, dstep0, dstep6, dstep4, dfin2, List.append_assoc]
    show _ = Option.map _ (if z % 4 = 0 then some [x * 4 + y / 16, y % 16 * 16 + z / 4] else none)
    by_cases hy : z % 4 = 0
    · rw [if_pos hy, if_pos (by omega), Option.map_some]
      congr 2
      show [_, _] = [_, _]
      congr 1
      · omega
      · congr 1; omega
    · rw [if_neg hy, if_neg (by omega)]; rfl
  · have := h.head; have := h.tail.head; have := h.tail.tail.head; have := h.tail.tail.tail.head
    rw [drun_cons, drun_cons, drun_cons, drun_cons, dstep0, dstep6, dstep4, dstep2, ih h.tail.tail.tail.tail, List.append_assoc, List.append_assoc]
    show _ = Option.map _ (Option.map _ (dec r))
    rw [Option.map_map]
    congr 1
    funext d
    show _ = o ++ (_ :: _ :: _ :: d)
    rw [List.append_assoc]
    congr 1
    show _ :: _ :: _ :: d = _
    congr 1
    · omega
    · congr 1
      · omega
      · congr 1; omega
end B64
end Go.Proofs.YtcpifencjmlhaaaDoor
