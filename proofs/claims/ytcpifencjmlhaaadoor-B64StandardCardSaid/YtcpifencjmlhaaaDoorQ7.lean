/-
  Letters and numbers are each other's: what is encoded is decoded to what it was, and what is decoded is encoded as just it.
-/
import Derived.Test.YtcpifencjmlhaaaDoorQ3
namespace Go.Proofs.YtcpifencjmlhaaaDoor.B64
open Go.RowKit
/-- An alphabet: letters and numbers are each other's. -/
def Alpha (al : List Nat) : Prop := al.length = 64 ∧ Bs al ∧ (∀ v, v < 64 → ixI al (al.getD v 0) = (v : Int)) ∧ (∀ c, c < 256 → 0 ≤ ixI al c → al.getD (ixI al c).toNat 0 = c)
theorem url_alpha : Alpha url := ⟨url_len, url_Bs, by decide +kernel, by decide +kernel⟩
theorem nums_lets {al : List Nat} (ha : Alpha al) : ∀ l, Ls l → nums al (lets al l) = l
  | [], _ => rfl
  | v :: l, h => by
    show (ixI al (al.getD v 0)).toNat :: nums al (lets al l) = _
    rw [ha.2.2.1 v h.head, nums_lets ha l h.tail]
    rfl
theorem lets_in {al : List Nat} (ha : Alpha al) {l : List Nat} (h : Ls l) : AllIn al (lets al l) := fun c hc => by
  simp only [lets, List.mem_map] at hc
  obtain ⟨v, hv, rfl⟩ := hc
  rw [ha.2.2.1 v (h v hv)]
  omega
theorem lets_nums {al : List Nat} (ha : Alpha al) : ∀ l, Bs l → AllIn al l → lets al (nums al l) = l
  | [], _, _ => rfl
  | c :: l, h, hi => by
    show al.getD (ixI al c).toNat 0 :: lets al (nums al l) = _
    rw [ha.2.2.2 c h.head (hi c List.mem_cons_self), lets_nums ha l h.tail (fun x hx => hi x (List.mem_cons_of_mem _ hx))]
/-- What is encoded is decoded to what it was. -/
theorem decO_enc {al : List Nat} (ha : Alpha al) (bs : List Nat) (h : Bs bs) : decO al (lets al (enc bs)) = some bs := by
  have hl := enc_Ls bs h
  unfold decO
  rw [if_pos (lets_in ha hl), nums_lets ha _ hl, dec_enc bs h]
/-- What is decoded is encoded as just it. -/
theorem enc_decO {al : List Nat} (ha : Alpha al) {cs d : List Nat} (h : Bs cs) (hd : decO al cs = some d) : lets al (enc d) = cs ∧ Bs d := by
  unfold decO at hd
  split at hd
  · rename_i hi
    obtain ⟨h1, h2⟩ := enc_dec _ (nums_Ls ha.1 cs) d hd
    rw [h1, lets_nums ha cs h hi]
    exact ⟨rfl, h2⟩
  · cases hd
theorem dec_len : ∀ l d, dec l = some d → d.length ≤ l.length := by
  refine four (fun d h => ?_) (fun a d h => by cases h) (fun a b d h => ?_) (fun a b c d h => ?_) (fun a b c e r ih d h => ?_)
  · injection h with h; subst h; simp
  · have h : (if b % 16 = 0 then some [a * 4 + b / 16] else none) = some d := h
    split at h
    · injection h with h; subst h; simp
    · cases h
  · have h : (if c % 4 = 0 then some [a * 4 + b / 16, b % 16 * 16 + c / 4] else none) = some d := h
    split at h
    · injection h with h; subst h; simp
    · cases h
  · obtain ⟨d', h1, rfl⟩ := Option.map_eq_some_iff.1 (show (dec r).map _ = some d from h)
    have := ih d' h1
    simp only [List.length_cons]
    omega
theorem decO_len {al cs d : List Nat} (h : decO al cs = some d) : d.length ≤ cs.length := by
  unfold decO at h
  split at h
  · have := dec_len _ _ h
    rwa [nums_length] at this
  · cases h
end Go.Proofs.YtcpifencjmlhaaaDoor.B64
