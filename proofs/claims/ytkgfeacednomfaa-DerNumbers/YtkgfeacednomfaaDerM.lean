/- Items as texts: what is read of bytes, and that what was written is read as it was. -/
import Derived.Test.YtkgfeacednomfaaDerWr
namespace Go.Proofs.Ytkgfeacednomfaa
/-- An item with a body of n bytes from start on. -/
def finS (b : List Nat) (n start : Nat) : Sum Nat (It × Nat) :=
  if 4096 < n then .inl 2 else if b.length < start + n then .inl 3 else .inr (⟨b.getD 0 0, (b.drop start).take n⟩, start + n)
/-- The first item of bytes, and of how many bytes it is. -/
def firstS (b : List Nat) : Sum Nat (It × Nat) :=
  if b.length < 2 then .inl 3
  else if b.getD 1 0 < 128 then finS b (b.getD 1 0) 2
  else if b.getD 1 0 = 129 then if b.length < 3 then .inl 3 else if b.getD 2 0 < 128 then .inl 4 else finS b (b.getD 2 0) 3
  else if b.getD 1 0 = 130 then if b.length < 4 then .inl 3 else if b.getD 2 0 * 256 + b.getD 3 0 < 256 then .inl 4 else finS b (b.getD 2 0 * 256 + b.getD 3 0) 4
  else .inl 4
theorem finS_text (t : Nat) (h body r : List Nat) (hb : body.length ≤ 4096) : finS (t :: (h ++ body) ++ r) body.length (1 + h.length) = .inr (⟨t, body⟩, 1 + h.length + body.length) := by
  have e : (t :: (h ++ body) ++ r).drop (1 + h.length) = body ++ r := by
    rw [Nat.add_comm, List.cons_append, List.drop_succ_cons, List.append_assoc, List.drop_left]
  unfold finS
  rw [if_neg (by omega), if_neg (by simp; omega), e, List.take_left]
  simp
/-- What was written is read as it was. -/
theorem first_text (x : It) (r : List Nat) (hb : x.body.length ≤ 4096) : firstS (x.text ++ r) = .inr (x, x.text.length) := by
  obtain ⟨t, body⟩ := x
  simp only at hb
  by_cases h1 : body.length < 128
  · have := finS_text t [body.length] body r hb
    simp only [It.text, lenB, if_pos h1, List.length_cons, List.length_nil, List.cons_append, List.nil_append] at this ⊢
    unfold firstS
    rw [if_neg (by simp)]
    simp only [List.getD_cons_succ, List.getD_cons_zero, if_pos h1]
    rw [this]
    simp
    omega
  · by_cases h2 : body.length < 256
    · have := finS_text t [129, body.length] body r hb
      simp only [It.text, lenB, if_neg h1, if_pos h2, List.length_cons, List.length_nil, List.cons_append, List.nil_append] at this ⊢
      unfold firstS
      rw [if_neg (by simp)]
      simp only [List.getD_cons_succ, List.getD_cons_zero, if_neg h1]
      rw [if_neg (by omega), if_pos trivial, if_neg (by simp), this]
      simp
      omega
    · have := finS_text t [130, body.length / 256, body.length % 256] body r hb
      simp only [It.text, lenB, if_neg h1, if_neg h2, List.length_cons, List.length_nil, List.cons_append, List.nil_append] at this ⊢
      unfold firstS
      have e : body.length / 256 * 256 + body.length % 256 = body.length := by omega
      rw [if_neg (by simp)]
      simp only [List.getD_cons_succ, List.getD_cons_zero, e, if_neg h2]
      rw [if_neg (by omega), if_neg (by omega), if_pos trivial, if_neg (by simp), this]
      simp
      omega
/-- No item's text is the beginning of another's. -/
theorem text_front {x y : It} (hx : x.body.length ≤ 4096) (hy : y.body.length ≤ 4096) (h : x.text.take y.text.length = y.text) : x = y := by
  have e : y.text ++ x.text.drop y.text.length = x.text := by
    have := List.take_append_drop y.text.length x.text
    rwa [h] at this
  have h1 := first_text y (x.text.drop y.text.length) hy
  have h2 := first_text x [] hx
  rw [e] at h1
  rw [List.append_nil] at h2
  rw [h1] at h2
  simp at h2
  exact h2.1.symm
theorem lenB_low {n : Nat} (h : n ≤ 65535) : ∀ y ∈ lenB n, y < 256 := by
  unfold lenB
  by_cases h1 : n < 128
  · simp [h1]; omega
  · by_cases h2 : n < 256
    · simp [h1, h2]
    · simp [h1, h2]; omega
theorem text_low {x : It} (h : x.body.length ≤ 4096) (ht : x.tag < 256) (hb : ∀ y ∈ x.body, y < 256) : ∀ y ∈ x.text, y < 256 := by
  intro y hy
  simp only [It.text, List.mem_cons, List.mem_append] at hy
  rcases hy with rfl | hy | hy
  · exact ht
  · exact lenB_low (by omega) y hy
  · exact hb y hy
theorem texts_low {l : List It} (h : ∀ x ∈ l, x.body.length ≤ 4096) (hl : ∀ x ∈ l, x.tag < 256 ∧ ∀ y ∈ x.body, y < 256) : ∀ y ∈ texts l, y < 256 := by
  intro y hy
  simp only [texts, List.mem_flatMap] at hy
  obtain ⟨x, hx, hy⟩ := hy
  exact text_low (h x hx) (hl x hx).1 (hl x hx).2 y hy
end Go.Proofs.Ytkgfeacednomfaa
