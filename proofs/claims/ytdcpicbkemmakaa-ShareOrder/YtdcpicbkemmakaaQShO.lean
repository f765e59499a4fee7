/- Rows of shares that a call makes itself; append of shares; slices.Clone of them. -/
import Derived.Test.YtdcpicbkemmakaaQShFtToShC
import Derived.Test.YtdcpicbkemmakaaQMadeToShLw
namespace Go.Proofs.Ytdcpicbkemmakaa
open Go.RowKit
set_option linter.unusedSimpArgs false
theorem iShare : (Try.prog.info? 34).map (fun i => (i.zero, i.size, i.bytes)) = some (some (.agg shZ.toArray), 5, 40) := by kernel_rfl
theorem flat5 : ∀ (l : List Shr) (i r : Nat) (s : Shr), l[i]? = some s → r < 5 → (l.flatMap shC)[i * 5 + r]? = (shC s)[r]?
  | [], i, r, s, h, _ => by simp at h
  | d :: l, 0, r, s, h, hr => by
    simp at h
    subst h
    rw [List.flatMap_cons, Nat.zero_mul, Nat.zero_add, List.getElem?_append_left (by rw [shC_length]; exact hr)]
  | d :: l, i + 1, r, s, h, hr => by
    have := flat5 l i r s (by simpa using h) hr
    rw [List.flatMap_cons, List.getElem?_append_right (by rw [shC_length]; omega), shC_length, show (i + 1) * 5 + r - 5 = i * 5 + r by omega, this]
theorem flat5_length : ∀ l : List Shr, (l.flatMap shC).length = l.length * 5
  | [] => rfl
  | d :: l => by rw [List.flatMap_cons, List.length_append, shC_length, flat5_length l, List.length_cons]; omega
/-- The slice v is an own row of the shares l, in a block from B on. -/
def Oh (w : World) (B : Nat) (v : Value) (l : List Shr) : Prop := w.ownsRow B 34 5 v l.length (l.flatMap shC)
theorem Oh.nil (w : World) (B : Nat) : Oh w B (.slice none 0 0) [] := World.ownsRow_nil _ _ _ _
theorem Oh.up {W w1 : World} {B : Nat} {v : Value} {l : List Shr} (h : Oh W B v l) (hb : Below W.heap.size W w1) : Oh w1 B v l := by
  refine ⟨h.1, ?_⟩
  rcases h.2 with h' | ⟨g, cap, cur, e, hB, hg, rest⟩
  · exact .inl h'
  · exact .inr ⟨g, cap, cur, e, hB, (hb.block g (Array.getElem?_eq_some_iff.1 hg).1).trans hg, rest⟩
theorem Oh.mono {w : World} {A B : Nat} {v : Value} {l : List Shr} (h : Oh w B v l) (hab : A ≤ B) : Oh w A v l := by
  refine ⟨h.1, ?_⟩
  rcases h.2 with h' | ⟨g, cap, cur, e, hB, rest⟩
  · exact .inl h'
  · exact .inr ⟨g, cap, cur, e, Nat.le_trans hab hB, rest⟩
theorem Oh.shs {w : World} {B : Nat} {v : Value} {l : List Shr} (h : Oh w B v l) : Shs w v l := by
  rcases id h.2 with ⟨e, e2⟩ | ⟨g, cap, cur, e, hB, hg, hn, rest⟩
  · exact ⟨none, 0, by rw [e, e2], ⟨by omega, fun _ => rfl⟩, fun hp => by omega⟩
  · refine ⟨some ⟨g, 0, none⟩, cap, e, ⟨hn, fun h => by cases h⟩, fun _ => ⟨g, 0, rfl, fun i s hs r u hu => ?_⟩⟩
    have hi : i < l.length := (List.getElem?_eq_some_iff.1 hs).1
    have hr : r < 5 := by
      have := (List.getElem?_eq_some_iff.1 hu).1
      rwa [shC_length] at this
    have h2 : w.ownsRow B 34 5 (.slice (some ⟨g, 0, none⟩) l.length cap) l.length (l.flatMap shC) := by rw [← e]; exact h
    rw [Nat.zero_add, h2.cellAt (i * 5 + r) (by omega), flat5 l i r s hs hr]
    exact hu
/-- append of shares to an own row. -/
theorem wp_appH {ops : Array Oper} {rest : List Oper} {o : Oper} {a : Act} {Q : Exit → Act → World → Prop} {w : World} (hgd : o.guard = none) (s x : Operand)
    (ho : o.op = .call { callee := .builtin .append, args := #[s, x], argTypes := #[22, 22] })
    (B : Nat) (v u : Value) (l m : List Shr) (hs : a.eval s = v) (hown : Oh w B v l) (hx : a.eval x = u) (hy : Shs w u m) (hl : l.length + m.length ≤ 100000) (hB : B ≤ w.heap.size)
    (h : ∀ v' w', Oh w' B v' (l ++ m) → w.grownBy w' v.ownBlock → wpList Try.prog ops Q rest (a.put o.dst v') w') : wpList Try.prog ops Q (o :: rest) a w := by
  obtain ⟨i0, hi, hz0, hz1, hz2⟩ := info_parts iShare
  obtain ⟨ad, c, rfl, hyc, hcells⟩ := hy
  cases ad with
  | none =>
    have hc0 := hyc.2 rfl
    have hy0 : m = [] := List.length_eq_zero_iff.1 (by omega)
    subst hc0 hy0
    refine wpList_append_own_none hgd s x 22 ho B 34 i0 5 uShs hi v l.length (l.flatMap shC) hs hown hx ?_
    exact h v w (by rw [List.append_nil]; exact hown) (World.grownBy.refl _ _)
  | some ad =>
    refine wpList_append_own w hgd s x 22 ho B 34 i0 (.agg shZ.toArray) 5 40 uShs hi hz0 hz1 hz2 rfl (by decide) v l.length (l.flatMap shC) hs hown ad m.length c (m.flatMap shC) hx (flat5_length m) ?_ ?_ (by unfold maxLen; omega) (by omega) hB fun v' w' a1 a2 _ => h v' w' ?_ a2
    · intro j u hj
      have hj2 : j < m.length * 5 := by
        have := (List.getElem?_eq_some_iff.1 hj).1
        rwa [flat5_length] at this
      obtain ⟨b, o', e, hc⟩ := hcells (by omega)
      obtain rfl : ad = ⟨b, o', none⟩ := Option.some.inj e
      have hd : j / 5 < m.length := by omega
      have hg : m[j / 5]? = some m[j / 5] := List.getElem?_eq_getElem hd
      have hf := flat5 m (j / 5) (j % 5) _ hg (by omega)
      rw [show j / 5 * 5 + j % 5 = j by omega, hj] at hf
      have := hc (j / 5) _ hg (j % 5) u hf.symm
      rw [Addr.add_lit]
      rwa [show o' + j / 5 * 5 + j % 5 = o' + j by omega] at this
    · intro u hu
      obtain ⟨s, _, hs⟩ := List.mem_flatMap.1 hu
      simp only [shC, List.mem_cons, List.not_mem_nil, or_false] at hs
      rcases hs with rfl | rfl | rfl | rfl | rfl <;> rfl
    · unfold Oh
      rw [List.length_append, List.flatMap_append]
      exact a1
theorem eql_nilH (a : Addr) (l c : Nat) (w : World) : (binOp .eql 22 (.slice (some a) l c) (.slice none 0 0)).run Try.prog w = .ok (.bool false) w := by
  have h : ∀ d : Nat, (Op.equalIn (d + 1) 22 (.slice (some a) l c) (.slice none 0 0)).run Try.prog w = .ok false w := fun d => by
    simp [Op.equalIn, run_underlying uShs]
  have h2 : (Op.equal 22 (.slice (some a) l c) (.slice none 0 0)).run Try.prog w = .ok false w := h 9999
  simp [binOp, h2]
theorem eql_nilH0 (w : World) : (binOp .eql 22 (.slice none 0 0) (.slice none 0 0)).run Try.prog w = .ok (.bool true) w := by
  have h : ∀ d : Nat, (Op.equalIn (d + 1) 22 (.slice none 0 0) (.slice none 0 0)).run Try.prog w = .ok true w := fun d => by
    simp [Op.equalIn, run_underlying uShs]
  have h2 : (Op.equal 22 (.slice none 0 0) (.slice none 0 0)).run Try.prog w = .ok true w := h 9999
  simp [binOp, h2]
set_option maxHeartbeats 1000000 in
theorem cloneH_nil (w : World) : Calls Try.prog 8 #[.slice none 0 0] w fun e w' => e = .returned (.slice none 0 0) ∧ Below w.heap.size w w' := by
  have en := eql_nilH0
  go_enter Try.func8, Try.ntmps8
  go_wp2_with fail
  go_ret
  exact ⟨rfl, Below.refl _ _⟩
set_option maxRecDepth 20000 in
set_option maxHeartbeats 1000000 in
theorem cloneH_some (l : List Shr) (zx : l.length ≤ 1000) (a : Addr) (n c : Nat) (w : World) (hv : Shs w (.slice (some a) n c) l) :
    Calls Try.prog 8 #[.slice (some a) n c] w fun e w' => (∃ v', e = .returned v' ∧ Oh w' w.heap.size v' l) ∧ Below w.heap.size w w' := by
  have en := eql_nilH a n c
  have HV : Hid (Shs (w.alloc (.cells #[] 34)) (.slice (some a) n c) l) := hv.up ((Below.refl _ _).alloc (Nat.le_refl _) _)
  have O1 : Hid (Oh (w.alloc (.cells #[] 34)) w.heap.size (.slice (some ⟨w.heap.size, 0, none⟩) 0 0) []) := ⟨by simp, .inr ⟨w.heap.size, 0, #[], rfl, Nat.le_refl _, heap_alloc_new w _, Nat.le_refl _, by unfold maxLen; omega, by simp, by simp⟩⟩
  have Z1 : Hid (Below w.heap.size w (w.alloc (.cells #[] 34))) := (Below.refl _ _).alloc (Nat.le_refl _) _
  have G1 : Hid (w.heap.size ≤ (w.alloc (.cells #[] 34)).heap.size) := Z1.out.size
  have ZX : Hid (l.length ≤ 1000) := zx
  clear hv zx
  go_enter Try.func8, Try.ntmps8
  go_wp2_with (refine wp_appH rfl _ _ rfl w.heap.size _ _ [] l rfl O1.out rfl HV.out (by have := ZX.out; simp only [List.length_nil]; omega) G1.out ?_)
  intro v2 w2 o2 hb2
  have B2 : Hid (Below w.heap.size w w2) := Below.grown Z1.out hb2 G1.out (fun k hk => by cases hk; exact Nat.le_refl _)
  have O2 : Hid (Oh w2 w.heap.size v2 l) := o2
  clear hb2 o2 HV O1 Z1 G1
  go_wp2_with fail
  go_ret
  exact ⟨⟨v2, rfl, O2.out⟩, B2.out⟩
theorem cloneH_fun (l : List Shr) (zx : l.length ≤ 1000) (v : Value) (w : World) (hv : Shs w v l) :
    Calls Try.prog 8 #[v] w fun e w' => (∃ v', e = .returned v' ∧ Oh w' w.heap.size v' l) ∧ Below w.heap.size w w' := by
  obtain ⟨a, c, rfl, h1, h2⟩ := id hv
  cases a with
  | some a => exact cloneH_some l zx a _ c w hv
  | none =>
    have hc := h1.2 rfl
    have hl : l = [] := List.length_eq_zero_iff.1 (by omega)
    subst hc hl
    exact (cloneH_nil w).mono fun e w' ⟨he, hb⟩ => ⟨⟨_, he, Oh.nil w' _⟩, hb⟩
end Go.Proofs.Ytdcpicbkemmakaa
