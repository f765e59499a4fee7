/- The contract of der.Read. -/
import Derived.Test.YtohliojdmmbcdabQDerFi
namespace Go.Proofs.Ytohliojdmmbcdab
open Go.RowKit
set_option linter.unusedSimpArgs false
theorem Try.iItem : (Try.prog.info? 35).map (fun i => (i.zero, i.size, i.bytes)) = some (some (.agg #[.int .u8 0, .slice none 0 0]), 2, 32) := by kernel_rfl
def flatI (ps : List (It × Value)) : List Value := ps.flatMap fun p => [b8 p.1.tag, p.2]
theorem flatI_get : ∀ (ps : List (It × Value)) (j : Nat) (p : It × Value), ps[j]? = some p → (flatI ps)[j * 2]? = some (b8 p.1.tag) ∧ (flatI ps)[j * 2 + 1]? = some p.2
  | [], j, p, h => by simp at h
  | q :: ps, 0, p, h => by
    obtain rfl : q = p := by simpa using h
    exact ⟨rfl, rfl⟩
  | q :: ps, j + 1, p, h => by
    have := flatI_get ps j p (by simpa using h)
    rw [show (j + 1) * 2 = j * 2 + 2 by omega]
    exact ⟨this.1, this.2⟩
/-- Rows of items that the call made, with bodies that it made. -/
def Oi (w : World) (B : Nat) (v : Value) (l : List It) : Prop := ∃ ps : List (It × Value), ps.map Prod.fst = l ∧ w.ownsRow B 35 2 v ps.length (flatI ps) ∧ ∀ p ∈ ps, Bk w p.2 p.1.body
theorem Oi.nil (w : World) (B : Nat) : Oi w B (.slice none 0 0) [] := ⟨[], rfl, World.ownsRow_nil _ _ _ _, by simp⟩
theorem own_up {W w1 : World} {B e n k : Nat} {v : Value} {xs : List Value} (h : W.ownsRow B e k v n xs) (hb : Below W.heap.size W w1) : w1.ownsRow B e k v n xs := by
  refine ⟨h.1, ?_⟩
  rcases h.2 with h' | ⟨g, cap, cur, e, hB, hg, rest⟩
  · exact .inl h'
  · exact .inr ⟨g, cap, cur, e, hB, (hb.block g (Array.getElem?_eq_some_iff.1 hg).1).trans hg, rest⟩
theorem Oi.up {W w1 : World} {B : Nat} {v : Value} {l : List It} (h : Oi W B v l) (hb : Below W.heap.size W w1) : Oi w1 B v l := by
  obtain ⟨ps, e, h1, h2⟩ := h
  exact ⟨ps, e, own_up h1 hb, fun p hp => (h2 p hp).up hb⟩
theorem Oi.its {w : World} {B : Nat} {v : Value} {l : List It} (h : Oi w B v l) : Its w v l := by
  obtain ⟨ps, rfl, h1, h2⟩ := h
  rcases id h1.2 with ⟨e, e2⟩ | ⟨g, cap, cur, e, hB, hg, hn, rest⟩
  · have : ps = [] := List.length_eq_zero_iff.1 e2
    subst this
    exact ⟨none, 0, by rw [e]; rfl, Nat.le_refl _, fun _ => rfl, fun h => absurd h (Nat.lt_irrefl _)⟩
  · refine ⟨_, cap, by rw [e, List.length_map], by rw [List.length_map]; exact hn, (fun h => by cases h), fun hp => ⟨g, 0, rfl, fun j x hx => ?_⟩⟩
    subst e
    obtain ⟨p, hp1, hp2⟩ : ∃ p, ps[j]? = some p ∧ p.1 = x := by
      rw [List.getElem?_map] at hx
      cases e3 : ps[j]? with
      | none => rw [e3] at hx; cases hx
      | some p => rw [e3] at hx; exact ⟨p, rfl, by simpa using hx⟩
    have hj : j < ps.length := (List.getElem?_eq_some_iff.1 hp1).1
    obtain ⟨c0, c1⟩ := flatI_get ps j p hp1
    rw [← hp2]
    refine ⟨?_, p.2, ?_, (h2 p (List.mem_of_getElem? hp1)).1⟩
    · rw [Nat.zero_add, h1.cellAt (j * 2) (by omega)]; exact c0
    · rw [Nat.zero_add, h1.cellAt (j * 2 + 1) (by omega)]; exact c1
theorem own_obj {w : World} {B e n k : Nat} {v : Value} {xs : List Value} (h : w.ownsRow B e k v n xs) {g : Nat} (hg : v.ownBlock = some g) : ∃ cur, w.heap[g]? = some (.cells cur e (0, 0)) := by
  rcases h.2 with ⟨e, e2⟩ | ⟨g', cap, cur, e, hB, hg', hn, rest⟩
  · rw [e] at hg; cases hg
  · rw [e] at hg
    obtain rfl : g' = g := Option.some.inj hg
    exact ⟨cur, hg'⟩
theorem Bk.kept_item {w w' : World} {B e n : Nat} {v u : Value} {xs : List Nat} {ys : List Value} (h : Bk w u xs) (ho : w.ownsRow B 35 e v n ys) (hg : w.grownBy w' v.ownBlock) : Bk w' u xs := by
  have ne : ∀ g, u.ownBlock = some g → some g ≠ v.ownBlock := by
    intro g hu e2
    obtain ⟨c1, m, h1⟩ := h.2 g hu
    obtain ⟨c2, h2⟩ := own_obj ho e2.symm
    rw [h1] at h2
    simp at h2
  obtain ⟨⟨a, c, rfl, h1, h2, h3⟩, hk⟩ := h
  refine ⟨⟨a, c, rfl, h1, h2, fun hp => ?_⟩, fun g hu => ?_⟩
  · obtain ⟨b, o, rfl, hc⟩ := h3 hp
    exact ⟨b, o, rfl, fun j hj => hg.cell (hc j hj) (ne b rfl)⟩
  · obtain ⟨cur, m, e⟩ := hk g hu
    exact ⟨cur, m, (hg.block g (Array.getElem?_eq_some_iff.1 e).1 (ne g hu)).trans e⟩
/-- append of one item to a row that the call made. -/
theorem wp_appI {ops : Array Oper} {rest : List Oper} {o : Oper} {a : Act} {Q : Exit → Act → World → Prop} {w : World} (hgd : o.guard = none) (s x : Operand)
    (ho : o.op = .call { callee := .builtin .append, args := #[s, x], argTypes := #[31, 31] })
    (B : Nat) (v : Value) (l : List It) (y : It) (u : Value) (b : Nat) (W0 : World) (hs : a.eval s = v) (hown : Oi W0 B v l) (hup : Below W0.heap.size W0 w) (hx : a.eval x = .slice (some ⟨b, 0, none⟩) 1 1)
    (c0 : w.cell? ⟨b, 0, none⟩ = some (b8 y.tag)) (c1 : w.cell? ⟨b, 1, none⟩ = some u) (hu : Bk w u y.body) (hu1 : u.oneCell' = true)
    (hl : l.length ≤ 1000) (hB : B ≤ W0.heap.size) (h : ∀ v' w', Oi w' B v' (l ++ [y]) → w.grownBy w' v.ownBlock → Below B W0 w' → wpList Try.prog ops Q rest (a.put o.dst v') w') : wpList Try.prog ops Q (o :: rest) a w := by
  obtain ⟨i0, hi, hz0, hz1, hz2⟩ := info_parts Try.iItem
  have hs0 := hup.size
  obtain ⟨ps, e, h1, h2⟩ := hown.up hup
  have hpl : ps.length = l.length := by rw [← e, List.length_map]
  refine wpList_append_own w hgd s x 31 ho B 35 i0 _ 2 32 Try.uItems hi hz0 hz1 hz2 rfl (by decide) v ps.length (flatI ps) hs h1 ⟨b, 0, none⟩ 1 1 [b8 y.tag, u] hx rfl ?_ ?_ ?_ ?_ ?_ ?_
  · intro j u' hj
    match j, hj with
    | 0, hj =>
      obtain rfl : b8 y.tag = u' := by simpa using hj
      rw [Addr.add_zero']; exact c0
    | 1, hj =>
      obtain rfl : u = u' := by simpa using hj
      rw [Addr.add_lit]; exact c1
    | j + 2, hj => simp at hj
  · intro u' hu'
    simp only [List.mem_cons, List.not_mem_nil, or_false] at hu'
    rcases hu' with rfl | rfl
    · rfl
    · exact hu1
  · unfold maxLen; omega
  · omega
  · omega
  · intro v' w' hown' hg _
    refine h v' w' ⟨ps ++ [(y, u)], by simp [e], ?_, fun p hp => ?_⟩ hg ?_
    · have : flatI (ps ++ [(y, u)]) = flatI ps ++ [b8 y.tag, u] := by simp [flatI]
      rw [this, List.length_append]
      exact hown'
    · rcases List.mem_append.1 hp with hp | hp
      · exact (h2 p hp).kept_item h1 hg
      · obtain rfl : p = (y, u) := by simpa using hp
        exact hu.kept_item h1 hg
    · refine Below.grown (hup.mono hB) hg (by omega) fun k hk => ?_
      exact (h1.lt k hk).1
/-- What is read of bytes, when r items more may be. -/
def readS : Nat → List Nat → Sum Nat (List It)
  | _, [] => .inr []
  | 0, _ :: _ => .inl 2
  | r + 1, x :: b => match firstS (x :: b) with
    | .inl e => .inl e
    | .inr (y, n) => match readS r ((x :: b).drop n) with
      | .inl e => .inl e
      | .inr l => .inr (y :: l)
def joinS (l : List It) : Sum Nat (List It) → Sum Nat (List It)
  | .inl e => .inl e
  | .inr m => .inr (l ++ m)
theorem readS_step {r : Nat} {b : List Nat} {y : It} {n : Nat} (hb : b ≠ []) (h : firstS b = .inr (y, n)) (l : List It) : joinS l (readS (r + 1) b) = joinS (l ++ [y]) (readS r (b.drop n)) := by
  match b, hb with
  | x :: b, _ =>
    rw [readS, h]
    simp only
    cases readS r ((x :: b).drop n) with
    | inl e => rfl
    | inr m => simp [joinS]
theorem readS_err {r : Nat} {b : List Nat} {n : Nat} (hb : b ≠ []) (h : firstS b = .inl n) (l : List It) : joinS l (readS (r + 1) b) = .inl n := by
  match b, hb with
  | x :: b, _ =>
    rw [readS, h]
    rfl
theorem finS_cases (b : List Nat) (n s : Nat) : finS b n s = .inl 2 ∨ finS b n s = .inl 3 ∨ (n ≤ 4096 ∧ s + n ≤ b.length ∧ finS b n s = .inr (⟨b.getD 0 0, (b.drop s).take n⟩, s + n)) := by
  unfold finS
  by_cases h1 : 4096 < n
  · rw [if_pos h1]; exact .inl rfl
  · rw [if_neg h1]
    by_cases h2 : b.length < s + n
    · rw [if_pos h2]; exact .inr (.inl rfl)
    · rw [if_neg h2]; exact .inr (.inr ⟨by omega, by omega, rfl⟩)
/-- An item that is read stands in front, as it would be written. -/
theorem firstS_cases (b : List Nat) (low : ∀ x ∈ b, x < 256) : firstS b = .inl 2 ∨ firstS b = .inl 3 ∨ firstS b = .inl 4 ∨
    ∃ n s, 2 ≤ s ∧ n ≤ 4096 ∧ s + n ≤ b.length ∧ b.take s = b.getD 0 0 :: lenB n ∧ firstS b = .inr (⟨b.getD 0 0, (b.drop s).take n⟩, s + n) := by
  unfold firstS
  by_cases p0 : b.length < 2
  · rw [if_pos p0]; exact .inr (.inl rfl)
  · rw [if_neg p0]
    match b, p0, low with
    | t :: d :: r, _, low =>
      simp only [List.getD_cons_succ, List.getD_cons_zero]
      by_cases p1 : d < 128
      · rw [if_pos p1]
        rcases finS_cases (t :: d :: r) d 2 with h | h | ⟨h1, h2, h⟩
        · exact .inl h
        · exact .inr (.inl h)
        · exact .inr (.inr (.inr ⟨d, 2, by omega, h1, h2, by simp [lenB, p1], h⟩))
      · rw [if_neg p1]
        by_cases p2 : d = 129
        · rw [if_pos p2]
          by_cases p3 : (t :: d :: r).length < 3
          · rw [if_pos p3]; exact .inr (.inl rfl)
          · rw [if_neg p3]
            match r, p3, low with
            | n :: r, _, low =>
              simp only [List.getD_cons_zero]
              by_cases p4 : n < 128
              · rw [if_pos p4]; exact .inr (.inr (.inl rfl))
              · rw [if_neg p4]
                have hn := low n (by simp)
                rcases finS_cases (t :: d :: n :: r) n 3 with h | h | ⟨h1, h2, h⟩
                · exact .inl h
                · exact .inr (.inl h)
                · exact .inr (.inr (.inr ⟨n, 3, by omega, h1, h2, by simp [lenB, p4, hn, p2], h⟩))
            | [], p3, _ => simp at p3
        · rw [if_neg p2]
          by_cases p5 : d = 130
          · rw [if_pos p5]
            by_cases p3 : (t :: d :: r).length < 4
            · rw [if_pos p3]; exact .inr (.inl rfl)
            · rw [if_neg p3]
              match r, p3, low with
              | n :: m :: r, _, low =>
                simp only [List.getD_cons_succ, List.getD_cons_zero]
                by_cases p4 : n * 256 + m < 256
                · rw [if_pos p4]; exact .inr (.inr (.inl rfl))
                · rw [if_neg p4]
                  have hn := low n (by simp)
                  have hm := low m (by simp)
                  rcases finS_cases (t :: d :: n :: m :: r) (n * 256 + m) 4 with h | h | ⟨h1, h2, h⟩
                  · exact .inl h
                  · exact .inr (.inl h)
                  · refine .inr (.inr (.inr ⟨n * 256 + m, 4, by omega, h1, h2, ?_, h⟩))
                    have e1 : (n * 256 + m) / 256 = n := by omega
                    have e2 : (n * 256 + m) % 256 = m := by omega
                    unfold lenB
                    rw [if_neg (by omega), if_neg p4, e1, e2, p5]
                    simp
              | [_], p3, _ => simp at p3
              | [], p3, _ => simp at p3
          · rw [if_neg p5]; exact .inr (.inr (.inl rfl))
    | [_], p, _ => simp at p
    | [], p, _ => simp at p
theorem firstS_inl {b : List Nat} (low : ∀ x ∈ b, x < 256) {n : Nat} (h : firstS b = .inl n) : n = 2 ∨ n = 3 ∨ n = 4 := by
  rcases firstS_cases b low with h1 | h1 | h1 | ⟨_, _, _, _, _, _, h1⟩
  all_goals rw [h] at h1
  · exact .inl (Sum.inl.inj h1)
  · exact .inr (.inl (Sum.inl.inj h1))
  · exact .inr (.inr (Sum.inl.inj h1))
  · cases h1
theorem firstS_inr {b : List Nat} (low : ∀ x ∈ b, x < 256) {x : It} {n : Nat} (h : firstS b = .inr (x, n)) : 2 ≤ n ∧ n ≤ b.length ∧ x.body.length ≤ 4096 ∧ x.text = b.take n ∧ x.tag < 256 ∧ ∀ y ∈ x.body, y < 256 := by
  rcases firstS_cases b low with h1 | h1 | h1 | ⟨m, s, h2, h3, h4, h5, h1⟩
  all_goals rw [h] at h1
  · cases h1
  · cases h1
  · cases h1
  · obtain ⟨rfl, rfl⟩ : x = ⟨b.getD 0 0, (b.drop s).take m⟩ ∧ n = s + m := by
      have := Sum.inr.inj h1
      simpa using this
    have e : ((b.drop s).take m).length = m := by simp; omega
    refine ⟨by omega, h4, by simp only [e]; exact h3, ?_, ?_, fun y hy => low y (List.mem_of_mem_drop (List.mem_of_mem_take hy))⟩
    · rw [It.text]
      simp only [e]
      rw [List.take_add, h5]
      rfl
    · match b, h4 with
      | t :: r, _ => exact low t (by simp)
      | [], h4 => simp at h4; omega
end Go.Proofs.Ytohliojdmmbcdab
