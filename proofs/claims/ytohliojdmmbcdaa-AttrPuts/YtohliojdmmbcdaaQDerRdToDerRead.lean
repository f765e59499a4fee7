/- Texts that were joined: DerRd, DerRead. -/
import Derived.Test.YtohliojdmmbcdaaQDerFi
/- The contract of der.Read. -/
namespace Go.Proofs.Ytohliojdmmbcdaa
open Go.RowKit
set_option linter.unusedSimpArgs false
theorem Try.iItem : (Try.prog.info? 62).map (fun i => (i.zero, i.size, i.bytes)) = some (some (.agg #[.int .u8 0, .slice none 0 0]), 2, 32) := by kernel_rfl
def flatI (ps : List (It × Value)) : List Value := ps.flatMap fun p => [b8 p.1.tag, p.2]
theorem flatI_get : ∀ (ps : List (It × Value)) (j : Nat) (p : It × Value), ps[j]? = some p → (flatI ps)[j * 2]? = some (b8 p.1.tag) ∧ (flatI ps)[j * 2 + 1]? = some p.2
  | [], j, p, h => by simp at h
  | q :: ps, 0, p, h => by
    obtain rfl : q = p := by simpa using h
    exact ⟨rfl, rfl⟩
  | q :: ps, j + 1, p, h => by
    have := flatI_get ps j p (by simpa using h)
    rw [show (j + 1) * 2 = j * 2 + 2 by omega]
    exact ⟨this.1, this.2⟩
/-- Rows of items that the call made, with bodies that it made. -/
def Oi (w : World) (B : Nat) (v : Value) (l : List It) : Prop := ∃ ps : List (It × Value), ps.map Prod.fst = l ∧ w.ownsRow B 62 2 v ps.length (flatI ps) ∧ ∀ p ∈ ps, Bk w p.2 p.1.body
theorem Oi.nil (w : World) (B : Nat) : Oi w B (.slice none 0 0) [] := ⟨[], rfl, World.ownsRow_nil _ _ _ _, by simp⟩
theorem own_up {W w1 : World} {B e n k : Nat} {v : Value} {xs : List Value} (h : W.ownsRow B e k v n xs) (hb : Below W.heap.size W w1) : w1.ownsRow B e k v n xs := by
  refine ⟨h.1, ?_⟩
  rcases h.2 with h' | ⟨g, cap, cur, e, hB, hg, rest⟩
  · exact .inl h'
  · exact .inr ⟨g, cap, cur, e, hB, (hb.block g (Array.getElem?_eq_some_iff.1 hg).1).trans hg, rest⟩
theorem Oi.up {W w1 : World} {B : Nat} {v : Value} {l : List It} (h : Oi W B v l) (hb : Below W.heap.size W w1) : Oi w1 B v l := by
  obtain ⟨ps, e, h1, h2⟩ := h
  exact ⟨ps, e, own_up h1 hb, fun p hp => (h2 p hp).up hb⟩
theorem Oi.its {w : World} {B : Nat} {v : Value} {l : List It} (h : Oi w B v l) : Its w v l := by
  obtain ⟨ps, rfl, h1, h2⟩ := h
  rcases id h1.2 with ⟨e, e2⟩ | ⟨g, cap, cur, e, hB, hg, hn, rest⟩
  · have : ps = [] := List.length_eq_zero_iff.1 e2
    subst this
    exact ⟨none, 0, by rw [e]; rfl, Nat.le_refl _, fun _ => rfl, fun h => absurd h (Nat.lt_irrefl _)⟩
  · refine ⟨_, cap, by rw [e, List.length_map], by rw [List.length_map]; exact hn, (fun h => by cases h), fun hp => ⟨g, 0, rfl, fun j x hx => ?_⟩⟩
    subst e
    obtain ⟨p, hp1, hp2⟩ : ∃ p, ps[j]? = some p ∧ p.1 = x := by
      rw [List.getElem?_map] at hx
      cases e3 : ps[j]? with
      | none => rw [e3] at hx; cases hx
      | some p => rw [e3] at hx; exact ⟨p, rfl, by simpa using hx⟩
    have hj : j < ps.length := (List.getElem?_eq_some_iff.1 hp1).1
    obtain ⟨c0, c1⟩ := flatI_get ps j p hp1
    rw [← hp2]
    refine ⟨?_, p.2, ?_, (h2 p (List.mem_of_getElem? hp1)).1⟩
    · rw [Nat.zero_add, h1.cellAt (j * 2) (by omega)]; exact c0
    · rw [Nat.zero_add, h1.cellAt (j * 2 + 1) (by omega)]; exact c1
theorem own_obj {w : World} {B e n k : Nat} {v : Value} {xs : List Value} (h : w.ownsRow B e k v n xs) {g : Nat} (hg : v.ownBlock = some g) : ∃ cur, w.heap[g]? = some (.cells cur e (0, 0)) := by
  rcases h.2 with ⟨e, e2⟩ | ⟨g', cap, cur, e, hB, hg', hn, rest⟩
  · rw [e] at hg; cases hg
  · rw [e] at hg
    obtain rfl : g' = g := Option.some.inj hg
    exact ⟨cur, hg'⟩
theorem Bk.kept_item {w w' : World} {B e n : Nat} {v u : Value} {xs : List Nat} {ys : List Value} (h : Bk w u xs) (ho : w.ownsRow B 62 e v n ys) (hg : w.grownBy w' v.ownBlock) : Bk w' u xs := by
  have ne : ∀ g, u.ownBlock = some g → some g ≠ v.ownBlock := by
    intro g hu e2
    obtain ⟨c1, m, h1⟩ := h.2 g hu
    obtain ⟨c2, h2⟩ := own_obj ho e2.symm
    rw [h1] at h2
    simp at h2
  obtain ⟨⟨a, c, rfl, h1, h2, h3⟩, hk⟩ := h
  refine ⟨⟨a, c, rfl, h1, h2, fun hp => ?_⟩, fun g hu => ?_⟩
  · obtain ⟨b, o, rfl, hc⟩ := h3 hp
    exact ⟨b, o, rfl, fun j hj => hg.cell (hc j hj) (ne b rfl)⟩
  · obtain ⟨cur, m, e⟩ := hk g hu
    exact ⟨cur, m, (hg.block g (Array.getElem?_eq_some_iff.1 e).1 (ne g hu)).trans e⟩
/-- append of one item to a row that the call made. -/
theorem wp_appI {ops : Array Oper} {rest : List Oper} {o : Oper} {a : Act} {Q : Exit → Act → World → Prop} {w : World} (hgd : o.guard = none) (s x : Operand)
    (ho : o.op = .call { callee := .builtin .append, args := #[s, x], argTypes := #[60, 60] })
    (B : Nat) (v : Value) (l : List It) (y : It) (u : Value) (b : Nat) (W0 : World) (hs : a.eval s = v) (hown : Oi W0 B v l) (hup : Below W0.heap.size W0 w) (hx : a.eval x = .slice (some ⟨b, 0, none⟩) 1 1)
    (c0 : w.cell? ⟨b, 0, none⟩ = some (b8 y.tag)) (c1 : w.cell? ⟨b, 1, none⟩ = some u) (hu : Bk w u y.body) (hu1 : u.oneCell' = true)
    (hl : l.length ≤ 1000) (hB : B ≤ W0.heap.size) (h : ∀ v' w', Oi w' B v' (l ++ [y]) → w.grownBy w' v.ownBlock → Below B W0 w' → wpList Try.prog ops Q rest (a.put o.dst v') w') : wpList Try.prog ops Q (o :: rest) a w := by
  obtain ⟨i0, hi, hz0, hz1, hz2⟩ := info_parts Try.iItem
  have hs0 := hup.size
  obtain ⟨ps, e, h1, h2⟩ := hown.up hup
  have hpl : ps.length = l.length := by rw [← e, List.length_map]
  refine wpList_append_own w hgd s x 60 ho B 62 i0 _ 2 32 Try.uItems hi hz0 hz1 hz2 rfl (by decide) v ps.length (flatI ps) hs h1 ⟨b, 0, none⟩ 1 1 [b8 y.tag, u] hx rfl ?_ ?_ ?_ ?_ ?_ ?_
  · intro j u' hj
    match j, hj with
    | 0, hj =>
      obtain rfl : b8 y.tag = u' := by simpa using hj
      rw [Addr.add_zero']; exact c0
    | 1, hj =>
      obtain rfl : u = u' := by simpa using hj
      rw [Addr.add_lit]; exact c1
    | j + 2, hj => simp at hj
  · intro u' hu'
    simp only [List.mem_cons, List.not_mem_nil, or_false] at hu'
    rcases hu' with rfl | rfl
    · rfl
    · exact hu1
  · unfold maxLen; omega
  · omega
  · omega
  · intro v' w' hown' hg _
    refine h v' w' ⟨ps ++ [(y, u)], by simp [e], ?_, fun p hp => ?_⟩ hg ?_
    · have : flatI (ps ++ [(y, u)]) = flatI ps ++ [b8 y.tag, u] := by simp [flatI]
      rw [this, List.length_append]
      exact hown'
    · rcases List.mem_append.1 hp with hp | hp
      · exact (h2 p hp).kept_item h1 hg
      · obtain rfl : p = (y, u) := by simpa using hp
        exact hu.kept_item h1 hg
    · refine Below.grown (hup.mono hB) hg (by omega) fun k hk => ?_
      exact (h1.lt k hk).1
/-- What is read of bytes, when r items more may be. -/
def readS : Nat → List Nat → Sum Nat (List It)
  | _, [] => .inr []
  | 0, _ :: _ => .inl 2
  | r + 1, x :: b => match firstS (x :: b) with
    | .inl e => .inl e
    | .inr (y, n) => match readS r ((x :: b).drop n) with
      | .inl e => .inl e
      | .inr l => .inr (y :: l)
def joinS (l : List It) : Sum Nat (List It) → Sum Nat (List It)
  | .inl e => .inl e
  | .inr m => .inr (l ++ m)
theorem readS_step {r : Nat} {b : List Nat} {y : It} {n : Nat} (hb : b ≠ []) (h : firstS b = .inr (y, n)) (l : List It) : joinS l (readS (r + 1) b) = joinS (l ++ [y]) (readS r (b.drop n)) := by
  match b, hb with
  | x :: b, _ =>
    rw [readS, h]
    simp only
    cases readS r ((x :: b).drop n) with
    | inl e => rfl
    | inr m => simp [joinS]
theorem readS_err {r : Nat} {b : List Nat} {n : Nat} (hb : b ≠ []) (h : firstS b = .inl n) (l : List It) : joinS l (readS (r + 1) b) = .inl n := by
  match b, hb with
  | x :: b, _ =>
    rw [readS, h]
    rfl
theorem finS_cases (b : List Nat) (n s : Nat) : finS b n s = .inl 2 ∨ finS b n s = .inl 3 ∨ (n ≤ 4096 ∧ s + n ≤ b.length ∧ finS b n s = .inr (⟨b.getD 0 0, (b.drop s).take n⟩, s + n)) := by
  unfold finS
  by_cases h1 : 4096 < n
  · rw [if_pos h1]; exact .inl rfl
  · rw [if_neg h1]
    by_cases h2 : b.length < s + n
    · rw [if_pos h2]; exact .inr (.inl rfl)
    · rw [if_neg h2]; exact .inr (.inr ⟨by omega, by omega, rfl⟩)
/-- An item that is read stands in front, as it would be written. -/
theorem firstS_cases (b : List Nat) (low : ∀ x ∈ b, x < 256) : firstS b = .inl 2 ∨ firstS b = .inl 3 ∨ firstS b = .inl 4 ∨
    ∃ n s, 2 ≤ s ∧ n ≤ 4096 ∧ s + n ≤ b.length ∧ b.take s = b.getD 0 0 :: lenB n ∧ firstS b = .inr (⟨b.getD 0 0, (b.drop s).take n⟩, s + n) := by
  unfold firstS
  by_cases p0 : b.length < 2
  · rw [if_pos p0]; exact .inr (.inl rfl)
  · rw [if_neg p0]
    match b, p0, low with
    | t :: d :: r, _, low =>
      simp only [List.getD_cons_succ, List.getD_cons_zero]
      by_cases p1 : d < 128
      · rw [if_pos p1]
        rcases finS_cases (t :: d :: r) d 2 with h | h | ⟨h1, h2, h⟩
        · exact .inl h
        · exact .inr (.inl h)
        · exact .inr (.inr (.inr ⟨d, 2, by omega, h1, h2, by simp [lenB, p1], h⟩))
      · rw [if_neg p1]
        by_cases p2 : d = 129
        · rw [if_pos p2]
          by_cases p3 : (t :: d :: r).length < 3
          · rw [if_pos p3]; exact .inr (.inl rfl)
          · rw [if_neg p3]
            match r, p3, low with
            | n :: r, _, low =>
              simp only [List.getD_cons_zero]
              by_cases p4 : n < 128
              · rw [if_pos p4]; exact .inr (.inr (.inl rfl))
              · rw [if_neg p4]
                have hn := low n (by simp)
                rcases finS_cases (t :: d :: n :: r) n 3 with h | h | ⟨h1, h2, h⟩
                · exact .inl h
                · exact .inr (.inl h)
                · exact .inr (.inr (.inr ⟨n, 3, by omega, h1, h2, by simp [lenB, p4, hn, p2], h⟩))
            | [], p3, _ => simp at p3
        · rw [if_neg p2]
          by_cases p5 : d = 130
          · rw [if_pos p5]
            by_cases p3 : (t :: d :: r).length < 4
            · rw [if_pos p3]; exact .inr (.inl rfl)
            · rw [if_neg p3]
              match r, p3, low with
              | n :: m :: r, _, low =>
                simp only [List.getD_cons_succ, List.getD_cons_zero]
                by_cases p4 : n * 256 + m < 256
                · rw [if_pos p4]; exact .inr (.inr (.inl rfl))
                · rw [if_neg p4]
                  have hn := low n (by simp)
                  have hm := low m (by simp)
                  rcases finS_cases (t :: d :: n :: m :: r) (n * 256 + m) 4 with h | h | ⟨h1, h2, h⟩
                  · exact .inl h
                  · exact .inr (.inl h)
                  · refine .inr (.inr (.inr ⟨n * 256 + m, 4, by omega, h1, h2, ?_, h⟩))
                    have e1 : (n * 256 + m) / 256 = n := by omega
                    have e2 : (n * 256 + m) % 256 = m := by omega
                    unfold lenB
                    rw [if_neg (by omega), if_neg p4, e1, e2, p5]
                    simp
              | [_], p3, _ => simp at p3
              | [], p3, _ => simp at p3
          · rw [if_neg p5]; exact .inr (.inr (.inl rfl))
    | [_], p, _ => simp at p
    | [], p, _ => simp at p
theorem firstS_inl {b : List Nat} (low : ∀ x ∈ b, x < 256) {n : Nat} (h : firstS b = .inl n) : n = 2 ∨ n = 3 ∨ n = 4 := by
  rcases firstS_cases b low with h1 | h1 | h1 | ⟨_, _, _, _, _, _, h1⟩
  all_goals rw [h] at h1
  · exact .inl (Sum.inl.inj h1)
  · exact .inr (.inl (Sum.inl.inj h1))
  · exact .inr (.inr (Sum.inl.inj h1))
  · cases h1
theorem firstS_inr {b : List Nat} (low : ∀ x ∈ b, x < 256) {x : It} {n : Nat} (h : firstS b = .inr (x, n)) : 2 ≤ n ∧ n ≤ b.length ∧ x.body.length ≤ 4096 ∧ x.text = b.take n ∧ x.tag < 256 ∧ ∀ y ∈ x.body, y < 256 := by
  rcases firstS_cases b low with h1 | h1 | h1 | ⟨m, s, h2, h3, h4, h5, h1⟩
  all_goals rw [h] at h1
  · cases h1
  · cases h1
  · cases h1
  · obtain ⟨rfl, rfl⟩ : x = ⟨b.getD 0 0, (b.drop s).take m⟩ ∧ n = s + m := by
      have := Sum.inr.inj h1
      simpa using this
    have e : ((b.drop s).take m).length = m := by simp; omega
    refine ⟨by omega, h4, by simp only [e]; exact h3, ?_, ?_, fun y hy => low y (List.mem_of_mem_drop (List.mem_of_mem_take hy))⟩
    · rw [It.text]
      simp only [e]
      rw [List.take_add, h5]
      rfl
    · match b, h4 with
      | t :: r, _ => exact low t (by simp)
      | [], h4 => simp at h4; omega
end Go.Proofs.Ytohliojdmmbcdaa

/- The contract of der.Read. -/
namespace Go.Proofs.Ytohliojdmmbcdaa
open Go.RowKit
set_option linter.unusedSimpArgs false
def lenVb : Value → Nat
  | .slice _ n _ => n
  | _ => 0
theorem By.drop {w : World} {bk o c s : Nat} {b : List Nat} (h : ∀ j, j < b.length → w.cell? ⟨bk, o + j, none⟩ = some (b8 (b.getD j 0))) (hl : s ≤ b.length) (hc : b.length ≤ c) (A : Option Addr) (hA : A = if c = s then some ⟨bk, o, none⟩ else some ⟨bk, o + s, none⟩) : By w (.slice A (b.length - s) (c - s)) (b.drop s) := by
  have := By.mid (n := b.length - s) h (by omega) hc A hA
  rwa [List.take_of_length_le (by simp)] at this
/-- What Read answers. -/
def ReadIs (b : List Nat) (B : Nat) (e : Ending) (w' : World) : Prop :=
  (∃ n, (n = 2 ∨ n = 3 ∨ n = 4) ∧ readS 200 b = .inl n ∧ e = .returned (.tuple #[.slice none 0 0, i64 n])) ∨
  (∃ l u, readS 200 b = .inr l ∧ e = .returned (.tuple #[u, i64 0]) ∧ Oi w' B u l)
set_option maxRecDepth 20000 in
set_option maxHeartbeats 4000000 in
theorem read_some (v : Value) (b0 : List Nat) (low : ∀ x ∈ b0, x < 256) (hm : b0.length ≤ 65536) (w : World) (h : By w v b0) :
    Calls Try.prog 35 #[v] w fun e w' => ReadIs b0 w.heap.size e w' ∧ Below w.heap.size w w' := by
  obtain ⟨a, c, rfl, _⟩ := id h
  have H : Hid (By w _ b0) := h
  have LO : Hid (∀ x ∈ b0, x < 256) := low
  have m1 : ¬ (b0.length : Int) > 65536 := by omega
  clear h low hm
  go_enter Try.func35, Try.ntmps35
  go_wp2_with fail
  go_loopw [0, 4] (fun bv lv wr => ∃ (b : List Nat) (l : List It), l.length ≤ 200 ∧ Hid (By w bv b) ∧ Hid (∀ x ∈ b, x < 256) ∧ Hid (readS 200 b0 = joinS l (readS (200 - l.length) b)) ∧ Hid (Oi wr w.heap.size lv l) ∧ Hid (Below w.heap.size w wr)) (fun bv _ _ => lenVb bv)
  case atStart =>
    refine ⟨b0, [], by simp, H, LO, ?_, Oi.nil _ _, Below.refl _ _⟩
    have : readS 200 b0 = joinS [] (readS (200 - 0) b0) := by
      cases readS 200 b0 <;> rfl
    exact this
  case round =>
    clear H LO
    obtain ⟨b, l, hl, hbv, low, hr, ho, hb⟩ := hrel
    obtain ⟨ab, cb, rfl, hcb, _, hcell⟩ := id hbv.out
    obtain ⟨al, nl, cl, rfl⟩ : ∃ a n c, u4 = .slice a n c := by
      obtain ⟨a, c, e, _⟩ := ho.out.its
      exact ⟨a, _, c, e⟩
    have hnl : nl = l.length := by
      obtain ⟨a, c, e, _⟩ := ho.out.its
      cases e
      rfl
    subst hnl
    by_cases h0 : b.length = 0
    · have e : b = [] := List.length_eq_zero_iff.1 h0
      subst e
      have E : Hid (readS 200 b0 = .inr l) := by
        have := hr.out
        rw [readS, joinS, List.append_nil] at this
        exact this
      clear hcell hbv
      go_wp2_with fail
      go_ret2
      exact ⟨.inr ⟨l, _, E.out, rfl, ho.out⟩, hb.out⟩
    · have i0 : (b.length : Int) > 0 := by omega
      have ne : b ≠ [] := fun e => h0 (by rw [e]; rfl)
      by_cases h200 : l.length = 200
      · have E : Hid (readS 200 b0 = .inl 2) := by
          have := hr.out
          rw [h200] at this
          match b, ne with
          | x :: b, _ =>
            rw [readS] at this
            exact this
        clear hcell hbv
        rw [h200]
        go_wp2_with fail
        go_ret2
        exact ⟨.inl ⟨2, .inl rfl, E.out, rfl⟩, hb.out⟩
      · have i1 : ¬ (l.length : Int) = 200 := by omega
        have i2 : ((l.length : Int) == 200) = false := by simp [i1]
        obtain ⟨bk, o, rfl, hc⟩ := hcell (by omega)
        have HC : Hid _ := hc
        have e1 : 200 - l.length = (200 - (l.length + 1)) + 1 := by omega
        have HR : Hid (readS 200 b0 = joinS l (readS ((200 - (l.length + 1)) + 1) b)) := by
          have := hr.out
          rw [e1] at this
          exact this
        clear hcell hc hr e1 i1
        go_wp2_with fail
        refine (first_fun _ b low.out _ (hbv.out.up hb.out (Nat.le_refl _))).mono ?_
        rintro e w1 ⟨hf, hb1⟩
        have B1 : Hid (Below w.heap.size w w1) := hb.out.trans (hb1.mono hb.out.size)
        have O1 : Hid (Oi w1 w.heap.size (.slice al l.length cl) l) := ho.out.up hb1
        clear ho
        rcases hf with ⟨n, hn, rfl⟩ | ⟨x, n, u, hn, rfl, hu⟩
        · have n3 := firstS_inl low.out hn
          have E : Hid (readS 200 b0 = .inl n) := HR.out.trans (readS_err ne hn l)
          have N3 : Hid _ := n3
          have nz : ¬ (n : Int) = 0 := by omega
          clear hb hb1 hbv hn n3
          go_wp2_with fail
          go_ret2
          exact ⟨.inl ⟨n, N3.out, E.out, rfl⟩, B1.out.alloc B1.out.size _⟩
        · obtain ⟨n2, nle, _, _, _, _⟩ := firstS_inr low.out hn
          have E : Hid (readS 200 b0 = joinS (l ++ [x]) (readS (200 - (l.length + 1)) (b.drop n))) := HR.out.trans (readS_step ne hn l)
          have U1 : Hid (Bk w1 u x.body) := hu
          obtain ⟨au, cu, rfl⟩ := hu.1.len
          obtain ⟨A, hA⟩ : ∃ A, A = if cb = n then some (⟨bk, o, none⟩ : Addr) else some ⟨bk, o + n, none⟩ := ⟨_, rfl⟩
          have T : Hid (By w (.slice A (b.length - n) (cb - n)) (b.drop n)) := By.drop HC.out nle hcb A hA
          have LD : Hid (∀ y ∈ b.drop n, y < 256) := (fun y hy => low.out y (List.mem_of_mem_drop hy) : ∀ y ∈ b.drop n, y < 256)
          have hA2 := hA.symm
          have n1 : n ≤ cb := by omega
          clear hb hb1 hbv hn hA low HC hu HR
          go_wp2_with (at_builtin; refine wp_appI rfl _ _ rfl w.heap.size _ l x (.slice au x.body.length cu) (w1.heap.size + 1) w1 rfl O1.out (((Below.refl _ _).alloc (Nat.le_refl _) _).alloc (by simp) _) rfl ((cell_top (by simp)).trans (by simp)) ((cell_top (by simp)).trans (by simp)) (U1.out.up (((Below.refl _ _).alloc (Nat.le_refl _) _).alloc (by simp) _)) rfl (by omega) B1.out.size ?_)
          intro v2 w2 o2 g2 b2
          have O2 : Hid (Oi w2 w.heap.size v2 (l ++ [x])) := o2
          have B2 : Hid (Below w.heap.size w w2) := B1.out.trans b2
          clear o2 g2 b2 O1 U1 B1
          go_wp2_with fail
          go_roundw
          case rel =>
            refine ⟨b.drop n, l ++ [x], by simp; omega, T, LD, ?_, O2, B2⟩
            have := E.out
            have e : (l ++ [x]).length = l.length + 1 := by simp
            rw [e]
            exact this
          case measure => simp [lenVb]; omega
set_option maxHeartbeats 1000000 in
theorem read_large (a : Option Addr) (n c : Nat) (h : 65536 < n) (w : World) :
    Calls Try.prog 35 #[.slice a n c] w fun e w' => e = .returned (.tuple #[.slice none 0 0, i64 2]) ∧ Below w.heap.size w w' := by
  have i2 : (n : Int) > 65536 := by omega
  go_enter Try.func35, Try.ntmps35
  go_wp2_with fail
  go_ret2
  exact ⟨rfl, Below.refl _ _⟩
/-- der.Read: the items; or what is wrong. -/
theorem read_fun (v : Value) (b : List Nat) (low : ∀ x ∈ b, x < 256) (w : World) (h : By w v b) :
    Calls Try.prog 35 #[v] w fun e w' => ((b.length ≤ 65536 ∧ ReadIs b w.heap.size e w') ∨ (65536 < b.length ∧ e = .returned (.tuple #[.slice none 0 0, i64 2]))) ∧ Below w.heap.size w w' := by
  by_cases hb : b.length ≤ 65536
  · refine (read_some v b low hb w h).mono ?_
    rintro e w' ⟨h1, h2⟩
    exact ⟨.inl ⟨hb, h1⟩, h2⟩
  · obtain ⟨a, c, rfl, _⟩ := h
    refine (read_large a b.length c (by omega) w).mono ?_
    rintro e w' ⟨h1, h2⟩
    exact ⟨.inr ⟨by omega, h1⟩, h2⟩
/-- What was written is read as it was. -/
theorem readS_back : ∀ (l : List It) (r : Nat), l.length ≤ r → (∀ x ∈ l, x.body.length ≤ 4096) → readS r (texts l) = .inr l
  | [], r, _, _ => by cases r <;> rfl
  | x :: l, r, hr, h => by
    obtain ⟨r, rfl⟩ : ∃ q, r = q + 1 := ⟨r - 1, by simp at hr; omega⟩
    have ih := readS_back l r (by simpa using hr) (fun y hy => h y (by simp [hy]))
    have e : texts (x :: l) = x.text ++ texts l := by simp [texts]
    have hf := first_text x (texts l) (h x (by simp))
    rw [e]
    have e2 : x.text ++ texts l = x.tag :: (lenB x.body.length ++ x.body ++ texts l) := by simp [It.text]
    rw [e2] at hf ⊢
    rw [readS, hf]
    simp only
    rw [← e2, List.drop_left, ih]
/-- What is read is written as just those bytes. -/
theorem readS_one : ∀ (r : Nat) (b : List Nat) (l : List It), (∀ x ∈ b, x < 256) → readS r b = .inr l → texts l = b ∧ l.length ≤ r ∧ ∀ x ∈ l, x.body.length ≤ 4096 ∧ x.tag < 256 ∧ ∀ y ∈ x.body, y < 256
  | r, [], l, _, h => by
    have : l = [] := by
      cases r <;> (rw [readS] at h; exact (Sum.inr.inj h).symm)
    subst this
    exact ⟨rfl, by simp, by simp⟩
  | 0, x :: b, l, _, h => by rw [readS] at h; cases h
  | r + 1, x :: b, l, low, h => by
    rw [readS] at h
    cases hf : firstS (x :: b) with
    | inl e => rw [hf] at h; cases h
    | inr p =>
      obtain ⟨y, n⟩ := p
      rw [hf] at h
      simp only at h
      cases hr : readS r ((x :: b).drop n) with
      | inl e => rw [hr] at h; cases h
      | inr m =>
        rw [hr] at h
        obtain rfl : y :: m = l := Sum.inr.inj h
        obtain ⟨_, _, h3, h4, h5, h6⟩ := firstS_inr low hf
        obtain ⟨t1, t2, t3⟩ := readS_one r _ m (fun z hz => low z (List.mem_of_mem_drop hz)) hr
        refine ⟨?_, by simp; omega, fun z hz => ?_⟩
        · have e : texts (y :: m) = y.text ++ texts m := by simp [texts]
          rw [e, h4, t1, List.take_append_drop]
        · rcases List.mem_cons.1 hz with rfl | hz
          · exact ⟨h3, h5, h6⟩
          · exact t3 z hz
end Go.Proofs.Ytohliojdmmbcdaa
