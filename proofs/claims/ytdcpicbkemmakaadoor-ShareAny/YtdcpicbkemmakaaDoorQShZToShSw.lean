/- Texts that were joined: ShZ, ShSp, ShSw. -/
import Derived.Test.YtdcpicbkemmakaaDoorQGArrToShD
import Derived.Test.YtdcpicbkemmakaaDoorQShLToShPs
import Derived.Test.YtdcpicbkemmakaaDoorQDMinusToDNumP
import Derived.Test.YtdcpicbkemmakaaDoorQHLaidToHRBlock
/- Own rows of slices of digits. -/
namespace Go.Proofs.YtdcpicbkemmakaaDoor
open Go.RowKit
set_option linter.unusedSimpArgs false
theorem iIntsl' : (Tryd.prog.info? 33).map (fun i => (i.zero, i.size, i.bytes)) = some (some (Value.slice none 0 0), 1, 24) := by kernel_rfl
theorem uSl2' : Tryd.prog.underlying 60 = some (.slice 33) := by kernel_rfl
theorem tag_ne : (33 : TypeId) ≠ 3 ∧ (38 : TypeId) ≠ 3 ∧ (38 : TypeId) ≠ 33 := by decide
/-- Digits stay where a block of another type is written. -/
theorem grown_sl {w w' : World} {row : Option Nat} {T : TypeId} (hT : T ≠ 3) (hg : w.grownBy w' row) (hr : ∀ g, row = some g → ∃ cur fz, w.heap[g]? = some (.cells cur T fz)) {x : Value} {xs : List Nat} (h : Sl w x xs) (t : Tg w x) : Sl w' x xs ∧ Tg w' x := by
  rcases h with ⟨rfl, rfl⟩ | ⟨b, o, c, rfl, hl, hc⟩
  · exact ⟨.inl ⟨rfl, rfl⟩, trivial⟩
  · obtain ⟨cur, fz, hb⟩ := id t
    have hb : w.heap[b]? = some (.cells cur 3 fz) := hb
    have hne : some b ≠ row := fun e => by
      obtain ⟨cur', fz', hg'⟩ := hr b e.symm
      rw [hb] at hg'
      cases hg'
      exact hT rfl
    have e := hg.block b (Array.getElem?_eq_some_iff.1 hb).1 hne
    refine ⟨.inr ⟨b, o, c, rfl, hl, fun j hj => ?_⟩, ⟨cur, fz, e.trans hb⟩⟩
    rw [← hc j hj]
    exact World.cell?_of_block e
/-- The slice v is an own row of slices, whose digits tell the numbers ns. -/
def Oz (w : World) (B : Nat) (v : Value) (ns : List Nat) : Prop := ∃ vs : List Value, w.ownsRow B 33 1 v ns.length vs ∧ ∀ i x, vs[i]? = some x → Sl w x (P.dg (ns.getD i 0)) ∧ Tg w x
theorem Oz.up {W w1 : World} {B : Nat} {v : Value} {ns : List Nat} (h : Oz W B v ns) (hb : Below W.heap.size W w1) : Oz w1 B v ns := by
  obtain ⟨vs, h1, h2⟩ := h
  refine ⟨vs, ⟨h1.1, ?_⟩, fun i x hx => ⟨Sl.up (h2 i x hx).1 hb, Tg.up (h2 i x hx).2 hb⟩⟩
  rcases h1.2 with h' | ⟨g, cap, cur, e, hB, hg, rest⟩
  · exact .inl h'
  · exact .inr ⟨g, cap, cur, e, hB, (hb.block g (Array.getElem?_eq_some_iff.1 hg).1).trans hg, rest⟩
theorem Oz.parts {w : World} {B : Nat} {v : Value} {ns : List Nat} (h : Oz w B v ns) (h0 : 0 < ns.length) : ∃ g cap, v = .slice (some ⟨g, 0, none⟩) ns.length cap ∧ ∀ i, i < ns.length → ∃ x, w.cell? ⟨g, i, none⟩ = some x ∧ Sl w x (P.dg (ns.getD i 0)) ∧ Tg w x := by
  obtain ⟨vs, h1, h2⟩ := h
  rcases id h1.2 with ⟨e, e2⟩ | ⟨g, cap, cur, e, hB, hg, hn, rest⟩
  · omega
  · refine ⟨g, cap, e, fun i hi => ?_⟩
    have hl : vs.length = ns.length * 1 := h1.1
    have hv : vs[i]? = some vs[i] := List.getElem?_eq_getElem (by omega)
    have h3 : w.ownsRow B 33 1 (.slice (some ⟨g, 0, none⟩) ns.length cap) ns.length vs := by rw [← e]; exact h1
    exact ⟨vs[i], by rw [h3.cellAt i (by omega)]; exact hv, h2 i _ hv⟩
theorem Oz.ge {w : World} {B : Nat} {v : Value} {ns : List Nat} (h : Oz w B v ns) : ∀ g, v.ownBlock = some g → B ≤ g := fun g hg => by
  obtain ⟨vs, h1, -⟩ := h
  rcases h1.2 with ⟨e, _⟩ | ⟨g', cap, cur, e, hB, _⟩
  · rw [e] at hg; cases hg
  · rw [e] at hg
    obtain rfl : g' = g := Option.some.inj hg
    exact hB
/-- It stays where a row of another type is appended to. -/
theorem Oz.grown {w w' : World} {B : Nat} {v : Value} {ns : List Nat} {row : Option Nat} (h : Oz w B v ns) (hg : w.grownBy w' row) (hr : ∀ g, row = some g → ∃ cur fz, w.heap[g]? = some (.cells cur 38 fz)) : Oz w' B v ns := by
  obtain ⟨vs, h1, h2⟩ := h
  refine ⟨vs, ⟨h1.1, ?_⟩, fun i x hx => grown_sl tag_ne.2.1 hg hr (h2 i x hx).1 (h2 i x hx).2⟩
  rcases h1.2 with h' | ⟨g, cap, cur, e, hB, hgg, rest⟩
  · exact .inl h'
  · refine .inr ⟨g, cap, cur, e, hB, (hg.block g (Array.getElem?_eq_some_iff.1 hgg).1 fun e2 => ?_).trans hgg, rest⟩
    obtain ⟨cur', fz', hg'⟩ := hr g e2.symm
    rw [hgg] at hg'
    cases hg'
theorem Oz.one (w : World) (B : Nat) (hB : B ≤ w.heap.size) (x : Value) (n : Nat) (h : Sl w x (P.dg n)) (t : Tg w x) : Oz (w.alloc (.cells #[x] 33)) B (.slice (some ⟨w.heap.size, 0, none⟩) 1 1) [n] := by
  have hb : Below w.heap.size w (w.alloc (.cells #[x] 33)) := (Below.refl _ _).alloc (Nat.le_refl _) _
  refine ⟨[x], ⟨rfl, .inr ⟨w.heap.size, 1, #[x], rfl, hB, heap_alloc_new w _, Nat.le_refl _, by unfold maxLen; omega, rfl, rfl⟩⟩, fun i y hy => ?_⟩
  match i, hy with
  | 0, hy =>
    obtain rfl := Option.some.inj hy
    exact ⟨Sl.up h hb, Tg.up t hb⟩
theorem wp_appZ1 {ops : Array Oper} {rest : List Oper} {o : Oper} {a : Act} {Q : Exit → Act → World → Prop} {w : World} (hgd : o.guard = none) (s x : Operand)
    (ho : o.op = .call { callee := .builtin .append, args := #[s, x], argTypes := #[60, 60] })
    (B : Nat) (v : Value) (ns : List Nat) (hs : a.eval s = v) (hown : Oz w B v ns) (k m : Nat) (ad : Option Addr) (q c : Nat) (hx : a.eval x = .slice (some ⟨k, 0, none⟩) 1 1) (hy : w.cell? ⟨k, 0, none⟩ = some (.slice ad q c)) (sy : Sl w (.slice ad q c) (P.dg m)) (ty : Tg w (.slice ad q c)) (hl : ns.length + 1 ≤ 100000) (hB : B ≤ w.heap.size)
    (h : ∀ v' w', Oz w' B v' (ns ++ [m]) → w.grownBy w' v.ownBlock → wpList Tryd.prog ops Q rest (a.put o.dst v') w') : wpList Tryd.prog ops Q (o :: rest) a w := by
  obtain ⟨i0, hi, hz0, hz1, hz2⟩ := info_parts iIntsl'
  obtain ⟨vs, h1, h2⟩ := hown
  refine wpList_append_own w hgd s x 60 ho B 33 i0 (Value.slice none 0 0) 1 24 uSl2' hi hz0 hz1 hz2 rfl (by decide) v ns.length vs hs h1 ⟨k, 0, none⟩ 1 1 [.slice ad q c] hx rfl ?_ ?_ (by unfold maxLen; omega) (by omega) hB fun v' w' a1 a2 _ => h v' w' ?_ a2
  · intro j u hj
    match j, hj with
    | 0, hj => simp at hj; subst hj; simpa [Addr.add] using hy
  · intro u hu
    simp at hu
    subst hu
    rfl
  · have hr : ∀ g, v.ownBlock = some g → ∃ cur fz, w.heap[g]? = some (.cells cur 33 fz) := fun g hg => by
      rcases h1.2 with ⟨e, _⟩ | ⟨g', cap, cur, e, _, hgg, _⟩
      · rw [e] at hg; cases hg
      · rw [e] at hg
        obtain rfl : g' = g := Option.some.inj hg
        exact ⟨cur, _, hgg⟩
    have hl1 : vs.length = ns.length := by rw [h1.1, Nat.mul_one]
    refine ⟨vs ++ [.slice ad q c], by rw [List.length_append]; exact a1, fun i y hy' => ?_⟩
    rcases Nat.lt_or_ge i vs.length with hlt | hge
    · rw [List.getElem?_append_left hlt] at hy'
      rw [List.getD_eq_getElem?_getD, List.getElem?_append_left (by omega), ← List.getD_eq_getElem?_getD]
      exact grown_sl tag_ne.1 a2 hr (h2 i y hy').1 (h2 i y hy').2
    · rw [List.getElem?_append_right hge] at hy'
      have hi0 : i - vs.length = 0 := by
        have := (List.getElem?_eq_some_iff.1 hy').1
        simp at this
        omega
      rw [hi0] at hy'
      obtain rfl := Option.some.inj hy'
      rw [List.getD_eq_getElem?_getD, List.getElem?_append_right (by omega), show i - ns.length = 0 by omega]
      exact grown_sl tag_ne.1 a2 hr sy ty
end Go.Proofs.YtdcpicbkemmakaaDoor

/- The document's shares of a secret. -/
namespace Go.Proofs.YtdcpicbkemmakaaDoor
open Go.RowKit
attribute [local go_sem] World.cell?_alloc_some cell_alloc2 cell_alloc3 cell_alloc4 frozen?_alloc_cells frozen_out
set_option linter.unusedSimpArgs false
end Go.Proofs.YtdcpicbkemmakaaDoor

/- The document's shares of a secret: the walk. -/
namespace Go.Proofs.YtdcpicbkemmakaaDoor
open Go.RowKit
attribute [local go_sem] World.cell?_alloc_some cell_alloc2 cell_alloc3 cell_alloc4 frozen?_alloc_cells frozen_out
set_option linter.unusedSimpArgs false
/-- What the call answers: all shares, or the error of the first drawing that has one. -/
def ResS (k n : Nat) (er : Nat → Nat) (yn : Nat → Nm) (L : List Shr) (r : Int) : Prop := ((∀ m, m + 1 < k → er m = 0) ∧ r = 0 ∧ L = (List.range n).map fun i => ⟨((i + 1 : Nat) : Int), yn (i + 1)⟩) ∨ ∃ m, m + 1 < k ∧ er m ≠ 0 ∧ (∀ i, i < m → er i = 0) ∧ r = (er m : Int) ∧ L = []
set_option maxRecDepth 20000 in
set_option maxHeartbeats 4000000 in
theorem shares_walk (k n O : Nat) (k1 : 1 ≤ k) (kn : k ≤ n) (n20 : n ≤ 20) (us : ByteArray) (s o : Nm) (q : Int) (q0 : q < 0) (cn yn : Nat → Nm) (st er pl ns Y : Nat → Nat) (A Pw M : Nat → Nat → Nat) (w : World)
    (P0 : Hid (pl 0 = 0)) (PS : Hid (∀ m, er m = 0 → (pl m + st m) % 18446744073709551616 = pl (m + 1))) (SL : Hid (∀ m, st m < 10000))
    (A0 : Hid (∀ x, A x 0 = 0)) (W0 : Hid (∀ x, Pw x 0 = 1))
    (DB : Hid (∀ m W, Below w.heap.size w W → Calls Tryd.prog 30 #[.string us, .int .u64 (pl m : Int), N o] W fun e w' => e = .returned (.tuple #[N (cn m), .int .i64 (st m : Int), .int .i64 (er m : Int)]) ∧ Below W.heap.size W w'))
    (ONs : Hid (∀ W, Calls Tryd.prog 28 #[N s] W fun e w' => (∃ v', e = .returned v' ∧ Sl w' v' (P.dg (ns 0)) ∧ Tg w' v') ∧ Below W.heap.size W w'))
    (ONc : Hid (∀ m W, Calls Tryd.prog 28 #[N (cn m)] W fun e w' => (∃ v', e = .returned v' ∧ Sl w' v' (P.dg (ns (m + 1))) ∧ Tg w' v') ∧ Below W.heap.size W w'))
    (PR : Hid (∀ W, Calls Tryd.prog 29 #[] W fun e w' => (∃ v', e = .returned v' ∧ Sl w' v' (P.dg O)) ∧ Below W.heap.size W w'))
    (OR : Hid (∀ u v W, Sl W u (P.dg (ns 0)) → Sl W v (P.dg O) → Calls Tryd.prog 27 #[u, v] W fun e w' => e = .returned (.int .i64 q) ∧ Below W.heap.size W w'))
    (TO : Hid (∀ u W, Sl W u (P.dg O) → Calls Tryd.prog 31 #[u] W fun e w' => e = .returned (N o) ∧ Below W.heap.size W w'))
    (TI : Hid (∀ x j, x ≤ n → j < k → ∀ u v W, Sl W u (P.dg (ns j)) → Sl W v (P.dg (Pw x j)) → Calls Tryd.prog 33 #[u, v] W fun e w' => (∃ v', e = .returned v' ∧ Sl w' v' (P.dg (M x j))) ∧ Below W.heap.size W w'))
    (PL : Hid (∀ x j, x ≤ n → j < k → ∀ u v W, Sl W u (P.dg (A x j)) → Sl W v (P.dg (M x j)) → Calls Tryd.prog 32 #[u, v] W fun e w' => (∃ v', e = .returned v' ∧ Sl w' v' (P.dg (A x (j + 1)))) ∧ Below W.heap.size W w'))
    (TP : Hid (∀ x j, x ≤ n → j < k → ∀ u v W, Sl W u (P.dg (Pw x j)) → Sl W v [x] → Calls Tryd.prog 33 #[u, v] W fun e w' => (∃ v', e = .returned v' ∧ Sl w' v' (P.dg (Pw x (j + 1)))) ∧ Below W.heap.size W w'))
    (RE : Hid (∀ x, x ≤ n → ∀ u v W, Sl W u (P.dg (A x k)) → Sl W v (P.dg O) → Calls Tryd.prog 34 #[u, v] W fun e w' => (∃ v', e = .returned v' ∧ Sl w' v' (P.dg (Y x))) ∧ Below W.heap.size W w'))
    (TY : Hid (∀ x u W, Sl W u (P.dg (Y x)) → Calls Tryd.prog 31 #[u] W fun e w' => e = .returned (N (yn x)) ∧ Below W.heap.size W w')) :
    Calls Tryd.prog 8 #[N s, .int .i64 (k : Int), .int .i64 (n : Int), .string us] w fun e w' => (∃ v' L r, e = .returned (.tuple #[v', .int .i64 r]) ∧ Oh w' w.heap.size v' L ∧ ResS k n er yn L r) ∧ Below w.heap.size w w' := by
  have hk1 : ¬ (k : Int) < 1 := by omega
  have hnk : ¬ (n : Int) < (k : Int) := by omega
  have hn20 : ¬ (n : Int) > 20 := by omega
  have hq : ¬ q ≥ 0 := by omega
  have HB : Hid (1 ≤ k ∧ k ≤ n ∧ n ≤ 20) := ⟨k1, kn, n20⟩
  clear k1 kn n20 q0
  go_enter Tryd.func8, Tryd.ntmps8
  have s0 : Hid (Kn (kal4 w (s)) [(w.heap.size, (c4 (s)))]) := ((Kn.nil w).al (c4 (s)) 24 rfl)
  have b0 : Hid (Below w.heap.size w (kal4 w (s))) := ((Below.refl _ _).alloc (Nat.le_refl _) _)
  have usecret_0 : (kal4 w (s)).cell? ⟨w.heap.size, 0, none⟩ = some (.int .u64 (s).a) := Kn.get s0.out 0 0 rfl rfl
  have usecret_1 : (kal4 w (s)).cell? ⟨w.heap.size, 1, none⟩ = some (.int .u64 (s).b) := Kn.get s0.out 0 1 rfl rfl
  have usecret_2 : (kal4 w (s)).cell? ⟨w.heap.size, 2, none⟩ = some (.int .u64 (s).c) := Kn.get s0.out 0 2 rfl rfl
  have usecret_3 : (kal4 w (s)).cell? ⟨w.heap.size, 3, none⟩ = some (.int .u64 (s).d) := Kn.get s0.out 0 3 rfl rfl
  go_wp2_with fail
  clear usecret_0 usecret_1 usecret_2 usecret_3
  refine (ONs.out _).mono ?_
  rintro e w1 ⟨⟨v1, rfl, h1, -⟩, hb1⟩
  have s1 : Hid (Kn w1 [(w.heap.size, c4 s)]) := s0.out.up hb1
  have b1 : Hid (Below w.heap.size w w1) := b0.out.trans (hb1.mono b0.out.size)
  have H1 : Hid (Sl w1 v1 (P.dg (ns 0))) := h1
  clear h1 hb1 s0 b0
  go_wp2_with fail
  refine (PR.out _).mono ?_
  rintro e w2 ⟨⟨v2, rfl, h2⟩, hb2⟩
  have s2 : Hid (Kn w2 [(w.heap.size, c4 s)]) := s1.out.up hb2
  have b2 : Hid (Below w.heap.size w w2) := b1.out.trans (hb2.mono b1.out.size)
  have H2 : Hid (Sl w2 v1 (P.dg (ns 0))) := Sl.up (xs := P.dg (ns 0)) H1.out hb2
  have G2 : Hid (Sl w2 v2 (P.dg O)) := h2
  clear h2 hb2 s1 b1 H1
  go_wp2_with fail
  refine (OR.out _ _ _ H2.out G2.out).mono ?_
  rintro e w3 ⟨rfl, hb3⟩
  have s3 : Hid (Kn w3 [(w.heap.size, c4 s)]) := s2.out.up hb3
  have b3 : Hid (Below w.heap.size w w3) := b2.out.trans (hb3.mono b2.out.size)
  clear hb3 s2 b2 H2 G2
  have usecret_0 : w3.cell? ⟨w.heap.size, 0, none⟩ = some (.int .u64 (s).a) := Kn.get s3.out 0 0 rfl rfl
  have usecret_1 : w3.cell? ⟨w.heap.size, 1, none⟩ = some (.int .u64 (s).b) := Kn.get s3.out 0 1 rfl rfl
  have usecret_2 : w3.cell? ⟨w.heap.size, 2, none⟩ = some (.int .u64 (s).c) := Kn.get s3.out 0 2 rfl rfl
  have usecret_3 : w3.cell? ⟨w.heap.size, 3, none⟩ = some (.int .u64 (s).d) := Kn.get s3.out 0 3 rfl rfl
  go_wp2_with fail
  clear usecret_0 usecret_1 usecret_2 usecret_3
  refine (ONs.out _).mono ?_
  rintro e w4 ⟨⟨v4, rfl, h4, t4⟩, hb4⟩
  have b4 : Hid (Below w.heap.size w w4) := b3.out.trans (hb4.mono b3.out.size)
  obtain ⟨a4, c4', e4⟩ := h4.parts
  have z5 : Hid (Oz (w4.alloc (.cells #[v4] 33)) w.heap.size (.slice (some ⟨w4.heap.size, 0, none⟩) 1 1) ((List.range (0 + 1)).map ns)) := Oz.one w4 w.heap.size b4.out.size v4 (ns 0) h4 t4
  have b5 : Hid (Below w.heap.size w (w4.alloc (.cells #[v4] 33))) := b4.out.alloc b4.out.size _
  generalize (P.dg (ns 0)).length = l4 at e4
  clear h4 t4 hb4 s3 b3 b4
  subst e4
  have pz : Hid (Value.int .u64 0 = .int .u64 ((pl 0 : Nat) : Int)) := by rw [P0.out]; rfl
  go_wp2_with fail
  go_loopw [10, 11] (fun c a wr => ∃ m : Nat, m + 1 ≤ k ∧ Hid (Oz wr w.heap.size c ((List.range (m + 1)).map ns)) ∧ a = .int .u64 (pl m : Int) ∧ Hid (∀ i, i < m → er i = 0) ∧ Hid (Below w.heap.size w wr)) (fun c _ _ => k - lenW c)
  case atStart => exact ⟨0, HB.out.1, z5, pz.out, fun i hi => absurd hi (Nat.not_lt_zero _), b5⟩
  case round =>
    clear z5 b5 pz
    obtain ⟨m, hm, zk, rfl, gk, bk⟩ := hrel
    obtain ⟨g, cap, ec, -⟩ := zk.out.parts (by simp)
    rw [List.length_map, List.length_range] at ec
    obtain ⟨L1, hL⟩ : ∃ L1, Hid (m + 1 = L1) := ⟨_, rfl⟩
    rw [hL.out] at ec
    subst ec
    have k20 : (k : Int) < 21 := by have := HB.out; omega
    by_cases hlt : m + 1 < k
    · have i1 : (L1 : Int) < (k : Int) := by have := hL.out; omega
      have HM : Hid (m + 1 < k) := hlt
      obtain ⟨CL, hCL⟩ : ∃ CL, Hid (CL = (List.range (m + 1)).map ns) := ⟨_, rfl⟩
      rw [← hCL.out] at zk
      have hcl : Hid (CL.length = m + 1) := by show _ = _; rw [hCL.out, List.length_map, List.length_range]
      clear hlt hm
      go_wp2_with fail
      refine (PR.out _).mono ?_
      rintro e w5 ⟨⟨v5, rfl, h5⟩, hb5⟩
      have z5 : Hid (Oz w5 w.heap.size (.slice (some ⟨g, 0, none⟩) L1 cap) CL) := zk.out.up hb5
      have b5 : Hid (Below w.heap.size w w5) := bk.out.trans (hb5.mono bk.out.size)
      have H5 : Hid (Sl w5 v5 (P.dg O)) := h5
      clear h5 hb5 zk bk
      go_wp2_with fail
      refine (TO.out _ _ H5.out).mono ?_
      rintro e w6 ⟨rfl, hb6⟩
      have z6 : Hid (Oz w6 w.heap.size (.slice (some ⟨g, 0, none⟩) L1 cap) CL) := z5.out.up hb6
      have b6 : Hid (Below w.heap.size w w6) := b5.out.trans (hb6.mono b5.out.size)
      clear hb6 z5 b5 H5
      have D := DB.out m w6 b6.out
      go_wp2_with fail
      by_cases he : er m = 0
      · rw [he] at D
        have D : Calls Tryd.prog 30 #[.string us, .int .u64 (pl m : Int), N o] w6 fun e w' => e = .returned (.tuple #[N (cn m), .int .i64 (st m : Int), .int .i64 0]) ∧ Below w6.heap.size w6 w' := D
        refine D.mono ?_
        clear D
        rintro e w7 ⟨rfl, hb7⟩
        have z7 : Hid (Oz (kal4 w7 (cn m)) w.heap.size (.slice (some ⟨g, 0, none⟩) L1 cap) CL) := (z6.out.up hb7).up ((Below.refl _ _).alloc (Nat.le_refl _) _)
        have b7 : Hid (Below w.heap.size w (kal4 w7 (cn m))) := (b6.out.trans (hb7.mono b6.out.size)).alloc (Nat.le_trans b6.out.size hb7.size) _
        have gk' : Hid (∀ i, i < m + 1 → er i = 0) := fun i hi => by
          by_cases e : i = m
          · rw [e]; exact he
          · exact gk.out i (by omega)
        have pp : Hid ((pl m + st m) % 18446744073709551616 = pl (m + 1)) := PS.out m he
        have s0' : (st m : Int) < 10000 := by have := SL.out m; omega
        have s0 : (0 : Int) ≤ (st m : Int) := by omega
        have p0 : (0 : Int) ≤ (pl m : Int) := by omega
        have ws : IntKind.u64.wrap (st m : Int) = (st m : Int) := by rw [IntKind.wrap_u64]; omega
        have wa : IntKind.u64.wrap ((pl m : Int) + (st m : Int)) = (pl (m + 1) : Int) := by rw [IntKind.wrap_u64]; have := pp.out; omega
        have wa' : ((pl m : Int) + (st m : Int)) % 18446744073709551616 = (pl (m + 1) : Int) := by have := pp.out; omega
        clear hb7 z6 b6 gk he pp
        go_wp2_with fail
        refine (ONc.out m _).mono ?_
        rintro e w8 ⟨⟨v8, rfl, h8, t8⟩, hb8⟩
        obtain ⟨a8, c8', e8⟩ := h8.parts
        have ub : Below w8.heap.size w8 (w8.alloc (.cells #[v8] 33)) := (Below.refl _ _).alloc (Nat.le_refl _) _
        have z8 : Hid (Oz (w8.alloc (.cells #[v8] 33)) w.heap.size (.slice (some ⟨g, 0, none⟩) L1 cap) CL) := (z7.out.up hb8).up ub
        have b8 : Hid (Below w.heap.size w (w8.alloc (.cells #[v8] 33))) := (b7.out.trans (hb8.mono b7.out.size)).alloc (Nat.le_trans b7.out.size hb8.size) _
        have h9 : Hid (Sl (w8.alloc (.cells #[v8] 33)) v8 (P.dg (ns (m + 1)))) := Sl.up (xs := P.dg (ns (m + 1))) h8 ub
        have t9 : Hid (Tg (w8.alloc (.cells #[v8] 33)) v8) := t8.up ub
        generalize (P.dg (ns (m + 1))).length = l8 at e8
        clear h8 t8 hb8 z7 b7 ub s0 s0' p0 ws wa wa'
        subst e8
        go_wp2_with (refine wp_appZ1 rfl _ _ rfl w.heap.size _ CL rfl z8.out w8.heap.size (ns (m + 1)) a8 l8 c8' rfl (by simp) h9.out t9.out (by have := hcl.out; have := HM.out; have := HB.out; omega) b8.out.size ?_)
        intro v9 w9 o9 hb9
        have z9 : Hid (Oz w9 w.heap.size v9 ((List.range (m + 1 + 1)).map ns)) := by rw [List.range_succ (n := m + 1), List.map_append, ← hCL.out]; exact o9
        have b9 : Hid (Below w.heap.size w w9) := Below.grown b8.out hb9 b8.out.size z8.out.ge
        obtain ⟨g9, cap9, e9, -⟩ := z9.out.parts (by simp)
        rw [List.length_map, List.length_range] at e9
        clear o9 hb9 z8 b8 h9 t9
        subst e9
        go_wp2_with fail
        go_roundw
        case rel => exact ⟨m + 1, HM.out, z9, rfl, gk', b9⟩
        case measure => simp [lenW]; have := hL.out; have := HM.out; omega
      · have he' : (er m : Int) ≠ 0 := by omega
        have hb' : ((er m : Int) != 0) = true := bne_iff_ne.2 he'
        have HE : Hid (er m ≠ 0) := he
        refine D.mono ?_
        clear D he he'
        rintro e w7 ⟨rfl, hb7⟩
        have b7 : Hid (Below w.heap.size w (kal4 w7 (cn m))) := (b6.out.trans (hb7.mono b6.out.size)).alloc (Nat.le_trans b6.out.size hb7.size) _
        clear hb7 z6 b6
        go_wp2_with fail
        refine bodyPost_ret (v := .tuple #[.slice none 0 0, .int .i64 (er m : Int)]) (by simp [results, Tryd.results8, go_sem]) rfl ⟨⟨_, [], (er m : Int), rfl, Oh.nil _ _, .inr ⟨m, HM.out, HE.out, gk.out, rfl, rfl⟩⟩, b7.out⟩
    · have hk : L1 = k := by have := hL.out; omega
      have GK : Hid (∀ i, i + 1 < k → er i = 0) := fun i hi => gk.out i (by have := hL.out; omega)
      rw [hL.out, hk] at zk
      have zz : Hid (Oz wr w.heap.size (.slice (some ⟨g, 0, none⟩) k cap) ((List.range k).map ns)) := zk
      clear zk gk hlt hm hL
      subst hk
      have i1 : ¬ (L1 : Int) < (L1 : Int) := Int.lt_irrefl _
      have oo : Hid (Oh wr w.heap.size (.slice none 0 0) ((List.range (1 - 1)).map fun i => (⟨((i + 1 : Nat) : Int), yn (i + 1)⟩ : Shr))) := Oh.nil _ _
      go_wp2_with fail
      clear i1
      go_loopw [15, 16] (fun t x wr => ∃ X : Nat, 1 ≤ X ∧ X ≤ n + 1 ∧ x = .int .i64 (X : Int) ∧ Hid (Oh wr w.heap.size t ((List.range (X - 1)).map fun i => (⟨((i + 1 : Nat) : Int), yn (i + 1)⟩ : Shr))) ∧ Hid (Oz wr w.heap.size (.slice (some ⟨g, 0, none⟩) L1 cap) ((List.range L1).map ns)) ∧ Hid (Below w.heap.size w wr)) (fun _ x _ => n + 1 - (intOf x).toNat)
      case atStart => exact ⟨1, Nat.le_refl _, Nat.le_add_left _ _, rfl, oo, zz, bk⟩
      case round =>
        clear oo zz bk
        obtain ⟨X, hX1, hX, rfl, ok, zk, bk⟩ := hrel
        by_cases hlt : X ≤ n
        · have i1 : (X : Int) ≤ (n : Int) := by omega
          have x20 : (X : Int) < 21 := by have := HB.out; omega
          have HX : Hid (1 ≤ X ∧ X ≤ n) := ⟨hX1, hlt⟩
          obtain ⟨SL', hSL⟩ : ∃ SL', Hid (SL' = (List.range (X - 1)).map fun i => (⟨((i + 1 : Nat) : Int), yn (i + 1)⟩ : Shr)) := ⟨_, rfl⟩
          rw [← hSL.out] at ok
          obtain ⟨CL, hCL⟩ : ∃ CL, Hid (CL = (List.range L1).map ns) := ⟨_, rfl⟩
          rw [← hCL.out] at zk
          have hcl : Hid (CL.length = L1) := by show _ = _; rw [hCL.out, List.length_map, List.length_range]
          have hns : Hid (∀ j, j < L1 → CL.getD j 0 = ns j) := fun j hj => by rw [hCL.out]; simp [hj]
          have hsl : Hid (SL'.length = X - 1) := by show _ = _; rw [hSL.out, List.length_map, List.length_range]
          have l20 : (L1 : Int) < 21 := by have := HB.out; omega
          have ua : Below wr.heap.size wr (wr.alloc (.cells #[.int .i64 1] 3)) := (Below.refl _ _).alloc (Nat.le_refl _) _
          have ok2 : Hid (Oh (wr.alloc (.cells #[.int .i64 1] 3)) w.heap.size u15 SL') := ok.out.up ua
          have zk2 : Hid (Oz (wr.alloc (.cells #[.int .i64 1] 3)) w.heap.size (.slice (some ⟨g, 0, none⟩) L1 cap) CL) := zk.out.up ua
          have bk2 : Hid (Below w.heap.size w (wr.alloc (.cells #[.int .i64 1] 3))) := bk.out.alloc bk.out.size _
          have Y0 : Hid (Sl (wr.alloc (.cells #[.int .i64 1] 3)) (.slice none 0 0) (P.dg (A X 0))) := by rw [A0.out, P.dg_zero]; exact .inl ⟨rfl, rfl⟩
          have Q0 : Hid (Sl (wr.alloc (.cells #[.int .i64 1] 3)) (.slice (some ⟨wr.heap.size, 0, none⟩) 1 1) (P.dg (Pw X 0))) := by rw [W0.out, show P.dg 1 = [1] by rw [P.dg_pos (by decide), show 1 / 65536 = 0 from rfl, P.dg_zero]]; exact Sl.one wr 1 1 rfl
          clear hlt hX hX1 ua ok zk bk
          go_wp2_with fail
          go_loopw [17, 18, 75] (fun y p j wr => ∃ J : Nat, J ≤ L1 ∧ j = .int .i64 (J : Int) ∧ Hid (Sl wr y (P.dg (A X J))) ∧ Hid (Sl wr p (P.dg (Pw X J))) ∧ Hid (Oh wr w.heap.size u15 SL') ∧ Hid (Oz wr w.heap.size (.slice (some ⟨g, 0, none⟩) L1 cap) CL) ∧ Hid (Below w.heap.size w wr)) (fun _ _ j _ => L1 - (intOf j).toNat)
          case atStart => exact ⟨0, Nat.zero_le _, rfl, Y0, Q0, ok2, zk2, bk2⟩
          case round =>
            clear Y0 Q0 ok2 zk2 bk2
            obtain ⟨J, hJ, rfl, sy, sp, ok, zk, bk⟩ := hrel
            by_cases hlt : J < L1
            · have j1 : (J : Int) < (L1 : Int) := by omega
              have j0 : (0 : Int) ≤ (J : Int) := by omega
              have HJ : Hid (J < L1) := hlt
              obtain ⟨g', cap', eg, hcell⟩ := zk.out.parts (by have := hcl.out; omega)
              cases eg
              obtain ⟨xj, cj, sj, -⟩ := hcell J (by have := hcl.out; omega)
              rw [hns.out J hlt] at sj
              have SJ : Hid (Sl wr xj (P.dg (ns J))) := sj
              have T1 : Hid _ := TI.out X J HX.out.2 hlt
              have P1 : Hid _ := PL.out X J HX.out.2 hlt
              have T2 : Hid _ := TP.out X J HX.out.2 hlt
              clear hlt hJ hcell sj
              go_wp2_with fail
              refine (T1.out _ _ _ SJ.out sp.out).mono ?_
              rintro e w5 ⟨⟨v5, rfl, h5⟩, hb5⟩
              have sy5 : Hid (Sl w5 u17 (P.dg (A X J))) := Sl.up (xs := P.dg (A X J)) sy.out hb5
              have sp5 : Hid (Sl w5 u18 (P.dg (Pw X J))) := Sl.up (xs := P.dg (Pw X J)) sp.out hb5
              have sm5 : Hid (Sl w5 v5 (P.dg (M X J))) := h5
              have ok5 : Hid (Oh w5 w.heap.size u15 SL') := ok.out.up hb5
              have zk5 : Hid (Oz w5 w.heap.size (.slice (some ⟨g, 0, none⟩) CL.length cap) CL) := zk.out.up hb5
              have b5 : Hid (Below w.heap.size w w5) := bk.out.trans (hb5.mono bk.out.size)
              clear h5 hb5 sy sp ok zk bk SJ T1 cj
              go_wp2_with fail
              refine (P1.out _ _ _ sy5.out sm5.out).mono ?_
              rintro e w6 ⟨⟨v6, rfl, h6⟩, hb6⟩
              have ua : Below w6.heap.size w6 (w6.alloc (.cells #[.int .i64 (X : Int)] 3)) := (Below.refl _ _).alloc (Nat.le_refl _) _
              have sp6 : Hid (Sl (w6.alloc (.cells #[.int .i64 (X : Int)] 3)) u18 (P.dg (Pw X J))) := Sl.up (xs := P.dg (Pw X J)) (Sl.up (xs := P.dg (Pw X J)) sp5.out hb6) ua
              have sy6 : Hid (Sl (w6.alloc (.cells #[.int .i64 (X : Int)] 3)) v6 (P.dg (A X (J + 1)))) := Sl.up (xs := P.dg (A X (J + 1))) h6 ua
              have ok6 : Hid (Oh (w6.alloc (.cells #[.int .i64 (X : Int)] 3)) w.heap.size u15 SL') := (ok5.out.up hb6).up ua
              have zk6 : Hid (Oz (w6.alloc (.cells #[.int .i64 (X : Int)] 3)) w.heap.size (.slice (some ⟨g, 0, none⟩) CL.length cap) CL) := (zk5.out.up hb6).up ua
              have b6 : Hid (Below w.heap.size w (w6.alloc (.cells #[.int .i64 (X : Int)] 3))) := (b5.out.trans (hb6.mono b5.out.size)).alloc (Nat.le_trans b5.out.size hb6.size) _
              clear h6 hb6 sy5 sp5 sm5 ok5 zk5 b5 P1 ua
              go_wp2_with fail
              refine (T2.out _ _ _ sp6.out (Sl.one w6 X (X : Int) rfl)).mono ?_
              rintro e w7 ⟨⟨v7, rfl, h7⟩, hb7⟩
              have sy7 : Hid (Sl w7 v6 (P.dg (A X (J + 1)))) := Sl.up (xs := P.dg (A X (J + 1))) sy6.out hb7
              have sp7 : Hid (Sl w7 v7 (P.dg (Pw X (J + 1)))) := h7
              have ok7 : Hid (Oh w7 w.heap.size u15 SL') := ok6.out.up hb7
              have zk7 : Hid (Oz w7 w.heap.size (.slice (some ⟨g, 0, none⟩) CL.length cap) CL) := zk6.out.up hb7
              have b7 : Hid (Below w.heap.size w w7) := b6.out.trans (hb7.mono b6.out.size)
              clear h7 hb7 sy6 sp6 ok6 zk6 b6 T2
              go_wp2_with fail
              go_roundw
              case rel => exact ⟨J + 1, HJ.out, by go_num, sy7, sp7, ok7, zk7, b7⟩
              case measure => simp [intOf]; have := HJ.out; omega
            · have j1 : ¬ (J : Int) < (L1 : Int) := by omega
              have hj : J = L1 := by omega
              rw [hj] at sy
              have R1 : Hid _ := RE.out X HX.out.2
              clear hlt hJ hj sp
              go_wp2_with fail
              refine (PR.out _).mono ?_
              rintro e w5 ⟨⟨v5, rfl, h5⟩, hb5⟩
              have sy5 : Hid (Sl w5 u17 (P.dg (A X L1))) := Sl.up (xs := P.dg (A X L1)) sy.out hb5
              have so5 : Hid (Sl w5 v5 (P.dg O)) := h5
              have ok5 : Hid (Oh w5 w.heap.size u15 SL') := ok.out.up hb5
              have zk5 : Hid (Oz w5 w.heap.size (.slice (some ⟨g, 0, none⟩) L1 cap) CL) := zk.out.up hb5
              have b5 : Hid (Below w.heap.size w w5) := bk.out.trans (hb5.mono bk.out.size)
              clear h5 hb5 sy ok zk bk
              go_wp2_with fail
              refine (R1.out _ _ _ sy5.out so5.out).mono ?_
              rintro e w6 ⟨⟨v6, rfl, h6⟩, hb6⟩
              have sy6 : Hid (Sl w6 v6 (P.dg (Y X))) := h6
              have ok6 : Hid (Oh w6 w.heap.size u15 SL') := ok5.out.up hb6
              have zk6 : Hid (Oz w6 w.heap.size (.slice (some ⟨g, 0, none⟩) L1 cap) CL) := zk5.out.up hb6
              have b6 : Hid (Below w.heap.size w w6) := b5.out.trans (hb6.mono b5.out.size)
              clear h6 hb6 sy5 so5 ok5 zk5 b5 R1
              go_wp2_with fail
              refine (TY.out X _ _ sy6.out).mono ?_
              rintro e w7 ⟨rfl, hb7⟩
              have ua : Below w7.heap.size w7 (w7.alloc (.cells (shC ⟨(X : Int), yn X⟩).toArray 38)) := (Below.refl _ _).alloc (Nat.le_refl _) _
              have ok7 : Hid (Oh (w7.alloc (.cells (shC ⟨(X : Int), yn X⟩).toArray 38)) w.heap.size u15 SL') := (ok6.out.up hb7).up ua
              have zk7 : Hid (Oz (w7.alloc (.cells (shC ⟨(X : Int), yn X⟩).toArray 38)) w.heap.size (.slice (some ⟨g, 0, none⟩) L1 cap) CL) := (zk6.out.up hb7).up ua
              have b7 : Hid (Below w.heap.size w (w7.alloc (.cells (shC ⟨(X : Int), yn X⟩).toArray 38))) := (b6.out.trans (hb7.mono b6.out.size)).alloc (Nat.le_trans b6.out.size hb7.size) _
              have one : Hid (Shs (w7.alloc (.cells (shC ⟨(X : Int), yn X⟩).toArray 38)) (.slice (some ⟨w7.heap.size, 0, none⟩) 1 1) [⟨(X : Int), yn X⟩]) := shs_one w7 _
              clear hb7 sy6 ok6 zk6 b6 ua
              go_wp2_with (first | refine wp_buildS rfl _ _ rfl (X : Int) (yn X) rfl rfl ?_ | refine wp_bsH rfl _ rfl ⟨(X : Int), yn X⟩ rfl ?_ | refine wp_appH rfl _ _ rfl w.heap.size _ _ SL' [⟨(X : Int), yn X⟩] rfl ok7.out rfl one.out (by have := hsl.out; have := HB.out; have := HX.out; simp only [List.length_cons, List.length_nil]; omega) b7.out.size ?_)
              intro v9 w9 o9 hb9
              have ok9 : Hid (Oh w9 w.heap.size v9 ((List.range (X + 1 - 1)).map fun i => (⟨((i + 1 : Nat) : Int), yn (i + 1)⟩ : Shr))) := by
                have e : X + 1 - 1 = X - 1 + 1 := by have := HX.out; omega
                have e2 : X - 1 + 1 = X := by have := HX.out; omega
                rw [e, List.range_succ, List.map_append, ← hSL.out, List.map_cons, List.map_nil, e2]
                exact o9
              have zk9 : Hid (Oz w9 w.heap.size (.slice (some ⟨g, 0, none⟩) L1 cap) ((List.range L1).map ns)) := by rw [← hCL.out]; exact zk7.out.grown hb9 ok7.out.tag
              have b9 : Hid (Below w.heap.size w w9) := Below.grown b7.out hb9 b7.out.size ok7.out.ge
              clear o9 hb9 ok7 zk7 b7 one
              go_wp2_with fail
              go_roundw
              case rel => exact ⟨X + 1, by omega, by have := HX.out; omega, by go_num, ok9, zk9, b9⟩
              case measure => simp [intOf]; have := HX.out; omega
        · have i1 : ¬ (X : Int) ≤ (n : Int) := by omega
          have e1 : X - 1 = n := by omega
          rw [e1] at ok
          have OK : Hid (Oh wr w.heap.size u15 ((List.range n).map fun i => (⟨((i + 1 : Nat) : Int), yn (i + 1)⟩ : Shr))) := ok
          clear ok zk e1 hlt hX hX1
          go_wp2_with fail
          refine bodyPost_ret (v := .tuple #[u15, .int .i64 0]) (by simp [results, Tryd.results8, go_sem]) rfl ⟨⟨_, _, 0, rfl, OK.out, .inl ⟨GK.out, rfl, rfl⟩⟩, bk.out⟩
end Go.Proofs.YtdcpicbkemmakaaDoor
