/- The contract of aes.changed: what the word ahead becomes. -/
import Derived.Test.YtejabkmhpiabnaaAeW
namespace Go.Proofs.Ytejabkmhpiabnaa
open Go.RowKit
set_option linter.unusedSimpArgs false
attribute [local go_sem] YieldsP execOp
attribute [local simp] MP.eq_p
/-- A row of four made of bytes, in a walk. -/
theorem wp_build4t {ops : Array Oper} {rest : List Oper} {o : Oper} {a : Act} {Q : Exit → Act → World → Prop} {w : World} (hgd : o.guard = none) (x y z u : Operand) (ho : o.op = .build 23 #[(0, x), (1, y), (2, z), (3, u)]) (p q r s : Nat) (hx : a.eval x = b8 p) (hy : a.eval y = b8 q) (hz : a.eval z = b8 r) (hu : a.eval u = b8 s)
    (h : wpList Try.prog ops Q rest (a.put o.dst (aB [p, q, r, s])) w) : wpList Try.prog ops Q (o :: rest) a w := by
  refine wpList_plain hgd fun K hK => ?_
  have e1 : (Instr.build 23 ((#[(0, x), (1, y), (2, z), (3, u)] : Array (Nat × Operand)).map fun x => (x.fst, a.eval x.snd))).run Try.prog w = .ok (.agg #[b8 p, b8 q, b8 r, b8 s]) w := run_build w 23 _ _ (by simpa [hx, hy, hz, hu] using built4 p q r s)
  unfold Oper.wp
  simp only [execOp, ho, Sem.run_bind, e1, Result.andThen_ok, Sem.run_pure]
  exact hK _ _ h
theorem xset {a b c d m : Nat} : [a, b, c, d].set 0 (a ^^^ m) = [a ^^^ m, b, c, d] := rfl
set_option maxRecDepth 20000 in
set_option maxHeartbeats 1000000 in
theorem achg_fun (t : List Nat) (ht : A.ok 4 t) (n i : Nat) (hn : n = 4 ∨ n = 6 ∨ n = 8) (hi : n ≤ i) (h60 : i < 60) (w : World) : Calls Try.prog 16 #[aB t, .int .i64 (i : Int), .int .i64 (n : Int)] w fun e w' => e = .returned (aB (A.preW n i t)) ∧ Below w.heap.size w w' := by
  obtain ⟨a, b, c, d, rfl, ha, hb, hc, hd⟩ := G.four.ex ht
  obtain ⟨x0, x1, x2⟩ := al2 w ([a, b, c, d].map b8).toArray #[Value.int IntKind.u8 0, Value.int IntKind.u8 0, Value.int IntKind.u8 0, Value.int IntKind.u8 0] 23 23
  have X0 : Hid (Blk _ w.heap.size ([a, b, c, d].map b8)) := x0
  have X1 : Hid (Blk _ (w.heap.size + 1) (zB 4)) := x1
  have X2 : Hid (Below w.heap.size w _) := x2
  obtain ⟨q, hq⟩ : ∃ q, q = i / n := ⟨_, rfl⟩
  obtain ⟨r, hr⟩ : ∃ r, r = i % n := ⟨_, rfl⟩
  have n0 : 0 < n := by omega
  have m1 : (i : Int).tmod (n : Int) = (r : Int) := by rw [Int.tmod_eq_emod_of_nonneg (by omega), hr]; rfl
  have m2 : (i : Int) % (n : Int) = (r : Int) := by rw [hr]; rfl
  have nz : ¬ (n : Int) = 0 := by omega
  have nz2 : ((n : Int) == 0) = false := by simpa using nz
  by_cases h0 : r = 0
  · subst h0
    have d1 : (i : Int).tdiv (n : Int) = (q : Int) := by rw [Int.tdiv_eq_ediv_of_nonneg (by omega), hq]; rfl
    have d2 : (i : Int) / (n : Int) = (q : Int) := by rw [hq]; rfl
    have nzN : ¬ n = 0 := by omega
    have q1 : 1 ≤ q := by rw [hq]; exact (Nat.one_le_div_iff n0).2 hi
    have q2 : q < 60 := by rw [hq]; exact Nat.lt_of_le_of_lt (Nat.div_le_self _ _) h60
    obtain ⟨p, hp⟩ : ∃ p, p = q - 1 := ⟨_, rfl⟩
    have wq : IntKind.i64.wrap (q : Int) = (q : Int) := by rw [IntKind.wrap_i64]; omega
    have wp_ : IntKind.i64.wrap ((q : Int) - 1) = (p : Int) := by rw [IntKind.wrap_i64]; omega
    have wu : IntKind.u64.wrap (p : Int) = (p : Int) := by rw [IntKind.wrap_u64]; omega
    have SW : Hid (∀ W, Calls Try.prog 35 #[aB [b, c, d, a]] W fun e w' => e = .returned (aB [G.sub b, G.sub c, G.sub d, G.sub a]) ∧ Below W.heap.size W w') := fun W => asubw_fun [b, c, d, a] (G.four_mk hb hc hd ha) W
    have PW : Hid (∀ W, Calls Try.prog 36 #[b8 2, .int .u64 (p : Int)] W fun e w' => e = .returned (b8 (G.pow 2 p)) ∧ Below W.heap.size W w') := fun W => gfIs.pow 2 p (by decide) (by omega) W trivial
    have PE : Hid (A.preW n i [a, b, c, d] = [G.sub b ^^^ G.pow 2 p, G.sub c, G.sub d, G.sub a]) := by
      unfold A.preW
      rw [if_pos hr.symm, ← hq, ← hp]
      exact rfl
    have xe : bits .xor .u8 ((G.sub b : Nat) : Int) ((G.pow 2 p : Nat) : Int) = ((G.sub b ^^^ G.pow 2 p : Nat) : Int) := g_xor (G.sub_lt _) (G.pow_lt256 _)
    have XS : Hid ([G.sub b, G.sub c, G.sub d, G.sub a].set 0 (G.sub b ^^^ G.pow 2 p) = [G.sub b ^^^ G.pow 2 p, G.sub c, G.sub d, G.sub a]) := rfl
    generalize G.sub b ^^^ G.pow 2 p = y0 at *
    generalize G.pow 2 p = pw at *
    generalize G.sub a = sa at *
    generalize G.sub b = sb at *
    generalize G.sub c = sc at *
    generalize G.sub d = sd at *
    have ca := X0.out.cell 0 _ rfl
    have cb := X0.out.cell 1 _ rfl
    have cc := X0.out.cell 2 _ rfl
    have cd := X0.out.cell 3 _ rfl
    clear x0 x1 x2 hq hr hn hi h60 n0 q1 q2 hp ht ha hb hc hd
    go_enter Try.func16, Try.ntmps16
    go_wp2_with (refine wp_build4t rfl (.tmp 12) (.tmp 14) (.tmp 16) (.tmp 18) rfl b c d a rfl rfl rfl rfl ?_)
    refine Calls.mono (SW.out _) ?_
    rintro e w2 ⟨rfl, hb2⟩
    have Z0 : Hid (Blk w2 w.heap.size ([a, b, c, d].map b8)) := X0.out.up hb2 X0.out.lt
    have Z1 : Hid (Blk w2 (w.heap.size + 1) (zB 4)) := X1.out.up hb2 X1.out.lt
    have Z2 : Hid (Below w.heap.size w w2) := X2.out.trans (hb2.mono X2.out.size)
    clear hb2 X0 X1 X2 SW ca cb cc cd
    have T2 : Hid (w2.there w.heap.size 0 ([sb, sc, sd, sa].map b8).length) := Z0.out.there (by simp)
    obtain ⟨ss, hss⟩ : ∃ ss, ss = [sb, sc, sd, sa] := ⟨_, rfl⟩
    rw [← hss] at T2 ⊢
    have SL : Hid (ss.length = 4) := by rw [hss]; exact rfl
    have HS : Hid (ss = [sb, sc, sd, sa]) := hss
    clear hss
    go_wp2_with (refine wp_store_eq rfl 23 (.tmp 3) (.tmp 20) rfl w.heap.size 0 (ss.map b8) rfl rfl T2.out (info_n info_a4 ss SL.out) (one_b8 _) ?_)
    intro w3 hw3
    have Y0 : Hid (Blk w3 w.heap.size (ss.map b8)) := by rw [hw3.out]; exact Z0.out.put (by rw [List.length_map, SL.out]; rfl)
    have Y1 : Hid (Blk w3 (w.heap.size + 1) (zB 4)) := by rw [hw3.out]; exact Z1.out.apart (by omega)
    have Y2 : Hid (Below w.heap.size w w3) := by rw [hw3.out]; exact below_setCells _ _ _ Z2.out (Nat.le_refl _)
    clear hw3 Z0 Z1 Z2 T2
    have c0 : Hid (∀ W, Below w3.heap.size w3 W → W.cell? ⟨w.heap.size, 0, none⟩ = some (b8 sb)) := fun W hW => (Y0.out.up hW Y0.out.lt).cell 0 _ (by rw [HS.out]; rfl)
    have US : Hid (∀ W, Blk W w.heap.size (ss.map b8) → Blk (W.setCell ⟨w.heap.size, 0, none⟩ (b8 y0)) w.heap.size ([y0, sc, sd, sa].map b8)) := fun W h => by
      rw [← XS.out, ← HS.out]
      exact h.setB 0 y0 (by rw [SL.out]; decide)
    clear HS XS
    go_wp2_with fail
    refine wp_region_monoSE 10 [MP.eq (.pointer (some ⟨w.heap.size, 0, none⟩)), MP.eq (b8 sb), MP.eq (.int .i64 (i : Int)), MP.eq (.int .i64 (n : Int)), MP.eq (.int .i64 (q : Int)), MP.eq (.int .i64 (p : Int)), MP.eq (.int .u64 (p : Int)), MP.eq (b8 pw), MP.eq (b8 y0), MP.eq (.pointer (some ⟨w.heap.size, 0, none⟩))] (by kernel_rfl) (by kernel_rfl) rfl (by decide) (by kernel_rfl) ?_
    apply Exists.intro
    refine ⟨fun vals => ?_, ?_, fun vals4 w4 hb4 hF hO => ?_⟩
    · simp only [putsV, dstL, List.length_cons, List.length_nil, Nat.zero_add, Nat.reduceAdd, List.getElem?_cons_zero, List.getElem?_cons_succ, Option.bind_some, Act.put, List.setIfInBounds_toArray, List.set_cons_succ, List.set_cons_zero]
      rfl
    · refine ⟨?_, ?_, ?_, ?_, ?_, ?_, ?_, ?_, ?_, ?_, trivial⟩
      · intro vals W hW hw hd
        try simp [Region.binds] at hd
        refine ⟨by first | rfl | simp [Region.wanted, yielded, hd], ?_⟩
        simp [go_sem, hd]
        exact Below.refl _ _
      · intro vals W hW hw hd
        try simp [Region.binds] at hd
        refine ⟨by first | rfl | simp [Region.wanted, yielded, hd], ?_⟩
        have cc := c0.out W hW.out
        simp [go_sem, hd, cc]
        exact Below.refl _ _
      · intro vals W hW hw hd
        try simp [Region.binds] at hd
        refine ⟨by first | rfl | simp [Region.wanted, yielded, hd], ?_⟩
        simp [go_sem, hd]
        exact Below.refl _ _
      · intro vals W hW hw hd
        try simp [Region.binds] at hd
        refine ⟨by first | rfl | simp [Region.wanted, yielded, hd], ?_⟩
        simp [go_sem, hd]
        exact Below.refl _ _
      · intro vals W hW hw hd
        try simp [Region.binds] at hd
        refine ⟨by first | rfl | simp [Region.wanted, yielded, hd], ?_⟩
        simp [go_sem, hd, d1, d2, wq, nz, nz2, nzN]
        exact Below.refl _ _
      · intro vals W hW hw hd
        try simp [Region.binds] at hd
        refine ⟨by first | rfl | simp [Region.wanted, yielded, hd], ?_⟩
        simp [go_sem, hd, wp_]
        exact Below.refl _ _
      · intro vals W hW hw hd
        try simp [Region.binds] at hd
        refine ⟨by first | rfl | simp [Region.wanted, yielded, hd], ?_⟩
        simp [go_sem, hd, wu]
        exact Below.refl _ _
      · intro vals W hW hw hd
        try simp [Region.binds] at hd
        refine ⟨by first | rfl | simp [Region.wanted, yielded, hd], ?_⟩
        simp [go_sem, hd]
        exact (PW.out W).mono fun e w' ⟨he, hb⟩ => ⟨_, he, rfl, hb⟩
      · intro vals W hW hw hd
        try simp [Region.binds] at hd
        refine ⟨by first | rfl | simp [Region.wanted, yielded, hd], ?_⟩
        simp [go_sem, hd, xe]
        exact Below.refl _ _
      · intro vals W hW hw hd
        try simp [Region.binds] at hd
        refine ⟨by first | rfl | simp [Region.wanted, yielded, hd], ?_⟩
        simp [go_sem, hd]
        exact Below.refl _ _
    obtain ⟨f0, f1, f2, f3, f4, f5, f6, f7, f8, f9, _⟩ := hF
    simp only [MP.eq_p] at f0 f1 f2 f3 f4 f5 f6 f7 f8 f9
    rw [f0, f1, f2, f3, f4, f5, f6, f7, f8, f9]
    simp only [List.drop_succ_cons, List.drop_zero]
    have c4 := c0.out w4 hb4.out
    have z4 := (Y0.out.up hb4.out Y0.out.lt).fz 0
    have V0 : Hid _ := US.out w4 (Y0.out.up hb4.out Y0.out.lt)
    have V1 : Hid _ := (Y1.out.up hb4.out Y1.out.lt).apart1 (k' := w.heap.size) (o := 0) (v := b8 y0) (by omega)
    have V2 : Hid _ := (Y2.out.trans (hb4.out.mono Y2.out.size)).setCell (p := ⟨w.heap.size, 0, none⟩) (Nat.le_refl _) (b8 y0)
    clear f0 f1 f2 f3 f4 f5 f6 f7 f8 f9 hb4 hO c0 Y0 Y1 Y2 US PW xe
    have LL : Hid ([y0, sc, sd, sa].length = 4) := by show _ = _; rfl
    obtain ⟨ll, hll⟩ : ∃ ll, ll = [y0, sc, sd, sa] := ⟨_, rfl⟩
    rw [← hll] at V0 LL PE
    clear hll
    obtain ⟨w5, hw5⟩ : ∃ w5, w5 = w4.setCell ⟨w.heap.size, 0, none⟩ (b8 y0) := ⟨_, rfl⟩
    have T0 : Hid ((w4.setCell ⟨w.heap.size, 0, none⟩ (b8 y0)).there (w.heap.size + 1) 0 (ll.map b8).length) := V1.out.there (by rw [List.length_map, LL.out, zB_length]; omega)
    go_wp2_with (first | refine wpList_load_mid rfl 23 (.tmp 3) rfl w.heap.size 0 rfl (ll.map b8) _ V0.out.all u_a4 rfl (info_n info_a4 ll LL.out) ?_ | refine wp_store_eq rfl 23 (.tmp 6) (.tmp 41) rfl (w.heap.size + 1) 0 (ll.map b8) rfl rfl T0.out (info_n info_a4 ll LL.out) (one_b8 _) ?_)
    intro w9 hw9
    go_wp2_with fail
    refine bodyPost_ret (v := aB ll) ?_ rfl ⟨by rw [PE.out], ?_⟩
    · rw [hw9.out]
      exact results_cell (b := w.heap.size + 1) rfl rfl (World.rangeAt_setCells_same _ _ _ _ T0.out) u_a4 rfl (info_n info_a4 ll LL.out)
    · rw [hw9.out]
      exact below_setCells _ _ _ V2.out (by omega)
  · have r0 : ((r : Int) == 0) = false := by simpa using h0
    have r0' : ¬ (r : Int) = 0 := by omega
    by_cases h8 : n = 8 ∧ r = 4
    · obtain ⟨rfl, rfl⟩ := h8
      have SW : Hid (∀ W, Calls Try.prog 35 #[aB [a, b, c, d]] W fun e w' => e = .returned (aB (A.subW [a, b, c, d])) ∧ Below W.heap.size W w') := fun W => asubw_fun [a, b, c, d] ht W
      have PE : Hid (A.preW 8 i [a, b, c, d] = A.subW [a, b, c, d]) := by
        unfold A.preW
        rw [if_neg (by omega), if_pos ⟨rfl, by omega⟩]
        exact rfl
      have LT : Hid ([a, b, c, d].length = 4) := by show _ = _; rfl
      have LS : Hid ((A.subW [a, b, c, d]).length = 4) := (A.subW_ok _).1
      generalize A.subW [a, b, c, d] = ss at *
      generalize [a, b, c, d] = tt at *
      have i8 : (((8 : Nat) : Int)) = 8 := rfl
      have i4 : (((4 : Nat) : Int)) = 4 := rfl
      rw [i8, i4] at m1 m2
      clear x0 x1 x2 hq hr hn hi h60 n0 ht ha hb hc hd h0 r0 r0' nz nz2
      go_enter Try.func16, Try.ntmps16
      go_wp2_with (refine wpList_load_mid rfl 23 (.tmp 3) rfl w.heap.size 0 rfl (tt.map b8) _ X0.out.all u_a4 rfl (info_n info_a4 tt LT.out) ?_)
      refine Calls.mono (SW.out _) ?_
      rintro e w2 ⟨rfl, hb2⟩
      have Z0 : Hid (Blk w2 w.heap.size (tt.map b8)) := X0.out.up hb2 X0.out.lt
      have Z1 : Hid (Blk w2 (w.heap.size + 1) (zB 4)) := X1.out.up hb2 X1.out.lt
      have Z2 : Hid (Below w.heap.size w w2) := X2.out.trans (hb2.mono X2.out.size)
      clear hb2 X0 X1 X2 SW
      have T2 : Hid (w2.there w.heap.size 0 (ss.map b8).length) := Z0.out.there (by rw [List.length_map, List.length_map, LS.out, LT.out]; omega)
      go_wp2_with (refine wp_store_eq rfl 23 (.tmp 3) (.tmp 40) rfl w.heap.size 0 (ss.map b8) rfl rfl T2.out (info_n info_a4 ss LS.out) (one_b8 _) ?_)
      intro w3 hw3
      have Y0 : Hid (Blk w3 w.heap.size (ss.map b8)) := by rw [hw3.out]; exact Z0.out.put (by rw [List.length_map, List.length_map, LS.out, LT.out])
      have Y1 : Hid (Blk w3 (w.heap.size + 1) (zB 4)) := by rw [hw3.out]; exact Z1.out.apart (by omega)
      have Y2 : Hid (Below w.heap.size w w3) := by rw [hw3.out]; exact below_setCells _ _ _ Z2.out (Nat.le_refl _)
      clear hw3 Z0 Z1 Z2 T2
      have LL : Hid (ss.length = 4) := LS.out
      have T0 : Hid (World.there w3 (w.heap.size + 1) 0 (ss.map b8).length) := Y1.out.there (by rw [List.length_map, LL.out, zB_length]; omega)
      go_wp2_with (first | refine wpList_load_mid rfl 23 (.tmp 3) rfl w.heap.size 0 rfl (ss.map b8) _ Y0.out.all u_a4 rfl (info_n info_a4 ss LL.out) ?_ | refine wp_store_eq rfl 23 (.tmp 6) (.tmp 41) rfl (w.heap.size + 1) 0 (ss.map b8) rfl rfl T0.out (info_n info_a4 ss LL.out) (one_b8 _) ?_)
      intro w9 hw9
      go_wp2_with fail
      refine bodyPost_ret (v := aB ss) ?_ rfl ⟨by rw [PE.out], ?_⟩
      · rw [hw9.out]
        exact results_cell (b := w.heap.size + 1) rfl rfl (World.rangeAt_setCells_same _ _ _ _ T0.out) u_a4 rfl (info_n info_a4 ss LL.out)
      · rw [hw9.out]
        exact below_setCells _ _ _ Y2.out (by omega)
    · have PE : Hid (A.preW n i [a, b, c, d] = [a, b, c, d]) := by
        unfold A.preW
        rw [if_neg (by omega), if_neg (fun h => h8 ⟨h.1, by rw [hr, h.1]; exact h.2⟩)]
        exact rfl
      have LT : Hid ([a, b, c, d].length = 4) := by show _ = _; rfl
      have Y0 : Hid (Blk _ w.heap.size ([a, b, c, d].map b8)) := X0
      have Y1 : Hid (Blk _ (w.heap.size + 1) (zB 4)) := X1
      have Y2 : Hid (Below w.heap.size w _) := X2
      have G8 : n = 8 → ¬ r = 4 := fun h h' => h8 ⟨h, h'⟩
      generalize [a, b, c, d] = tt at *
      clear x0 x1 x2 X0 X1 X2 hq hr hi h60 n0 ht ha hb hc hd h0
      by_cases e8 : n = 8
      · have r4 : ((r : Int) == 4) = false := by have := G8 e8; simp; omega
        have r4' : ¬ (r : Int) = 4 := by have := G8 e8; omega
        have n8 : (n : Int) = 8 := by omega
        have LL : Hid (tt.length = 4) := LT
        subst e8
        have i8 : (((8 : Nat) : Int)) = 8 := rfl
        rw [i8] at m1 m2
        clear n8 G8 h8 hn nz nz2
        go_enter Try.func16, Try.ntmps16
        have LL : Hid (tt.length = 4) := LT.out
        have T0 : Hid (World.there _ (w.heap.size + 1) 0 (tt.map b8).length) := Y1.out.there (by rw [List.length_map, LL.out, zB_length]; omega)
        go_wp2_with (first | refine wpList_load_mid rfl 23 (.tmp 3) rfl w.heap.size 0 rfl (tt.map b8) _ Y0.out.all u_a4 rfl (info_n info_a4 tt LL.out) ?_ | refine wp_store_eq rfl 23 (.tmp 6) (.tmp 41) rfl (w.heap.size + 1) 0 (tt.map b8) rfl rfl T0.out (info_n info_a4 tt LL.out) (one_b8 _) ?_)
        intro w9 hw9
        go_wp2_with fail
        refine bodyPost_ret (v := aB tt) ?_ rfl ⟨by rw [PE.out], ?_⟩
        · rw [hw9.out]
          exact results_cell (b := w.heap.size + 1) rfl rfl (World.rangeAt_setCells_same _ _ _ _ T0.out) u_a4 rfl (info_n info_a4 tt LL.out)
        · rw [hw9.out]
          exact below_setCells _ _ _ Y2.out (by omega)
      · have n8 : ((n : Int) == 8) = false := by simp; omega
        have n8' : ¬ (n : Int) = 8 := by omega
        clear G8 h8 hn
        go_enter Try.func16, Try.ntmps16
        have LL : Hid (tt.length = 4) := LT.out
        have T0 : Hid (World.there _ (w.heap.size + 1) 0 (tt.map b8).length) := Y1.out.there (by rw [List.length_map, LL.out, zB_length]; omega)
        go_wp2_with (first | refine wpList_load_mid rfl 23 (.tmp 3) rfl w.heap.size 0 rfl (tt.map b8) _ Y0.out.all u_a4 rfl (info_n info_a4 tt LL.out) ?_ | refine wp_store_eq rfl 23 (.tmp 6) (.tmp 41) rfl (w.heap.size + 1) 0 (tt.map b8) rfl rfl T0.out (info_n info_a4 tt LL.out) (one_b8 _) ?_)
        intro w9 hw9
        go_wp2_with fail
        refine bodyPost_ret (v := aB tt) ?_ rfl ⟨by rw [PE.out], ?_⟩
        · rw [hw9.out]
          exact results_cell (b := w.heap.size + 1) rfl rfl (World.rangeAt_setCells_same _ _ _ _ T0.out) u_a4 rfl (info_n info_a4 tt LL.out)
        · rw [hw9.out]
          exact below_setCells _ _ _ Y2.out (by omega)
end Go.Proofs.Ytejabkmhpiabnaa
