/- The contract of tree.Log.Add. -/
import Derived.Test.YtmpniingbioggaaDoorTLogR
namespace Go.Proofs.YtmpniingbioggaaDoor
open Go.RowKit
set_option linter.unusedSimpArgs false
attribute [local go_sem] YieldsP execOp
attribute [local simp] MP.eq_p
/-- Nothing but block k, and what is new, is another. -/
abbrev Fr (w : World) (k : Nat) (w' : World) : Prop := w.grownBy w' (some k)
theorem Fr.refl (w : World) (k : Nat) : Fr w k w := ⟨rfl, rfl, rfl, Nat.le_refl _, fun _ _ _ => rfl⟩
theorem Fr.then {w a b : World} {k : Nat} (h : Fr w k a) (hb : Below a.heap.size a b) : Fr w k b :=
  ⟨hb.os.trans h.os, hb.tape.trans h.tape, hb.output.trans h.output, Nat.le_trans h.size hb.size, fun j hj hk => (hb.block j (Nat.lt_of_lt_of_le hj h.size)).trans (h.block j hj hk)⟩
theorem heap_setCells (k j : Nat) (hj : j ≠ k) : ∀ (vs : List Value) (o : Nat) (w : World), (w.setCells k o vs).heap[j]? = w.heap[j]?
  | [], _, _ => rfl
  | v :: vs, o, w => (heap_setCells k j hj vs (o + 1) (w.setCell ⟨k, o, none⟩ v)).trans (Below.heap_setCell w ⟨k, o, none⟩ v j hj)
theorem Fr.set {w a : World} {k : Nat} (h : Fr w k a) (j o : Nat) (vs : List Value) (hj : j = k ∨ w.heap.size ≤ j) : Fr w k (a.setCells j o vs) := by
  have hb := below_setCells (B := 0) (k := j) vs o a (Below.refl 0 a) (Nat.zero_le _)
  refine ⟨hb.os.trans h.os, hb.tape.trans h.tape, hb.output.trans h.output, Nat.le_trans h.size hb.size, fun i hi hk => ?_⟩
  rw [heap_setCells j i (by
    intro e
    subst e
    rcases hj with hj | hj
    · exact hk (congrArg some hj)
    · omega)]
  exact h.block i hi hk
theorem Fr.below {w a : World} {k B : Nat} (h : Fr w k a) (hB : B ≤ w.heap.size) (hk : B ≤ k) : Below B w a := Below.grown (Below.refl _ _) h hB (fun j hj => by cases hj; exact hk)
theorem lgC_set {ps : List (List Nat)} {n c : Nat} (y : List Nat) (hc : c < ps.length) : lgC (ps.set c y) n = (ps.take c).flatten.map b8 ++ (y.map b8 ++ ((ps.drop (c + 1)).flatten.map b8 ++ [.int .i64 (n : Int)])) := by
  rw [lgC_split (c := c) (by rw [List.length_set]; exact hc)]
  simp [List.take_set_of_le, List.drop_set_of_lt, hc, List.getD_eq_getElem?_getD]
theorem lg_store {w : World} {k n c : Nat} {ps : List (List Nat)} (h : Blk w k (lgC ps n)) (hp : Dok ps) (hc : c < ps.length) (y : List Nat) (hy : y.length = 32) : Blk (w.setCells k (c * 32) (y.map b8)) k (lgC (ps.set c y) n) := by
  rw [lgC_split hc] at h
  rw [lgC_set y hc]
  exact h.store (take_flat_len hp (by omega)).symm (by rw [List.length_map, List.length_map, hy, hp.at c hc])
theorem lg_there {w : World} {k n c : Nat} {ps : List (List Nat)} (h : Blk w k (lgC ps n)) (hp : Dok ps) (hc : c < ps.length) : w.there k (c * 32) 32 := by
  refine h.there ?_
  have : (ps.flatten.map b8).length = ps.length * 32 := by rw [List.length_map, flat_len hp]
  unfold lgC
  rw [List.length_append, this, List.length_singleton]
  omega
theorem lg_inc {w : World} {k n : Nat} {ps : List (List Nat)} (h : Blk w k (lgC ps n)) (hp : Dok ps) (hl : ps.length = 17) : Blk (w.setCell ⟨k, 544, none⟩ (.int .i64 ((n : Int) + 1))) k (lgC ps (n + 1)) := by
  have e : (ps.flatten.map b8).length = 544 := by rw [List.length_map, flat_len hp, hl]
  have := h.set 544 (.int .i64 ((n : Int) + 1)) (by unfold lgC; rw [List.length_append, e, List.length_singleton]; omega)
  have e2 : (lgC ps n).set 544 (.int .i64 ((n : Int) + 1)) = lgC ps (n + 1) := by
    unfold lgC
    rw [List.set_append_right _ _ (by omega), e]
    rfl
  rw [e2] at this
  exact this
/-- What is carried, as leaves come to be digests. -/
def carS (ls : List (List Nat)) (p : List Nat) (b : Nat) : List Nat := T.carry nodeS (sumS []) (ls.map leafS ++ [leafS p]) b
theorem carS_zero (ls : List (List Nat)) (p : List Nat) : carS ls p 0 = leafS p := T.carry_zero _ _ _ _
theorem carS_low (ls : List (List Nat)) (p : List Nat) (b : Nat) : (carS ls p b).length = 32 ∧ ∀ x ∈ carS ls p b, x < 256 :=
  T.top_all (P := fun d => d.length = 32 ∧ ∀ x ∈ d, x < 256) nodeS (sumS []) nodeS_low ⟨sumS_length _, sumS_low _⟩ (fun x hx => by
    rcases List.mem_append.1 (List.mem_of_mem_drop hx) with h | h
    · exact Dlow.leaves ls x h
    · rw [List.mem_singleton.1 h]; exact leafS_low p)
theorem carS_step {ls : List (List Nat)} {p : List Nat} {b : Nat} (h : ls.length % 2 ^ b = 2 ^ b - 1) (hb : ls.length / 2 ^ b % 2 = 1) : nodeS (T.pk nodeS (sumS []) (ls.map leafS) b) (carS ls p b) = carS ls p (b + 1) :=
  (T.carry_step nodeS (sumS []) (l := ls.map leafS) (by rw [List.length_map]; exact h) (by rw [List.length_map]; exact hb)).symm
theorem lgQ_take (ls : List (List Nat)) (b : Nat) : (lgQ ls b).set b z32 = lgQ ls (b + 1) := T.logQ_take _ _ _
theorem lgQ_add {ls : List (List Nat)} {p : List Nat} {b : Nat} (hb17 : b < 17) (h : ls.length % 2 ^ b = 2 ^ b - 1) (hb : ¬ ls.length / 2 ^ b % 2 = 1) : (lgQ ls b).set b (carS ls p b) = lgQ (ls ++ [p]) 0 := by
  have := T.logQ_add nodeS (sumS []) z32 (l := ls.map leafS) (p := leafS p) hb17 (by rw [List.length_map]; exact h) (by rw [List.length_map]; exact hb)
  unfold lgQ carS
  rw [this, List.map_append, List.map_singleton]
theorem bits_le {n b : Nat} (h : n % 2 ^ b = 2 ^ b - 1) (hn : n < 65536) : b ≤ 16 := by
  apply Classical.byContradiction
  intro hb
  have h1 := Nat.pow_le_pow_right (n := 2) (by decide) (show 17 ≤ b by omega)
  have h2 := Nat.mod_le n (2 ^ b)
  omega
set_option maxRecDepth 20000 in
set_option maxHeartbeats 4000000 in
theorem add_fun (k : Nat) (k0 : 0 < k) (ls : List (List Nat)) (zl : ls.length < 65536) (p : List Nat) (lp : ∀ x ∈ p, x < 256) (zp : p.length ≤ 500000000000000) (v : Value) (w : World) (hk : LgAt w k ls) (hv : By w v p) (hT : KTab w) :
    Calls Tryd.prog 24 #[.pointer (some ⟨k, 0, none⟩), v] w fun e w' => e = .returned (.int .i64 0) ∧ LgAt w' k (ls ++ [p]) ∧ Fr w k w' := by
  have CE := lg_count hk (lgQ_low ls 0).ok (lgQ_length ls 0)
  have TL : Hid _ := tleaf_fun p lp (by omega) v w hv hT
  have KL : Hid (k < w.heap.size) := hk.lt
  have LG : Hid (Blk w k (lgC (lgQ ls 0) ls.length)) := hk
  have KU : Hid (∀ a, Fr w k a → KTab a) := fun a ha => hT.up (ha.below (B := k) (Nat.le_of_lt hk.lt) (Nat.le_refl _)) k0
  have CZ : Hid _ := carS_zero ls p
  have n1 : ¬ (65536 : Int) ≤ (ls.length : Int) := by omega
  have LL : Hid ((leafS p).length = 32) := (leafS_low p).1
  have I1 : Hid _ := info_d32.trans (congrArg some (show 32 = ((leafS p).map b8).length by rw [List.length_map, LL.out]))
  have HF : Hid (∀ (b : Nat) (W : World) (n : Nat), b < 64 → n ≤ 65536 → W.cell? ⟨k, 544, none⟩ = some (.int .i64 (n : Int)) → Calls Tryd.prog 37 #[.pointer (some ⟨k, 0, none⟩), .int .i64 ((b : Nat) : Int)] W fun e w' => e = .returned (.bool (decide (n / 2 ^ b % 2 = 1))) ∧ w' = W) := fun b W n hb hn hc => has_fun k n b hb hn W hc
  have ZL : Hid (ls.length < 65536) := zl
  clear hk hv hT lp zp
  go_enter Tryd.func24, Tryd.ntmps24
  go_wp2_with fail
  refine Calls.mono TL.out ?_
  rintro e w1 ⟨rfl, hb1⟩
  have F1 : Hid (Fr w k w1) := (Fr.refl w k).then hb1
  have G1 : Hid (Blk w1 k (lgC (lgQ ls 0) ls.length)) := LG.out.up hb1 KL.out
  clear hb1 TL LG CE
  rw [← CZ.out] at LL I1 ⊢
  generalize hc0 : carS ls p 0 = c0 at *
  have HC0 : Hid (c0 = carS ls p 0) := hc0.symm
  clear hc0 CZ
  have T1 : Hid (∀ C t, C.size = 32 → World.there (w1.alloc (.cells C t)) w1.heap.size 0 (c0.map b8).length) := fun C t hC => (al1 w1 C t).1.there (by rw [List.length_map, LL.out, Array.length_toList, hC]; omega)
  go_wp2_with (refine wp_store_eq rfl 24 (.tmp 5) (.tmp 13) rfl w1.heap.size 0 (c0.map b8) rfl rfl (T1.out _ _ rfl) I1.out (one_b8 _) ?_)
  intro w2 hw2
  obtain ⟨b2, h2⟩ : Blk w2 w1.heap.size (c0.map b8) ∧ Below w1.heap.size w1 w2 := by
    rw [hw2.out]
    exact alst w1 _ _ _ (by rw [List.length_map, LL.out]; rfl)
  rw [HC0.out] at b2
  have B2 : Hid (Blk w2 w1.heap.size ((carS ls p 0).map b8)) := b2
  have F2 : Hid (Fr w k w2) := F1.out.then h2
  have G2 : Hid (Blk w2 k (lgC (lgQ ls 0) ls.length)) := G1.out.up h2 G1.out.lt
  have GK : Hid (w.heap.size ≤ w1.heap.size) := F1.out.size
  clear hw2 b2 h2 F1 G1 T1 HC0 I1 LL
  generalize w1.heap.size = g at *
  generalize hn : ls.length = n at *
  have HN : Hid (ls.length = n) := hn
  clear hn
  go_wp2_with fail
  go_loopw [6] (fun i wr => ∃ b : Nat, i = .int .i64 (b : Int) ∧ Hid (n % 2 ^ b = 2 ^ b - 1) ∧ Hid (Blk wr k (lgC (lgQ ls b) n)) ∧ Hid (Blk wr g ((carS ls p b).map b8)) ∧ Hid (Fr w k wr)) (fun i _ => 17 - (intOf i).toNat)
  case atStart => exact ⟨0, rfl, (by simp [Nat.mod_one] : n % 2 ^ 0 = 2 ^ 0 - 1), G2, B2, F2⟩
  case round =>
    clear G2 B2 F2
    obtain ⟨b, rfl, hm, gk, bg, fr⟩ := hrel
    have hb16 := bits_le hm.out ZL.out
    have CE := lg_count gk.out (lgQ_low ls b).ok (lgQ_length ls b)
    have HB : Hid _ := HF.out b wr n (by omega) (by have := ZL.out; omega) CE
    have b17 : (b : Int) < 17 := by omega
    have b0 : (0 : Int) ≤ (b : Int) := by omega
    have CB : Hid _ := carS_low ls p b
    have QL : Hid (Dlow (lgQ ls b)) := lgQ_low ls b
    have IB : Hid _ := info_d32.trans (congrArg some (show 32 = ((carS ls p b).map b8).length by rw [List.length_map, CB.out.1]))
    have B16 : Hid (b ≤ 16) := hb16
    by_cases hbit : n / 2 ^ b % 2 = 1
    · have hm1 := hm.out
      have HM1 : Hid (n % 2 ^ (b + 1) = 2 ^ (b + 1) - 1) := T.all_ones hm1 hbit
      have b1 := bits_le HM1.out ZL.out
      have CS : Hid _ := carS_step (ls := ls) (p := p) (b := b) (by rw [HN.out]; exact hm1) (by rw [HN.out]; exact hbit)
      have QA := lgQ_at (ls := ls) (b := b) (c := b) (by omega) (Nat.le_refl _) (by rw [HN.out]; exact hbit)
      have RK : Hid (wr.rangeAt k (b * 32) ((T.pk nodeS (sumS []) (ls.map leafS) b).map b8)) := by
        rw [← QA]
        exact lg_range gk.out QL.out.ok (by rw [lgQ_length]; omega)
      have PL : Hid _ := pk_low ls b
      have ND : Hid _ := tnode_fun (T.pk nodeS (sumS []) (ls.map leafS) b) (carS ls p b) PL.out.1 CB.out.1 PL.out.2 CB.out.2
      rw [CS.out] at ND
      have CN : Hid _ := carS_low ls p (b + 1)
      have IP : Hid _ := info_d32.trans (congrArg some (show 32 = ((T.pk nodeS (sumS []) (ls.map leafS) b).map b8).length by rw [List.length_map, PL.out.1]))
      have IN : Hid _ := info_d32.trans (congrArg some (show 32 = ((carS ls p (b + 1)).map b8).length by rw [List.length_map, CN.out.1]))
      have IZ : Hid _ := info_d32.trans (congrArg some (show 32 = (z32.map b8).length by simp))
      have B1 : Hid (b + 1 ≤ 16) := b1
      rw [decide_eq_true hbit] at HB
      have wb : IntKind.i64.wrap ((b : Int) + 1) = (b : Int) + 1 := by rw [IntKind.wrap_i64]; omega
      generalize T.pk nodeS (sumS []) (ls.map leafS) b = pk at *
      generalize carS ls p b = cb at *
      have HCN : Hid (∃ c, c = carS ls p (b + 1)) := ⟨_, rfl⟩
      obtain ⟨cn, hcn⟩ := HCN.out
      have HC : Hid (cn = carS ls p (b + 1)) := hcn
      rw [← hcn] at CN IN ND
      clear hcn HCN hbit hm hm1 b1 CS QA CE hb16
      have KW : Hid (∀ W, Below wr.heap.size wr W → KTab W) := fun W hW => KU.out W (fr.out.then hW)
      go_wp2_with fail
      refine Calls.mono HB.out ?_
      rintro e wq ⟨rfl, hwq⟩
      have hwq := hwq.symm
      subst hwq
      clear HB
      go_wp2_with fail
      refine wp_region_monoSE 8 [MP.eq (.pointer (some ⟨k, 0, none⟩)), MP.eq (.int .i64 (b : Int)), MP.eq (.pointer (some ⟨k, 0, none⟩)), MP.eq (.pointer (some ⟨k, 0, none⟩)), MP.eq (.pointer (some ⟨k, b * 32, none⟩)), MP.eq (vB pk), MP.eq (vB cb), MP.eq (vB cn)] (by kernel_rfl) (by kernel_rfl) rfl (by decide) (by kernel_rfl) ?_
      apply Exists.intro
      refine ⟨fun vals => ?_, ?_, fun vals4 w4 hb4 hF hO => ?_⟩
      · simp only [putsV, dstL, List.length_cons, List.length_nil, Nat.zero_add, Nat.reduceAdd, List.getElem?_cons_zero, List.getElem?_cons_succ, Option.bind_some, Act.put, List.setIfInBounds_toArray, List.set_cons_succ, List.set_cons_zero]
        rfl
      · refine ⟨?_, ?_, ?_, ?_, ?_, ?_, ?_, ?_, trivial⟩
        · intro vals W hW hw hd
          try simp [Region.binds] at hd
          refine ⟨by first | rfl | simp [Region.wanted, yielded, hd], ?_⟩
          simp [go_sem, hd]
          exact Below.refl _ _
        · intro vals W hW hw hd
          try simp [Region.binds] at hd
          refine ⟨by first | rfl | simp [Region.wanted, yielded, hd], ?_⟩
          simp [go_sem, hd]
          exact Below.refl _ _
        · intro vals W hW hw hd
          try simp [Region.binds] at hd
          refine ⟨by first | rfl | simp [Region.wanted, yielded, hd], ?_⟩
          simp [go_sem, hd]
          exact Below.refl _ _
        · intro vals W hW hw hd
          try simp [Region.binds] at hd
          refine ⟨by first | rfl | simp [Region.wanted, yielded, hd], ?_⟩
          simp [go_sem, hd]
          exact Below.refl _ _
        · intro vals W hW hw hd
          try simp [Region.binds] at hd
          refine ⟨by first | rfl | simp [Region.wanted, yielded, hd], ?_⟩
          simp [go_sem, hd, b17]
          exact Below.refl _ _
        · intro vals W hW hw hd
          try simp [Region.binds] at hd
          refine ⟨by first | rfl | simp [Region.wanted, yielded, hd], ?_⟩
          exact yields_load 24 (.tmp 23) rfl k (b * 32) hd (pk.map b8) _ (range_up RK.out hW.out (Nat.le_refl _)) u_d32 rfl IP.out rfl
        · intro vals W hW hw hd
          try simp [Region.binds] at hd
          refine ⟨by first | rfl | simp [Region.wanted, yielded, hd], ?_⟩
          exact yields_load 24 (.tmp 5) rfl g 0 rfl (cb.map b8) _ (bg.out.up hW.out bg.out.lt).all u_d32 rfl IB.out rfl
        · intro vals W hW hw hd
          try simp [Region.binds] at hd
          refine ⟨by first | rfl | simp [Region.wanted, yielded, hd], ?_⟩
          simp [go_sem, hd]
          exact (ND.out W (KW.out W hW.out)).mono fun e w' ⟨he, hb⟩ => ⟨_, he, rfl, hb⟩
      obtain ⟨f0, f1, f2, f3, f4, f5, f6, f7, _⟩ := hF
      simp only [MP.eq_p] at f0 f1 f2 f3 f4 f5 f6 f7
      rw [f0, f1, f2, f3, f4, f5, f6, f7]
      simp only [List.drop_succ_cons, List.drop_zero]
      have F4 : Hid (Fr w k w4) := fr.out.then hb4.out
      have G4 : Hid (Blk w4 k (lgC (lgQ ls b) n)) := gk.out.up hb4.out gk.out.lt
      have B4 : Hid (Blk w4 g (cb.map b8)) := bg.out.up hb4.out bg.out.lt
      clear f0 f1 f2 f3 f4 f5 f6 f7 hb4 hO gk bg fr KW ND RK
      have T4 : Hid (w4.there g 0 (cn.map b8).length) := B4.out.there (by rw [List.length_map, List.length_map, CN.out.1, CB.out.1]; omega)
      go_wp2_with (refine wp_store_eq rfl 24 (.tmp 5) (.tmp 26) rfl g 0 (cn.map b8) rfl rfl T4.out IN.out (one_b8 _) ?_)
      intro w5 hw5
      have B5 : Hid (Blk w5 g (cn.map b8)) := by
        rw [hw5.out]
        exact B4.out.whole (by rw [List.length_map, List.length_map, CN.out.1, CB.out.1])
      have G5 : Hid (Blk w5 k (lgC (lgQ ls b) n)) := by
        rw [hw5.out]
        exact G4.out.apart (by have := GK.out; have := KL.out; omega)
      have F5 : Hid (Fr w k w5) := by
        rw [hw5.out]
        exact F4.out.set g 0 _ (.inr GK.out)
      clear hw5 T4 B4 G4 F4
      have T5 : Hid (w5.there k (b * 32) (z32.map b8).length) := by
        have := lg_there G5.out QL.out.ok (c := b) (by rw [lgQ_length]; have := B16.out; omega)
        have e : (z32.map b8).length = 32 := by simp
        rw [e]
        exact this
      go_wp2_with (refine wp_store_eq rfl 24 (.tmp 32) (.tmp 29) rfl k (b * 32) (z32.map b8) rfl rfl T5.out IZ.out (one_b8 _) ?_)
      intro w6 hw6
      have G6 : Hid (Blk w6 k (lgC (lgQ ls (b + 1)) n)) := by
        rw [hw6.out, ← lgQ_take]
        exact lg_store G5.out QL.out.ok (by rw [lgQ_length]; have := B16.out; omega) z32 (by simp)
      have B6 : Hid (Blk w6 g (cn.map b8)) := by
        rw [hw6.out]
        exact B5.out.apart (by have := GK.out; have := KL.out; omega)
      have F6 : Hid (Fr w k w6) := by
        rw [hw6.out]
        exact F5.out.set k _ _ (.inl rfl)
      clear hw6 T5 B5 G5 F5
      rw [HC.out] at B6
      go_wp2_with fail
      go_roundw
      case rel => exact ⟨b + 1, by first | rfl | go_num, HM1, G6, B6, F6⟩
      case measure =>
        have := B1.out
        simp [intOf]
        omega
    · have hm1 := hm.out
      have QA : Hid _ := lgQ_add (ls := ls) (p := p) (b := b) (by omega) (by rw [HN.out]; exact hm1) (by rw [HN.out]; exact hbit)
      rw [decide_eq_false hbit] at HB
      generalize hcb : carS ls p b = cb at *
      have HCB : Hid (carS ls p b = cb) := hcb
      clear hcb hbit hm hm1 CE hb16
      go_wp2_with fail
      refine Calls.mono HB.out ?_
      rintro e wq ⟨rfl, hwq⟩
      have hwq := hwq.symm
      subst hwq
      clear HB
      go_wp2_with fail
      refine wp_region_monoSE 6 [MP.eq (.pointer (some ⟨k, 0, none⟩)), MP.eq (.int .i64 (b : Int)), MP.eq (vB cb), MP.eq (.pointer (some ⟨k, 0, none⟩)), MP.eq (.pointer (some ⟨k, 0, none⟩)), MP.eq (.pointer (some ⟨k, b * 32, none⟩))] (by kernel_rfl) (by kernel_rfl) rfl (by decide) (by kernel_rfl) ?_
      apply Exists.intro
      refine ⟨fun vals => ?_, ?_, fun vals4 w4 hb4 hF hO => ?_⟩
      · simp only [putsV, dstL, List.length_cons, List.length_nil, Nat.zero_add, Nat.reduceAdd, List.getElem?_cons_zero, List.getElem?_cons_succ, Option.bind_some, Act.put, List.setIfInBounds_toArray, List.set_cons_succ, List.set_cons_zero]
        rfl
      · refine ⟨?_, ?_, ?_, ?_, ?_, ?_, trivial⟩
        · intro vals W hW hw hd
          try simp [Region.binds] at hd
          refine ⟨by first | rfl | simp [Region.wanted, yielded, hd], ?_⟩
          simp [go_sem, hd]
          exact Below.refl _ _
        · intro vals W hW hw hd
          try simp [Region.binds] at hd
          refine ⟨by first | rfl | simp [Region.wanted, yielded, hd], ?_⟩
          simp [go_sem, hd]
          exact Below.refl _ _
        · intro vals W hW hw hd
          try simp [Region.binds] at hd
          refine ⟨by first | rfl | simp [Region.wanted, yielded, hd], ?_⟩
          exact yields_load 24 (.tmp 5) rfl g 0 rfl (cb.map b8) _ (bg.out.up hW.out bg.out.lt).all u_d32 rfl IB.out rfl
        · intro vals W hW hw hd
          try simp [Region.binds] at hd
          refine ⟨by first | rfl | simp [Region.wanted, yielded, hd], ?_⟩
          simp [go_sem, hd]
          exact Below.refl _ _
        · intro vals W hW hw hd
          try simp [Region.binds] at hd
          refine ⟨by first | rfl | simp [Region.wanted, yielded, hd], ?_⟩
          simp [go_sem, hd]
          exact Below.refl _ _
        · intro vals W hW hw hd
          try simp [Region.binds] at hd
          refine ⟨by first | rfl | simp [Region.wanted, yielded, hd], ?_⟩
          simp [go_sem, hd, b17]
          exact Below.refl _ _
      obtain ⟨f0, f1, f2, f3, f4, f5, _⟩ := hF
      simp only [MP.eq_p] at f0 f1 f2 f3 f4 f5
      rw [f0, f1, f2, f3, f4, f5]
      simp only [List.drop_succ_cons, List.drop_zero]
      have F4 : Hid (Fr w k w4) := fr.out.then hb4.out
      have G4 : Hid (Blk w4 k (lgC (lgQ ls b) n)) := gk.out.up hb4.out gk.out.lt
      clear f0 f1 f2 f3 f4 f5 hb4 hO gk bg fr
      have T5 : Hid (w4.there k (b * 32) (cb.map b8).length) := by
        have := lg_there G4.out QL.out.ok (c := b) (by rw [lgQ_length]; have := B16.out; omega)
        rw [List.length_map, CB.out.1]
        exact this
      go_wp2_with (refine wp_store_eq rfl 24 (.tmp 38) (.tmp 35) rfl k (b * 32) (cb.map b8) rfl rfl T5.out IB.out (one_b8 _) ?_)
      intro w6 hw6
      have G6 : Hid (Blk w6 k (lgC (lgQ (ls ++ [p]) 0) n)) := by
        rw [hw6.out, ← QA.out]
        exact lg_store G4.out QL.out.ok (by rw [lgQ_length]; have := B16.out; omega) cb CB.out.1
      have F6 : Hid (Fr w k w6) := by
        rw [hw6.out]
        exact F4.out.set k _ _ (.inl rfl)
      clear hw6 T5 G4 F4
      have C6 := lg_count G6.out (lgQ_low _ 0).ok (lgQ_length _ 0)
      have Z6 := G6.out.fz 544
      have wn : IntKind.i64.wrap ((n : Int) + 1) = (n : Int) + 1 := by have := ZL.out; rw [IntKind.wrap_i64]; omega
      have G7 : Hid (Blk _ _ _) := lg_inc G6.out (lgQ_low _ 0).ok (lgQ_length _ 0)
      have F7 : Hid (Fr w k (w6.setCell ⟨k, 544, none⟩ (.int .i64 ((n : Int) + 1)))) := F6.out.set k 544 [.int .i64 ((n : Int) + 1)] (.inl rfl)
      go_wp2_with fail
      go_ret
      refine ⟨rfl, ?_, F7.out⟩
      unfold LgAt
      rw [List.length_append, List.length_singleton, HN.out]
      exact G7.out
def zL : List Value := lgC (List.replicate 17 z32) 0
theorem info_logz : (Tryd.prog.info? 38).map (·.zero) = some (some (.agg zL.toArray)) := by kernel_rfl
theorem zero_log (w : World) : (zeroValue 38).run Tryd.prog w = .ok (.agg zL.toArray) w := by
  have := info_logz
  cases h : Tryd.prog.info? 38 with
  | none => simp [h] at this
  | some d =>
    have hz : d.zero = some (.agg zL.toArray) := by simpa [h] using this
    simp [zeroValue, typeInfo, h, hz]
theorem zL_eq : zL = lgC (lgQ [] 0) 0 := by
  unfold zL lgQ
  rw [List.map_nil, T.logQ_nil]
theorem LgAt.zero {w : World} : LgAt (w.alloc (.cells zL.toArray 38)) w.heap.size [] := by
  have := (al1 w zL.toArray 38).1
  unfold LgAt
  rw [List.length_nil, ← zL_eq]
  exact this
end Go.Proofs.YtmpniingbioggaaDoor
