/- The contract of sealringref.ReadNumber: where it reads. -/
import Derived.Test.YtkgfeacednomfaaNumRR
namespace Go.Proofs.Ytkgfeacednomfaa
open Go.RowKit
set_option linter.unusedSimpArgs false
attribute [local go_sem] YieldsP execOp
attribute [local simp] MP.eq_p MP.sl_p MP.sl2_p
theorem dg_short {n : Nat} (h : n < 256 ^ 34) : (P.dg n).length < 1048576 := Nat.lt_of_le_of_lt (P.dg_len 17 (Nat.lt_of_lt_of_le h (by decide))) (by decide)
theorem times_byte (Z : Nat) (h : Z < 256 ^ 34) (u v : Value) (w : World) (su : Sl w u (P.dg Z)) (sv : Sl w v [256]) :
    Calls Try.prog 19 #[u, v] w fun e w' => (∃ v', e = .returned v' ∧ Sl w' v' (P.dg (Z * 256))) ∧ Below w.heap.size w w' := by
  have := dtimes_fun u v _ _ (P.dg_Dg Z) (P.Dg.one (show 256 < 65536 by decide)) (Nat.lt_trans (dg_short h) (by decide)) (by decide) w su sv
  rwa [P.dv_dg, show P.dv [256] = 256 from rfl] at this
theorem plus_byte (Z x : Nat) (h : Z < 256 ^ 34) (hx : x < 256) (u v : Value) (w : World) (su : Sl w u (P.dg Z)) (sv : Sl w v [x]) :
    Calls Try.prog 10 #[u, v] w fun e w' => (∃ v', e = .returned v' ∧ Sl w' v' (P.dg (Z + x))) ∧ Below w.heap.size w w' := by
  have := dplus_fun u v _ _ (P.dg_Dg Z) (P.Dg.one (show x < 65536 by omega)) (Nat.lt_trans (dg_short h) (by decide)) (by simp) w su sv
  rwa [P.dv_dg, show P.dv [x] = x by simp [P.dv]] at this
theorem p256 : (256 : Nat) ^ 32 = 2 ^ 256 := pow256 32
theorem readNum_cut {cs : List Nat} (low : ∀ x ∈ cs, x < 256) (hl : 1 ≤ cs.length) (h33 : cs.length ≤ 33) (p1 : cs.getD 0 0 < 128) (p2 : cs.getD 0 0 ≠ 0 ∨ cs.length = 1 ∨ 128 ≤ cs.getD 1 0) :
    (beN cs < 2 ^ 256 → readNumS cs = .inr (beN cs)) ∧ (2 ^ 256 ≤ beN cs → readNumS cs = .inl 2) := by
  match cs, hl with
  | x :: c, _ =>
    have e0 : (x :: c).getD 0 0 = x := rfl
    have el : (x :: c).length = c.length + 1 := rfl
    have lc : beN c < 256 ^ c.length := beN_lt c fun y hy => low y (List.mem_cons_of_mem _ hy)
    have bc := beN_cons x c
    have hc : c.length ≤ 32 := by omega
    have lc2 : (256 : Nat) ^ c.length ≤ 256 ^ 32 := Nat.pow_le_pow_right (by decide) hc
    have r : readNumS (x :: c) = if 32 < (if x = 0 then (x :: c).length - 1 else (x :: c).length) then .inl 2 else .inr (beN (x :: c)) := by
      unfold readNumS
      rw [if_neg (by omega), if_neg (by omega), e0]
    rw [r, bc]
    rw [p256] at lc2
    by_cases x0 : x = 0
    · subst x0
      rw [Nat.zero_mul, Nat.zero_add, if_pos rfl, if_neg (by omega)]
      exact ⟨fun _ => rfl, fun h => absurd h (by omega)⟩
    · rw [if_neg x0]
      by_cases h32 : c.length = 32
      · rw [h32, p256, if_pos (by omega)]
        have : 2 ^ 256 ≤ x * 2 ^ 256 := Nat.le_mul_of_pos_left _ (by omega)
        exact ⟨fun h => absurd h (by omega), fun _ => rfl⟩
      · rw [if_neg (by omega)]
        have h1 : beN (x :: c) < 256 ^ (x :: c).length := beN_lt _ low
        have h2 : (256 : Nat) ^ (x :: c).length ≤ 256 ^ 32 := Nat.pow_le_pow_right (by decide) (by omega)
        rw [p256] at h2
        rw [bc] at h1
        exact ⟨fun _ => rfl, fun h => absurd h (by omega)⟩
set_option maxRecDepth 20000 in
set_option maxHeartbeats 2000000 in
theorem rReadNumber_reads (cs : List Nat) (low : ∀ x ∈ cs, x < 256) (hl : 1 ≤ cs.length) (h33 : cs.length ≤ 33) (p1 : cs.getD 0 0 < 128) (p2 : cs.getD 0 0 ≠ 0 ∨ cs.length = 1 ∨ 128 ≤ cs.getD 1 0) (w : World) :
    Calls Try.prog 48 #[.string (sOf cs)] w fun e w' => NumIs cs e ∧ Below w.heap.size w w' := by
  have SZ : Hid ((sOf cs).size = cs.length) := sOf_size cs
  have SG : Hid (∀ j h, ((sOf cs)[j]'h).toNat = cs.getD j 0) := sOf_get low
  have LO : Hid (∀ j, cs.getD j 0 < 256) := getD_low low
  have BS : Hid (∀ k, k < cs.length → beN (cs.take (k + 1)) = beN (cs.take k) * 256 + cs.getD k 0) := by
    refine (fun k hk => ?_ : ∀ k, k < cs.length → beN (cs.take (k + 1)) = beN (cs.take k) * 256 + cs.getD k 0)
    rw [List.take_add_one, List.getElem?_eq_getElem hk, Option.toList_some, beN_snoc, List.getD_eq_getElem?_getD, List.getElem?_eq_getElem hk, Option.getD_some]
  have BL : Hid (∀ k, k ≤ cs.length → beN (cs.take k) < 256 ^ 33) := by
    refine (fun k hk => ?_ : ∀ k, k ≤ cs.length → beN (cs.take k) < 256 ^ 33)
    exact Nat.lt_of_lt_of_le (beN_lt _ fun y hy => low y (List.mem_of_mem_take hy)) (Nat.pow_le_pow_right (by decide) (by rw [List.length_take]; omega))
  have TK : Hid (cs.take cs.length = cs) := List.take_length
  have XL : Hid (beN cs < 256 ^ 34) := Nat.lt_of_lt_of_le (beN_lt cs low) (Nat.pow_le_pow_right (by decide) (by omega))
  have RC := readNum_cut low hl h33 p1 p2
  have CM : Hid ((cmpN (beN cs) (2 ^ 256) = -1 ∧ readNumS cs = .inr (beN cs) ∧ beN cs < 2 ^ 256) ∨ (∃ c, cmpN (beN cs) (2 ^ 256) = c ∧ 0 ≤ c ∧ readNumS cs = .inl 2)) := by
    refine (?_ : (cmpN (beN cs) (2 ^ 256) = -1 ∧ readNumS cs = .inr (beN cs) ∧ beN cs < 2 ^ 256) ∨ (∃ c, cmpN (beN cs) (2 ^ 256) = c ∧ 0 ≤ c ∧ readNumS cs = .inl 2))
    by_cases h : beN cs < 2 ^ 256
    · exact .inl ⟨by unfold cmpN; rw [if_pos h], RC.1 h, h⟩
    · refine .inr ⟨_, rfl, ?_, RC.2 (by omega)⟩
      unfold cmpN
      rw [if_neg h]
      split <;> decide
  clear RC
  have g0 := sOf_get low 0
  have g1 := sOf_get low 1
  obtain ⟨ne1, ne2⟩ := ba_some (t := sOf cs) (by have := SZ.out; omega)
  obtain ⟨n, hn⟩ : ∃ n, n = cs.length := ⟨_, rfl⟩
  have sz : (sOf cs).size = n := by rw [hn]; exact SZ.out
  rw [← hn] at BS BL TK h33 hl p2
  clear hn SZ low
  generalize cs.getD 0 0 = t at *
  generalize cs.getD 1 0 = u at *
  generalize sOf cs = s at *
  have s0 : 0 < s.size := by omega
  have s1 : (0 : Int) < (s.size : Int) := by omega
  have s4 : ¬ (s.size : Int) > 33 := by omega
  have t1 : ¬ (t : Int) ≥ 128 := by omega
  by_cases q : t = 0
  · subst q
    by_cases n1 : n = 1
    · have s5 : ¬ (s.size : Int) > 1 := by omega
      clear p1 p2 g1
      go_enter Try.func48, Try.ntmps48
      go_wp2_with fail
      go_loopw [4, 5] (fun l i wr => ∃ (k : Nat), k ≤ n ∧ i = .int .i64 k ∧ Hid (Sl wr l (P.dg (beN (cs.take k)))) ∧ Hid (wr.heap[w.heap.size]? = some (.cells #[.int .u64 0, .int .u64 0, .int .u64 0, .int .u64 0] 24 (0, 0))) ∧ Hid (Below w.heap.size w wr)) (fun _ i _ => n - (intOf i).toNat)
      case atStart => exact ⟨0, by omega, rfl, .inl ⟨rfl, by rw [List.take_zero]; exact P.dg_zero⟩, heap_alloc_new w _, (Below.refl _ _).alloc (Nat.le_refl _) _⟩
      case round =>
        obtain ⟨k, hk, rfl, sl, xb, hb⟩ := hrel
        by_cases h1 : k < n
        · have i1 : (k : Int) < (s.size : Int) := by omega
          have y1 : k < s.size := by omega
          have k0 : (0 : Int) ≤ (k : Int) := by omega
          have ga := SG.out k
          have la := LO.out k
          have HT : Hid (beN (cs.take (k + 1)) = beN (cs.take k) * 256 + cs.getD k 0) := BS.out k h1
          have ZL : Hid (beN (cs.take k) < 256 ^ 33) := BL.out k (by omega)
          generalize beN (cs.take k) = Z at *
          generalize cs.getD k 0 = x at *
          have x0 : (0 : Int) ≤ (x : Int) := by omega
          have x2 : (x : Int) < 256 := by omega
          have TI : Hid _ := times_byte Z (Nat.lt_of_lt_of_le ZL.out (by decide))
          have PL : Hid _ := plus_byte (Z * 256) x (by rw [show (256 : Nat) ^ 34 = 256 ^ 33 * 256 from rfl]; exact Nat.mul_lt_mul_of_pos_right ZL.out (by decide)) la
          go_wp2_with fail
          refine wp_region_monoE [MP.sl (P.dg Z), MP.sl [256], MP.sl (P.dg (Z * 256)), MP.eq (.string s), MP.eq (.int .i64 (k : Int)), MP.eq (.int .u8 (x : Int)), MP.eq (.int .i64 (x : Int)), MP.sl [x], MP.sl (P.dg (Z * 256 + x)), MP.sl (P.dg (Z * 256 + x))] (by kernel_rfl) (by kernel_rfl) rfl ?_
          apply Exists.intro
          refine ⟨fun vals => ?_, ?_, fun vals4 w4 hb4 hF => ?_⟩
          · simp only [putsV, dstL, List.length_cons, List.length_nil, Nat.zero_add, Nat.reduceAdd, List.getElem?_cons_zero, List.getElem?_cons_succ, Option.bind_some, Act.put, List.setIfInBounds_toArray, List.set_cons_succ, List.set_cons_zero]
            rfl
          · refine ⟨?_, ?_, ?_, ?_, ?_, ?_, ?_, ?_, ?_, ?_, trivial⟩
            · intro vals W hW hw hd
              try simp [Region.binds] at hd
              refine ⟨by first | rfl | simp [Region.wanted, yielded, hd], ?_⟩
              have h9 : vals 9 = u4 := (hw.out 9 (by kernel_rfl)).trans rfl
              simp [go_sem, h9]
              exact ⟨Sl.up (xs := P.dg Z) sl.out hW.out, Below.refl _ _⟩
            · intro vals W hW hw hd
              try simp [Region.binds] at hd
              refine ⟨by first | rfl | simp [Region.wanted, yielded, hd], ?_⟩
              simp [go_sem]
              exact ⟨Sl.one W 256 _ rfl, (Below.refl _ _).alloc (Nat.le_refl _) _⟩
            · intro vals W hW hw hd
              try simp [Region.binds] at hd
              refine ⟨by first | rfl | simp [Region.wanted, yielded, hd], ?_⟩
              simp [go_sem]
              exact (TI.out _ _ _ (by simp [hd]) (by simp [hd])).mono fun e w' ⟨⟨v', he, hs⟩, hb⟩ => ⟨v', he, hs, hb⟩
            · intro vals W hW hw hd
              try simp [Region.binds] at hd
              refine ⟨by first | rfl | simp [Region.wanted, yielded, hd], ?_⟩
              simp [go_sem, hd]
              exact Below.refl _ _
            · intro vals W hW hw hd
              try simp [Region.binds] at hd
              refine ⟨by first | rfl | simp [Region.wanted, yielded, hd], ?_⟩
              simp [go_sem, hd]
              exact Below.refl _ _
            · intro vals W hW hw hd
              try simp [Region.binds] at hd
              refine ⟨by first | rfl | simp [Region.wanted, yielded, hd], ?_⟩
              simp [go_sem, hd, k0, i1, y1, ga]
              exact Below.refl _ _
            · intro vals W hW hw hd
              try simp [Region.binds] at hd
              refine ⟨by first | rfl | simp [Region.wanted, yielded, hd], ?_⟩
              simp [go_sem, hd]
              exact ⟨by rw [IntKind.wrap_i64]; omega, Below.refl _ _⟩
            · intro vals W hW hw hd
              try simp [Region.binds] at hd
              refine ⟨by first | rfl | simp [Region.wanted, yielded, hd], ?_⟩
              simp [go_sem, hd]
              exact ⟨Sl.one W x _ rfl, (Below.refl _ _).alloc (Nat.le_refl _) _⟩
            · intro vals W hW hw hd
              try simp [Region.binds] at hd
              refine ⟨by first | rfl | simp [Region.wanted, yielded, hd], ?_⟩
              simp [go_sem]
              exact (PL.out _ _ _ (by simp [hd]) (by simp [hd])).mono fun e w' ⟨⟨v', he, hs⟩, hb⟩ => ⟨v', he, hs, hb⟩
            · intro vals W hW hw hd
              try simp [Region.binds] at hd
              refine ⟨by first | rfl | simp [Region.wanted, yielded, hd], ?_⟩
              simp [go_sem]
              exact ⟨by simp [hd], Below.refl _ _⟩
          obtain ⟨f0, f1, f2, f3, f4, f5, f6, f7, f8, f9, _⟩ := hF
          simp only [MP.eq_p] at f3 f4 f5 f6
          simp only [MP.sl_p] at f9
          have S9 : Hid (Sl w4 (vals4 9) (P.dg (Z * 256 + x))) := f9
          rw [← HT.out] at S9
          have b4 : Hid (Below w.heap.size w w4) := hb.out.trans (hb4.out.mono hb.out.size)
          have x4 : Hid (w4.heap[w.heap.size]? = _) := (hb4.out.block _ (Array.getElem?_eq_some_iff.1 xb.out).1).trans xb.out
          clear f9 hb4 hb xb TI PL sl HT ZL ga
          go_wp2_with fail
          go_roundw
          case rel => exact ⟨k + 1, by omega, by go_num, S9, x4, b4⟩
          case measure => simp [intOf]; omega
        · have i1 : ¬ (k : Int) < (s.size : Int) := by omega
          have e : k = n := by omega
          subst e
          rw [TK.out] at sl
          go_wp2_with fail
          refine (twoTo_fun _).mono ?_
          rintro e w2 ⟨⟨v2, rfl, s2⟩, hb2⟩
          have S2 : Hid (Sl w2 v2 (P.dg (2 ^ 256))) := s2
          have S1 : Hid (Sl w2 u4 (P.dg (beN cs))) := Sl.up (xs := P.dg (beN cs)) sl.out hb2
          have B2 : Hid (Below w.heap.size w w2) := hb.out.trans (hb2.mono hb.out.size)
          have X2 : Hid (w2.heap[w.heap.size]? = _) := (hb2.block _ (Array.getElem?_eq_some_iff.1 xb.out).1).trans xb.out
          clear s2 hb2 sl hb xb
          go_wp2_with fail
          refine (order_fun u4 v2 _ _ (P.dg_Dg _) (P.dg_Dg _) (Nat.lt_trans (dg_short XL.out) (by decide)) (Nat.lt_trans (dg_short (by decide)) (by decide)) w2 S1.out S2.out).mono ?_
          rintro e w3 ⟨rfl, hb3⟩
          have S3 : Hid (Sl w3 u4 (P.dg (beN cs))) := Sl.up (xs := P.dg (beN cs)) S1.out hb3
          have B3 : Hid (Below w.heap.size w w3) := B2.out.trans (hb3.mono B2.out.size)
          have X3 : Hid (w3.heap[w.heap.size]? = _) := (hb3.block _ (Array.getElem?_eq_some_iff.1 X2.out).1).trans X2.out
          clear hb3 S1 S2 B2 X2
          rw [P.dv_dg, P.dv_dg]
          rcases CM.out with ⟨hc, hr⟩ | ⟨c, hc, c0, hr⟩
          · rw [hc]
            have HR : Hid (readNumS cs = .inr (beN cs) ∧ beN cs < 2 ^ 256) := hr
            clear hr hc
            go_wp2_with fail
            refine (toNum_fun u4 _ (P.dg_Dg _) (dg_short XL.out) w3 S3.out).mono ?_
            rintro e w4 ⟨rfl, hb4⟩
            rw [P.dv_dg, Nat.mod_eq_of_lt HR.out.2]
            obtain ⟨r, hr⟩ : ∃ r, r = Nm.of ((beN cs : Nat) : Int) := ⟨_, rfl⟩
            rw [← hr]
            have HE : Hid (r = Nm.of ((beN cs : Nat) : Int)) := hr
            have B4 : Hid (Below w.heap.size w w4) := B3.out.trans (hb4.mono B3.out.size)
            have X4 : Hid (w4.heap[w.heap.size]? = _) := (hb4.block _ (Array.getElem?_eq_some_iff.1 X3.out).1).trans X3.out
            obtain ⟨y0, y1, y2, y3⟩ := num_frozen X4.out
            obtain ⟨j0, j1, j2, j3⟩ := num_cells X4.out
            clear hr hb4 B3 X3 S3
            go_wp2_with fail
            refine bodyPost_ret (v := .tuple #[N r, i64 0]) (by simp (maxDischargeDepth := 8) [results, Try.results48, go_sem, j0, j1, j2, j3]) rfl ⟨?_, ?_⟩
            · exact .inr ⟨beN cs, HR.out.1, by rw [HE.out]⟩
            · exact (((B4.out.setCell (Nat.le_refl _) _).setCell (Nat.le_refl _) _).setCell (Nat.le_refl _) _).setCell (Nat.le_refl _) _
          · rw [hc]
            have HR : Hid (readNumS cs = .inl 2) := hr
            obtain ⟨y0, y1, y2, y3⟩ := num_frozen X3.out
            obtain ⟨j0, j1, j2, j3⟩ := num_cells X3.out
            clear hr hc
            go_wp2_with fail
            refine bodyPost_ret (v := .tuple #[N ⟨0, 0, 0, 0⟩, i64 2]) (by simp (maxDischargeDepth := 8) [results, Try.results48, go_sem, j0, j1, j2, j3]) rfl ⟨?_, ?_⟩
            · exact .inl ⟨2, HR.out, rfl⟩
            · exact (((B3.out.setCell (Nat.le_refl _) _).setCell (Nat.le_refl _) _).setCell (Nat.le_refl _) _).setCell (Nat.le_refl _) _
    · have s2 : 1 < s.size := by omega
      have s3 : (1 : Int) < (s.size : Int) := by omega
      have u1 : ¬ (u : Int) < 128 := by omega
      clear p1 p2
      go_enter Try.func48, Try.ntmps48
      go_wp2_with fail
      go_loopw [4, 5] (fun l i wr => ∃ (k : Nat), k ≤ n ∧ i = .int .i64 k ∧ Hid (Sl wr l (P.dg (beN (cs.take k)))) ∧ Hid (wr.heap[w.heap.size]? = some (.cells #[.int .u64 0, .int .u64 0, .int .u64 0, .int .u64 0] 24 (0, 0))) ∧ Hid (Below w.heap.size w wr)) (fun _ i _ => n - (intOf i).toNat)
      case atStart => exact ⟨0, by omega, rfl, .inl ⟨rfl, by rw [List.take_zero]; exact P.dg_zero⟩, heap_alloc_new w _, (Below.refl _ _).alloc (Nat.le_refl _) _⟩
      case round =>
        obtain ⟨k, hk, rfl, sl, xb, hb⟩ := hrel
        by_cases h1 : k < n
        · have i1 : (k : Int) < (s.size : Int) := by omega
          have y1 : k < s.size := by omega
          have k0 : (0 : Int) ≤ (k : Int) := by omega
          have ga := SG.out k
          have la := LO.out k
          have HT : Hid (beN (cs.take (k + 1)) = beN (cs.take k) * 256 + cs.getD k 0) := BS.out k h1
          have ZL : Hid (beN (cs.take k) < 256 ^ 33) := BL.out k (by omega)
          generalize beN (cs.take k) = Z at *
          generalize cs.getD k 0 = x at *
          have x0 : (0 : Int) ≤ (x : Int) := by omega
          have x2 : (x : Int) < 256 := by omega
          have TI : Hid _ := times_byte Z (Nat.lt_of_lt_of_le ZL.out (by decide))
          have PL : Hid _ := plus_byte (Z * 256) x (by rw [show (256 : Nat) ^ 34 = 256 ^ 33 * 256 from rfl]; exact Nat.mul_lt_mul_of_pos_right ZL.out (by decide)) la
          go_wp2_with fail
          refine wp_region_monoE [MP.sl (P.dg Z), MP.sl [256], MP.sl (P.dg (Z * 256)), MP.eq (.string s), MP.eq (.int .i64 (k : Int)), MP.eq (.int .u8 (x : Int)), MP.eq (.int .i64 (x : Int)), MP.sl [x], MP.sl (P.dg (Z * 256 + x)), MP.sl (P.dg (Z * 256 + x))] (by kernel_rfl) (by kernel_rfl) rfl ?_
          apply Exists.intro
          refine ⟨fun vals => ?_, ?_, fun vals4 w4 hb4 hF => ?_⟩
          · simp only [putsV, dstL, List.length_cons, List.length_nil, Nat.zero_add, Nat.reduceAdd, List.getElem?_cons_zero, List.getElem?_cons_succ, Option.bind_some, Act.put, List.setIfInBounds_toArray, List.set_cons_succ, List.set_cons_zero]
            rfl
          · refine ⟨?_, ?_, ?_, ?_, ?_, ?_, ?_, ?_, ?_, ?_, trivial⟩
            · intro vals W hW hw hd
              try simp [Region.binds] at hd
              refine ⟨by first | rfl | simp [Region.wanted, yielded, hd], ?_⟩
              have h9 : vals 9 = u4 := (hw.out 9 (by kernel_rfl)).trans rfl
              simp [go_sem, h9]
              exact ⟨Sl.up (xs := P.dg Z) sl.out hW.out, Below.refl _ _⟩
            · intro vals W hW hw hd
              try simp [Region.binds] at hd
              refine ⟨by first | rfl | simp [Region.wanted, yielded, hd], ?_⟩
              simp [go_sem]
              exact ⟨Sl.one W 256 _ rfl, (Below.refl _ _).alloc (Nat.le_refl _) _⟩
            · intro vals W hW hw hd
              try simp [Region.binds] at hd
              refine ⟨by first | rfl | simp [Region.wanted, yielded, hd], ?_⟩
              simp [go_sem]
              exact (TI.out _ _ _ (by simp [hd]) (by simp [hd])).mono fun e w' ⟨⟨v', he, hs⟩, hb⟩ => ⟨v', he, hs, hb⟩
            · intro vals W hW hw hd
              try simp [Region.binds] at hd
              refine ⟨by first | rfl | simp [Region.wanted, yielded, hd], ?_⟩
              simp [go_sem, hd]
              exact Below.refl _ _
            · intro vals W hW hw hd
              try simp [Region.binds] at hd
              refine ⟨by first | rfl | simp [Region.wanted, yielded, hd], ?_⟩
              simp [go_sem, hd]
              exact Below.refl _ _
            · intro vals W hW hw hd
              try simp [Region.binds] at hd
              refine ⟨by first | rfl | simp [Region.wanted, yielded, hd], ?_⟩
              simp [go_sem, hd, k0, i1, y1, ga]
              exact Below.refl _ _
            · intro vals W hW hw hd
              try simp [Region.binds] at hd
              refine ⟨by first | rfl | simp [Region.wanted, yielded, hd], ?_⟩
              simp [go_sem, hd]
              exact ⟨by rw [IntKind.wrap_i64]; omega, Below.refl _ _⟩
            · intro vals W hW hw hd
              try simp [Region.binds] at hd
              refine ⟨by first | rfl | simp [Region.wanted, yielded, hd], ?_⟩
              simp [go_sem, hd]
              exact ⟨Sl.one W x _ rfl, (Below.refl _ _).alloc (Nat.le_refl _) _⟩
            · intro vals W hW hw hd
              try simp [Region.binds] at hd
              refine ⟨by first | rfl | simp [Region.wanted, yielded, hd], ?_⟩
              simp [go_sem]
              exact (PL.out _ _ _ (by simp [hd]) (by simp [hd])).mono fun e w' ⟨⟨v', he, hs⟩, hb⟩ => ⟨v', he, hs, hb⟩
            · intro vals W hW hw hd
              try simp [Region.binds] at hd
              refine ⟨by first | rfl | simp [Region.wanted, yielded, hd], ?_⟩
              simp [go_sem]
              exact ⟨by simp [hd], Below.refl _ _⟩
          obtain ⟨f0, f1, f2, f3, f4, f5, f6, f7, f8, f9, _⟩ := hF
          simp only [MP.eq_p] at f3 f4 f5 f6
          simp only [MP.sl_p] at f9
          have S9 : Hid (Sl w4 (vals4 9) (P.dg (Z * 256 + x))) := f9
          rw [← HT.out] at S9
          have b4 : Hid (Below w.heap.size w w4) := hb.out.trans (hb4.out.mono hb.out.size)
          have x4 : Hid (w4.heap[w.heap.size]? = _) := (hb4.out.block _ (Array.getElem?_eq_some_iff.1 xb.out).1).trans xb.out
          clear f9 hb4 hb xb TI PL sl HT ZL ga
          go_wp2_with fail
          go_roundw
          case rel => exact ⟨k + 1, by omega, by go_num, S9, x4, b4⟩
          case measure => simp [intOf]; omega
        · have i1 : ¬ (k : Int) < (s.size : Int) := by omega
          have e : k = n := by omega
          subst e
          rw [TK.out] at sl
          go_wp2_with fail
          refine (twoTo_fun _).mono ?_
          rintro e w2 ⟨⟨v2, rfl, s2⟩, hb2⟩
          have S2 : Hid (Sl w2 v2 (P.dg (2 ^ 256))) := s2
          have S1 : Hid (Sl w2 u4 (P.dg (beN cs))) := Sl.up (xs := P.dg (beN cs)) sl.out hb2
          have B2 : Hid (Below w.heap.size w w2) := hb.out.trans (hb2.mono hb.out.size)
          have X2 : Hid (w2.heap[w.heap.size]? = _) := (hb2.block _ (Array.getElem?_eq_some_iff.1 xb.out).1).trans xb.out
          clear s2 hb2 sl hb xb
          go_wp2_with fail
          refine (order_fun u4 v2 _ _ (P.dg_Dg _) (P.dg_Dg _) (Nat.lt_trans (dg_short XL.out) (by decide)) (Nat.lt_trans (dg_short (by decide)) (by decide)) w2 S1.out S2.out).mono ?_
          rintro e w3 ⟨rfl, hb3⟩
          have S3 : Hid (Sl w3 u4 (P.dg (beN cs))) := Sl.up (xs := P.dg (beN cs)) S1.out hb3
          have B3 : Hid (Below w.heap.size w w3) := B2.out.trans (hb3.mono B2.out.size)
          have X3 : Hid (w3.heap[w.heap.size]? = _) := (hb3.block _ (Array.getElem?_eq_some_iff.1 X2.out).1).trans X2.out
          clear hb3 S1 S2 B2 X2
          rw [P.dv_dg, P.dv_dg]
          rcases CM.out with ⟨hc, hr⟩ | ⟨c, hc, c0, hr⟩
          · rw [hc]
            have HR : Hid (readNumS cs = .inr (beN cs) ∧ beN cs < 2 ^ 256) := hr
            clear hr hc
            go_wp2_with fail
            refine (toNum_fun u4 _ (P.dg_Dg _) (dg_short XL.out) w3 S3.out).mono ?_
            rintro e w4 ⟨rfl, hb4⟩
            rw [P.dv_dg, Nat.mod_eq_of_lt HR.out.2]
            obtain ⟨r, hr⟩ : ∃ r, r = Nm.of ((beN cs : Nat) : Int) := ⟨_, rfl⟩
            rw [← hr]
            have HE : Hid (r = Nm.of ((beN cs : Nat) : Int)) := hr
            have B4 : Hid (Below w.heap.size w w4) := B3.out.trans (hb4.mono B3.out.size)
            have X4 : Hid (w4.heap[w.heap.size]? = _) := (hb4.block _ (Array.getElem?_eq_some_iff.1 X3.out).1).trans X3.out
            obtain ⟨y0, y1, y2, y3⟩ := num_frozen X4.out
            obtain ⟨j0, j1, j2, j3⟩ := num_cells X4.out
            clear hr hb4 B3 X3 S3
            go_wp2_with fail
            refine bodyPost_ret (v := .tuple #[N r, i64 0]) (by simp (maxDischargeDepth := 8) [results, Try.results48, go_sem, j0, j1, j2, j3]) rfl ⟨?_, ?_⟩
            · exact .inr ⟨beN cs, HR.out.1, by rw [HE.out]⟩
            · exact (((B4.out.setCell (Nat.le_refl _) _).setCell (Nat.le_refl _) _).setCell (Nat.le_refl _) _).setCell (Nat.le_refl _) _
          · rw [hc]
            have HR : Hid (readNumS cs = .inl 2) := hr
            obtain ⟨y0, y1, y2, y3⟩ := num_frozen X3.out
            obtain ⟨j0, j1, j2, j3⟩ := num_cells X3.out
            clear hr hc
            go_wp2_with fail
            refine bodyPost_ret (v := .tuple #[N ⟨0, 0, 0, 0⟩, i64 2]) (by simp (maxDischargeDepth := 8) [results, Try.results48, go_sem, j0, j1, j2, j3]) rfl ⟨?_, ?_⟩
            · exact .inl ⟨2, HR.out, rfl⟩
            · exact (((B3.out.setCell (Nat.le_refl _) _).setCell (Nat.le_refl _) _).setCell (Nat.le_refl _) _).setCell (Nat.le_refl _) _
  · have t2 : ¬ (t : Int) = 0 := by omega
    have t3 : ((t : Int) == 0) = false := beq_eq_false_iff_ne.2 t2
    clear p1 p2 t2 q
    by_cases n1 : n = 1
    · have s5 : ¬ (s.size : Int) > 1 := by omega
      clear g1
      go_enter Try.func48, Try.ntmps48
      go_wp2_with fail
      go_loopw [4, 5] (fun l i wr => ∃ (k : Nat), k ≤ n ∧ i = .int .i64 k ∧ Hid (Sl wr l (P.dg (beN (cs.take k)))) ∧ Hid (wr.heap[w.heap.size]? = some (.cells #[.int .u64 0, .int .u64 0, .int .u64 0, .int .u64 0] 24 (0, 0))) ∧ Hid (Below w.heap.size w wr)) (fun _ i _ => n - (intOf i).toNat)
      case atStart => exact ⟨0, by omega, rfl, .inl ⟨rfl, by rw [List.take_zero]; exact P.dg_zero⟩, heap_alloc_new w _, (Below.refl _ _).alloc (Nat.le_refl _) _⟩
      case round =>
        obtain ⟨k, hk, rfl, sl, xb, hb⟩ := hrel
        by_cases h1 : k < n
        · have i1 : (k : Int) < (s.size : Int) := by omega
          have y1 : k < s.size := by omega
          have k0 : (0 : Int) ≤ (k : Int) := by omega
          have ga := SG.out k
          have la := LO.out k
          have HT : Hid (beN (cs.take (k + 1)) = beN (cs.take k) * 256 + cs.getD k 0) := BS.out k h1
          have ZL : Hid (beN (cs.take k) < 256 ^ 33) := BL.out k (by omega)
          generalize beN (cs.take k) = Z at *
          generalize cs.getD k 0 = x at *
          have x0 : (0 : Int) ≤ (x : Int) := by omega
          have x2 : (x : Int) < 256 := by omega
          have TI : Hid _ := times_byte Z (Nat.lt_of_lt_of_le ZL.out (by decide))
          have PL : Hid _ := plus_byte (Z * 256) x (by rw [show (256 : Nat) ^ 34 = 256 ^ 33 * 256 from rfl]; exact Nat.mul_lt_mul_of_pos_right ZL.out (by decide)) la
          go_wp2_with fail
          refine wp_region_monoE [MP.sl (P.dg Z), MP.sl [256], MP.sl (P.dg (Z * 256)), MP.eq (.string s), MP.eq (.int .i64 (k : Int)), MP.eq (.int .u8 (x : Int)), MP.eq (.int .i64 (x : Int)), MP.sl [x], MP.sl (P.dg (Z * 256 + x)), MP.sl (P.dg (Z * 256 + x))] (by kernel_rfl) (by kernel_rfl) rfl ?_
          apply Exists.intro
          refine ⟨fun vals => ?_, ?_, fun vals4 w4 hb4 hF => ?_⟩
          · simp only [putsV, dstL, List.length_cons, List.length_nil, Nat.zero_add, Nat.reduceAdd, List.getElem?_cons_zero, List.getElem?_cons_succ, Option.bind_some, Act.put, List.setIfInBounds_toArray, List.set_cons_succ, List.set_cons_zero]
            rfl
          · refine ⟨?_, ?_, ?_, ?_, ?_, ?_, ?_, ?_, ?_, ?_, trivial⟩
            · intro vals W hW hw hd
              try simp [Region.binds] at hd
              refine ⟨by first | rfl | simp [Region.wanted, yielded, hd], ?_⟩
              have h9 : vals 9 = u4 := (hw.out 9 (by kernel_rfl)).trans rfl
              simp [go_sem, h9]
              exact ⟨Sl.up (xs := P.dg Z) sl.out hW.out, Below.refl _ _⟩
            · intro vals W hW hw hd
              try simp [Region.binds] at hd
              refine ⟨by first | rfl | simp [Region.wanted, yielded, hd], ?_⟩
              simp [go_sem]
              exact ⟨Sl.one W 256 _ rfl, (Below.refl _ _).alloc (Nat.le_refl _) _⟩
            · intro vals W hW hw hd
              try simp [Region.binds] at hd
              refine ⟨by first | rfl | simp [Region.wanted, yielded, hd], ?_⟩
              simp [go_sem]
              exact (TI.out _ _ _ (by simp [hd]) (by simp [hd])).mono fun e w' ⟨⟨v', he, hs⟩, hb⟩ => ⟨v', he, hs, hb⟩
            · intro vals W hW hw hd
              try simp [Region.binds] at hd
              refine ⟨by first | rfl | simp [Region.wanted, yielded, hd], ?_⟩
              simp [go_sem, hd]
              exact Below.refl _ _
            · intro vals W hW hw hd
              try simp [Region.binds] at hd
              refine ⟨by first | rfl | simp [Region.wanted, yielded, hd], ?_⟩
              simp [go_sem, hd]
              exact Below.refl _ _
            · intro vals W hW hw hd
              try simp [Region.binds] at hd
              refine ⟨by first | rfl | simp [Region.wanted, yielded, hd], ?_⟩
              simp [go_sem, hd, k0, i1, y1, ga]
              exact Below.refl _ _
            · intro vals W hW hw hd
              try simp [Region.binds] at hd
              refine ⟨by first | rfl | simp [Region.wanted, yielded, hd], ?_⟩
              simp [go_sem, hd]
              exact ⟨by rw [IntKind.wrap_i64]; omega, Below.refl _ _⟩
            · intro vals W hW hw hd
              try simp [Region.binds] at hd
              refine ⟨by first | rfl | simp [Region.wanted, yielded, hd], ?_⟩
              simp [go_sem, hd]
              exact ⟨Sl.one W x _ rfl, (Below.refl _ _).alloc (Nat.le_refl _) _⟩
            · intro vals W hW hw hd
              try simp [Region.binds] at hd
              refine ⟨by first | rfl | simp [Region.wanted, yielded, hd], ?_⟩
              simp [go_sem]
              exact (PL.out _ _ _ (by simp [hd]) (by simp [hd])).mono fun e w' ⟨⟨v', he, hs⟩, hb⟩ => ⟨v', he, hs, hb⟩
            · intro vals W hW hw hd
              try simp [Region.binds] at hd
              refine ⟨by first | rfl | simp [Region.wanted, yielded, hd], ?_⟩
              simp [go_sem]
              exact ⟨by simp [hd], Below.refl _ _⟩
          obtain ⟨f0, f1, f2, f3, f4, f5, f6, f7, f8, f9, _⟩ := hF
          simp only [MP.eq_p] at f3 f4 f5 f6
          simp only [MP.sl_p] at f9
          have S9 : Hid (Sl w4 (vals4 9) (P.dg (Z * 256 + x))) := f9
          rw [← HT.out] at S9
          have b4 : Hid (Below w.heap.size w w4) := hb.out.trans (hb4.out.mono hb.out.size)
          have x4 : Hid (w4.heap[w.heap.size]? = _) := (hb4.out.block _ (Array.getElem?_eq_some_iff.1 xb.out).1).trans xb.out
          clear f9 hb4 hb xb TI PL sl HT ZL ga
          go_wp2_with fail
          go_roundw
          case rel => exact ⟨k + 1, by omega, by go_num, S9, x4, b4⟩
          case measure => simp [intOf]; omega
        · have i1 : ¬ (k : Int) < (s.size : Int) := by omega
          have e : k = n := by omega
          subst e
          rw [TK.out] at sl
          go_wp2_with fail
          refine (twoTo_fun _).mono ?_
          rintro e w2 ⟨⟨v2, rfl, s2⟩, hb2⟩
          have S2 : Hid (Sl w2 v2 (P.dg (2 ^ 256))) := s2
          have S1 : Hid (Sl w2 u4 (P.dg (beN cs))) := Sl.up (xs := P.dg (beN cs)) sl.out hb2
          have B2 : Hid (Below w.heap.size w w2) := hb.out.trans (hb2.mono hb.out.size)
          have X2 : Hid (w2.heap[w.heap.size]? = _) := (hb2.block _ (Array.getElem?_eq_some_iff.1 xb.out).1).trans xb.out
          clear s2 hb2 sl hb xb
          go_wp2_with fail
          refine (order_fun u4 v2 _ _ (P.dg_Dg _) (P.dg_Dg _) (Nat.lt_trans (dg_short XL.out) (by decide)) (Nat.lt_trans (dg_short (by decide)) (by decide)) w2 S1.out S2.out).mono ?_
          rintro e w3 ⟨rfl, hb3⟩
          have S3 : Hid (Sl w3 u4 (P.dg (beN cs))) := Sl.up (xs := P.dg (beN cs)) S1.out hb3
          have B3 : Hid (Below w.heap.size w w3) := B2.out.trans (hb3.mono B2.out.size)
          have X3 : Hid (w3.heap[w.heap.size]? = _) := (hb3.block _ (Array.getElem?_eq_some_iff.1 X2.out).1).trans X2.out
          clear hb3 S1 S2 B2 X2
          rw [P.dv_dg, P.dv_dg]
          rcases CM.out with ⟨hc, hr⟩ | ⟨c, hc, c0, hr⟩
          · rw [hc]
            have HR : Hid (readNumS cs = .inr (beN cs) ∧ beN cs < 2 ^ 256) := hr
            clear hr hc
            go_wp2_with fail
            refine (toNum_fun u4 _ (P.dg_Dg _) (dg_short XL.out) w3 S3.out).mono ?_
            rintro e w4 ⟨rfl, hb4⟩
            rw [P.dv_dg, Nat.mod_eq_of_lt HR.out.2]
            obtain ⟨r, hr⟩ : ∃ r, r = Nm.of ((beN cs : Nat) : Int) := ⟨_, rfl⟩
            rw [← hr]
            have HE : Hid (r = Nm.of ((beN cs : Nat) : Int)) := hr
            have B4 : Hid (Below w.heap.size w w4) := B3.out.trans (hb4.mono B3.out.size)
            have X4 : Hid (w4.heap[w.heap.size]? = _) := (hb4.block _ (Array.getElem?_eq_some_iff.1 X3.out).1).trans X3.out
            obtain ⟨y0, y1, y2, y3⟩ := num_frozen X4.out
            obtain ⟨j0, j1, j2, j3⟩ := num_cells X4.out
            clear hr hb4 B3 X3 S3
            go_wp2_with fail
            refine bodyPost_ret (v := .tuple #[N r, i64 0]) (by simp (maxDischargeDepth := 8) [results, Try.results48, go_sem, j0, j1, j2, j3]) rfl ⟨?_, ?_⟩
            · exact .inr ⟨beN cs, HR.out.1, by rw [HE.out]⟩
            · exact (((B4.out.setCell (Nat.le_refl _) _).setCell (Nat.le_refl _) _).setCell (Nat.le_refl _) _).setCell (Nat.le_refl _) _
          · rw [hc]
            have HR : Hid (readNumS cs = .inl 2) := hr
            obtain ⟨y0, y1, y2, y3⟩ := num_frozen X3.out
            obtain ⟨j0, j1, j2, j3⟩ := num_cells X3.out
            clear hr hc
            go_wp2_with fail
            refine bodyPost_ret (v := .tuple #[N ⟨0, 0, 0, 0⟩, i64 2]) (by simp (maxDischargeDepth := 8) [results, Try.results48, go_sem, j0, j1, j2, j3]) rfl ⟨?_, ?_⟩
            · exact .inl ⟨2, HR.out, rfl⟩
            · exact (((B3.out.setCell (Nat.le_refl _) _).setCell (Nat.le_refl _) _).setCell (Nat.le_refl _) _).setCell (Nat.le_refl _) _
    · have s2 : 1 < s.size := by omega
      have s3 : (1 : Int) < (s.size : Int) := by omega
      go_enter Try.func48, Try.ntmps48
      go_wp2_with fail
      go_loopw [4, 5] (fun l i wr => ∃ (k : Nat), k ≤ n ∧ i = .int .i64 k ∧ Hid (Sl wr l (P.dg (beN (cs.take k)))) ∧ Hid (wr.heap[w.heap.size]? = some (.cells #[.int .u64 0, .int .u64 0, .int .u64 0, .int .u64 0] 24 (0, 0))) ∧ Hid (Below w.heap.size w wr)) (fun _ i _ => n - (intOf i).toNat)
      case atStart => exact ⟨0, by omega, rfl, .inl ⟨rfl, by rw [List.take_zero]; exact P.dg_zero⟩, heap_alloc_new w _, (Below.refl _ _).alloc (Nat.le_refl _) _⟩
      case round =>
        obtain ⟨k, hk, rfl, sl, xb, hb⟩ := hrel
        by_cases h1 : k < n
        · have i1 : (k : Int) < (s.size : Int) := by omega
          have y1 : k < s.size := by omega
          have k0 : (0 : Int) ≤ (k : Int) := by omega
          have ga := SG.out k
          have la := LO.out k
          have HT : Hid (beN (cs.take (k + 1)) = beN (cs.take k) * 256 + cs.getD k 0) := BS.out k h1
          have ZL : Hid (beN (cs.take k) < 256 ^ 33) := BL.out k (by omega)
          generalize beN (cs.take k) = Z at *
          generalize cs.getD k 0 = x at *
          have x0 : (0 : Int) ≤ (x : Int) := by omega
          have x2 : (x : Int) < 256 := by omega
          have TI : Hid _ := times_byte Z (Nat.lt_of_lt_of_le ZL.out (by decide))
          have PL : Hid _ := plus_byte (Z * 256) x (by rw [show (256 : Nat) ^ 34 = 256 ^ 33 * 256 from rfl]; exact Nat.mul_lt_mul_of_pos_right ZL.out (by decide)) la
          go_wp2_with fail
          refine wp_region_monoE [MP.sl (P.dg Z), MP.sl [256], MP.sl (P.dg (Z * 256)), MP.eq (.string s), MP.eq (.int .i64 (k : Int)), MP.eq (.int .u8 (x : Int)), MP.eq (.int .i64 (x : Int)), MP.sl [x], MP.sl (P.dg (Z * 256 + x)), MP.sl (P.dg (Z * 256 + x))] (by kernel_rfl) (by kernel_rfl) rfl ?_
          apply Exists.intro
          refine ⟨fun vals => ?_, ?_, fun vals4 w4 hb4 hF => ?_⟩
          · simp only [putsV, dstL, List.length_cons, List.length_nil, Nat.zero_add, Nat.reduceAdd, List.getElem?_cons_zero, List.getElem?_cons_succ, Option.bind_some, Act.put, List.setIfInBounds_toArray, List.set_cons_succ, List.set_cons_zero]
            rfl
          · refine ⟨?_, ?_, ?_, ?_, ?_, ?_, ?_, ?_, ?_, ?_, trivial⟩
            · intro vals W hW hw hd
              try simp [Region.binds] at hd
              refine ⟨by first | rfl | simp [Region.wanted, yielded, hd], ?_⟩
              have h9 : vals 9 = u4 := (hw.out 9 (by kernel_rfl)).trans rfl
              simp [go_sem, h9]
              exact ⟨Sl.up (xs := P.dg Z) sl.out hW.out, Below.refl _ _⟩
            · intro vals W hW hw hd
              try simp [Region.binds] at hd
              refine ⟨by first | rfl | simp [Region.wanted, yielded, hd], ?_⟩
              simp [go_sem]
              exact ⟨Sl.one W 256 _ rfl, (Below.refl _ _).alloc (Nat.le_refl _) _⟩
            · intro vals W hW hw hd
              try simp [Region.binds] at hd
              refine ⟨by first | rfl | simp [Region.wanted, yielded, hd], ?_⟩
              simp [go_sem]
              exact (TI.out _ _ _ (by simp [hd]) (by simp [hd])).mono fun e w' ⟨⟨v', he, hs⟩, hb⟩ => ⟨v', he, hs, hb⟩
            · intro vals W hW hw hd
              try simp [Region.binds] at hd
              refine ⟨by first | rfl | simp [Region.wanted, yielded, hd], ?_⟩
              simp [go_sem, hd]
              exact Below.refl _ _
            · intro vals W hW hw hd
              try simp [Region.binds] at hd
              refine ⟨by first | rfl | simp [Region.wanted, yielded, hd], ?_⟩
              simp [go_sem, hd]
              exact Below.refl _ _
            · intro vals W hW hw hd
              try simp [Region.binds] at hd
              refine ⟨by first | rfl | simp [Region.wanted, yielded, hd], ?_⟩
              simp [go_sem, hd, k0, i1, y1, ga]
              exact Below.refl _ _
            · intro vals W hW hw hd
              try simp [Region.binds] at hd
              refine ⟨by first | rfl | simp [Region.wanted, yielded, hd], ?_⟩
              simp [go_sem, hd]
              exact ⟨by rw [IntKind.wrap_i64]; omega, Below.refl _ _⟩
            · intro vals W hW hw hd
              try simp [Region.binds] at hd
              refine ⟨by first | rfl | simp [Region.wanted, yielded, hd], ?_⟩
              simp [go_sem, hd]
              exact ⟨Sl.one W x _ rfl, (Below.refl _ _).alloc (Nat.le_refl _) _⟩
            · intro vals W hW hw hd
              try simp [Region.binds] at hd
              refine ⟨by first | rfl | simp [Region.wanted, yielded, hd], ?_⟩
              simp [go_sem]
              exact (PL.out _ _ _ (by simp [hd]) (by simp [hd])).mono fun e w' ⟨⟨v', he, hs⟩, hb⟩ => ⟨v', he, hs, hb⟩
            · intro vals W hW hw hd
              try simp [Region.binds] at hd
              refine ⟨by first | rfl | simp [Region.wanted, yielded, hd], ?_⟩
              simp [go_sem]
              exact ⟨by simp [hd], Below.refl _ _⟩
          obtain ⟨f0, f1, f2, f3, f4, f5, f6, f7, f8, f9, _⟩ := hF
          simp only [MP.eq_p] at f3 f4 f5 f6
          simp only [MP.sl_p] at f9
          have S9 : Hid (Sl w4 (vals4 9) (P.dg (Z * 256 + x))) := f9
          rw [← HT.out] at S9
          have b4 : Hid (Below w.heap.size w w4) := hb.out.trans (hb4.out.mono hb.out.size)
          have x4 : Hid (w4.heap[w.heap.size]? = _) := (hb4.out.block _ (Array.getElem?_eq_some_iff.1 xb.out).1).trans xb.out
          clear f9 hb4 hb xb TI PL sl HT ZL ga
          go_wp2_with fail
          go_roundw
          case rel => exact ⟨k + 1, by omega, by go_num, S9, x4, b4⟩
          case measure => simp [intOf]; omega
        · have i1 : ¬ (k : Int) < (s.size : Int) := by omega
          have e : k = n := by omega
          subst e
          rw [TK.out] at sl
          go_wp2_with fail
          refine (twoTo_fun _).mono ?_
          rintro e w2 ⟨⟨v2, rfl, s2⟩, hb2⟩
          have S2 : Hid (Sl w2 v2 (P.dg (2 ^ 256))) := s2
          have S1 : Hid (Sl w2 u4 (P.dg (beN cs))) := Sl.up (xs := P.dg (beN cs)) sl.out hb2
          have B2 : Hid (Below w.heap.size w w2) := hb.out.trans (hb2.mono hb.out.size)
          have X2 : Hid (w2.heap[w.heap.size]? = _) := (hb2.block _ (Array.getElem?_eq_some_iff.1 xb.out).1).trans xb.out
          clear s2 hb2 sl hb xb
          go_wp2_with fail
          refine (order_fun u4 v2 _ _ (P.dg_Dg _) (P.dg_Dg _) (Nat.lt_trans (dg_short XL.out) (by decide)) (Nat.lt_trans (dg_short (by decide)) (by decide)) w2 S1.out S2.out).mono ?_
          rintro e w3 ⟨rfl, hb3⟩
          have S3 : Hid (Sl w3 u4 (P.dg (beN cs))) := Sl.up (xs := P.dg (beN cs)) S1.out hb3
          have B3 : Hid (Below w.heap.size w w3) := B2.out.trans (hb3.mono B2.out.size)
          have X3 : Hid (w3.heap[w.heap.size]? = _) := (hb3.block _ (Array.getElem?_eq_some_iff.1 X2.out).1).trans X2.out
          clear hb3 S1 S2 B2 X2
          rw [P.dv_dg, P.dv_dg]
          rcases CM.out with ⟨hc, hr⟩ | ⟨c, hc, c0, hr⟩
          · rw [hc]
            have HR : Hid (readNumS cs = .inr (beN cs) ∧ beN cs < 2 ^ 256) := hr
            clear hr hc
            go_wp2_with fail
            refine (toNum_fun u4 _ (P.dg_Dg _) (dg_short XL.out) w3 S3.out).mono ?_
            rintro e w4 ⟨rfl, hb4⟩
            rw [P.dv_dg, Nat.mod_eq_of_lt HR.out.2]
            obtain ⟨r, hr⟩ : ∃ r, r = Nm.of ((beN cs : Nat) : Int) := ⟨_, rfl⟩
            rw [← hr]
            have HE : Hid (r = Nm.of ((beN cs : Nat) : Int)) := hr
            have B4 : Hid (Below w.heap.size w w4) := B3.out.trans (hb4.mono B3.out.size)
            have X4 : Hid (w4.heap[w.heap.size]? = _) := (hb4.block _ (Array.getElem?_eq_some_iff.1 X3.out).1).trans X3.out
            obtain ⟨y0, y1, y2, y3⟩ := num_frozen X4.out
            obtain ⟨j0, j1, j2, j3⟩ := num_cells X4.out
            clear hr hb4 B3 X3 S3
            go_wp2_with fail
            refine bodyPost_ret (v := .tuple #[N r, i64 0]) (by simp (maxDischargeDepth := 8) [results, Try.results48, go_sem, j0, j1, j2, j3]) rfl ⟨?_, ?_⟩
            · exact .inr ⟨beN cs, HR.out.1, by rw [HE.out]⟩
            · exact (((B4.out.setCell (Nat.le_refl _) _).setCell (Nat.le_refl _) _).setCell (Nat.le_refl _) _).setCell (Nat.le_refl _) _
          · rw [hc]
            have HR : Hid (readNumS cs = .inl 2) := hr
            obtain ⟨y0, y1, y2, y3⟩ := num_frozen X3.out
            obtain ⟨j0, j1, j2, j3⟩ := num_cells X3.out
            clear hr hc
            go_wp2_with fail
            refine bodyPost_ret (v := .tuple #[N ⟨0, 0, 0, 0⟩, i64 2]) (by simp (maxDischargeDepth := 8) [results, Try.results48, go_sem, j0, j1, j2, j3]) rfl ⟨?_, ?_⟩
            · exact .inl ⟨2, HR.out, rfl⟩
            · exact (((B3.out.setCell (Nat.le_refl _) _).setCell (Nat.le_refl _) _).setCell (Nat.le_refl _) _).setCell (Nat.le_refl _) _
/-- sealringref.ReadNumber: the number; or what is wrong. -/
theorem rReadNumber_fun (cs : List Nat) (low : ∀ x ∈ cs, x < 256) (w : World) :
    Calls Try.prog 48 #[.string (sOf cs)] w fun e w' => NumIs cs e ∧ Below w.heap.size w w' := by
  by_cases h0 : cs.length = 0
  · obtain rfl : cs = [] := List.length_eq_zero_iff.1 h0
    exact rReadNumber_none w
  · by_cases p1 : 128 ≤ cs.getD 0 0
    · exact rReadNumber_high cs low (by omega) p1 w
    · by_cases p3 : cs.getD 0 0 = 0 ∧ 2 ≤ cs.length ∧ cs.getD 1 0 < 128
      · exact rReadNumber_form cs low p3.2.1 p3.1 p3.2.2 w
      · by_cases h : 34 ≤ cs.length
        · exact rReadNumber_long cs low h (by omega) (by omega) w
        · exact rReadNumber_reads cs low (by omega) (by omega) (by omega) (by omega) w
end Go.Proofs.Ytkgfeacednomfaa
