import Derived.Test.YtfanndkhajokcaaDoorGrp22
import Derived.Test.YtfanndkhajokcaaDoorGrp32
import Derived.Test.YtfanndkhajokcaaDoorDDig
import Derived.Test.YtfanndkhajokcaaDoorUpMS
/- Numbers that are drawn below one; the contract of sealringref.DrawnBelow. -/
namespace Go.Proofs.YtfanndkhajokcaaDoor
open Go.RowKit
set_option linter.unusedSimpArgs false
attribute [local go_sem] YieldsP execOp
attribute [local simp] MP.eq_p MP.sl_p MP.sl2_p
/-- A number of bytes, the least first. -/
def leN : List Nat → Nat
  | [] => 0
  | x :: xs => x + 256 * leN xs
theorem leN_lt : ∀ (xs : List Nat), (∀ x ∈ xs, x < 256) → leN xs < 256 ^ xs.length
  | [], _ => by simp [leN]
  | x :: xs, h => by
    have h1 := leN_lt xs (fun y hy => h y (by simp [hy]))
    have h2 := h x (by simp)
    rw [leN, List.length_cons, Nat.pow_succ]
    omega
theorem leN_drop {xs : List Nat} {i : Nat} (h : i < xs.length) : leN (xs.drop i) = leN (xs.drop (i + 1)) * 256 + xs.getD i 0 := by
  rw [List.drop_eq_getElem_cons h, leN, List.getD_eq_getElem?_getD, List.getElem?_eq_getElem h, Option.getD_some]
  omega
/-- So many bits are needed below M. -/
def BL (M n : Nat) : Prop := M ≤ 2 ^ n ∧ ∀ j, j < n → 2 ^ j < M
theorem BL.only {M n k : Nat} (h : BL M n) (h1 : ∀ j, j < k → 2 ^ j < M) (h2 : ¬ 2 ^ k < M) : k = n := by
  rcases Nat.lt_trichotomy k n with g | g | g
  · exact absurd (h.2 k g) h2
  · exact g
  · have := h1 n g
    have := h.1
    omega
theorem BL.le {M n : Nat} (h : BL M n) (hM : M ≤ 2 ^ 256) : n ≤ 256 := by
  apply Classical.byContradiction
  intro hn
  have := h.2 256 (by omega)
  omega
/-- What the bytes of one try are. -/
def tryS (seed : List Nat) (pl n t : Nat) : Nat := leN (drawS seed ((pl + 32 * t) % 18446744073709551616) 32) % 2 ^ n
/-- Which try it is. -/
def belS (seed : List Nat) (pl n M : Nat) : Option Nat := (List.range 100).find? fun t => decide (tryS seed pl n t < M)
theorem belS_some {seed : List Nat} {pl n M t : Nat} (ht : t < 100) (h1 : ∀ j, j < t → ¬ tryS seed pl n j < M) (h2 : tryS seed pl n t < M) : belS seed pl n M = some t := by
  rw [belS, List.find?_range_eq_some]
  refine ⟨by simpa using h2, by simpa using ht, fun j hj => ?_⟩
  simpa using h1 j hj
theorem belS_none {seed : List Nat} {pl n M : Nat} (h1 : ∀ j, j < 100 → ¬ tryS seed pl n j < M) : belS seed pl n M = none := by
  rw [belS, List.find?_eq_none]
  intro j hj
  simpa using h1 j (List.mem_range.1 hj)
def nC (x : Nm) : List Value := [.int .u64 x.a, .int .u64 x.b, .int .u64 x.c, .int .u64 x.d]
theorem info_num : (Tryd.prog.info? 28).map (·.size) = some 4 := by kernel_rfl
theorem u_num : Tryd.prog.underlying 28 = some (.array 4 26) := by kernel_rfl
theorem one_nC (x : Nm) : ∀ v ∈ nC x, v.oneCell' = true := by
  intro v hv
  simp only [nC, List.mem_cons, List.not_mem_nil, or_false] at hv
  rcases hv with rfl | rfl | rfl | rfl <;> rfl
theorem results_cell3 {P : Program} {fn : Func} {tmps : Array Value} {s s2 s3 : Tmp} {t : TypeId} {b : Nat} {cs : List Value} {d : TypeDesc} {W : World} {v v3 : Value} (hr : fn.results = #[.cell s t, .tmp s2, .tmp s3]) (ht : tmps[s]?.getD undef = .pointer (some ⟨b, 0, none⟩)) (ht2 : tmps[s2]?.getD undef = v) (ht3 : tmps[s3]?.getD undef = v3) (hc : W.rangeAt b 0 cs)
    (hu : P.underlying t = some d) (hd : d.isRow = true) (hi : (P.info? t).map (·.size) = some cs.length) : (results fn tmps).run P W = .ok (.tuple #[.agg cs.toArray, v, v3]) W := by
  have h1 := run_loadVar_mid (P := P) W b 0 t cs d hc hu hd hi
  simp [results, hr, ht, ht2, ht3, asAddr, h1]
theorem dgs {n : Nat} (h : n < 256 ^ 34) : (P.dg n).length < 1048576 := Nat.lt_of_le_of_lt (P.dg_len 17 (Nat.lt_of_lt_of_le h (by decide))) (by decide)
theorem times_b (Z : Nat) (h : Z < 256 ^ 34) (u v : Value) (w : World) (su : Sl w u (P.dg Z)) (sv : Sl w v [256]) :
    Calls Tryd.prog 30 #[u, v] w fun e w' => (∃ v', e = .returned v' ∧ Sl w' v' (P.dg (Z * 256))) ∧ Below w.heap.size w w' := by
  have := dtimes_fun u v _ _ (P.dg_Dg Z) (P.Dg.one (show 256 < 65536 by decide)) (Nat.lt_trans (dgs h) (by decide)) (by decide) w su sv
  rwa [P.dv_dg, show P.dv [256] = 256 from rfl] at this
theorem plus_b (Z x : Nat) (h : Z < 256 ^ 34) (hx : x < 256) (u v : Value) (w : World) (su : Sl w u (P.dg Z)) (sv : Sl w v [x]) :
    Calls Tryd.prog 29 #[u, v] w fun e w' => (∃ v', e = .returned v' ∧ Sl w' v' (P.dg (Z + x))) ∧ Below w.heap.size w w' := by
  have := dplus_fun u v _ _ (P.dg_Dg Z) (P.Dg.one (show x < 65536 by omega)) (Nat.lt_trans (dgs h) (by decide)) (by simp) w su sv
  rwa [P.dv_dg, show P.dv [x] = x by simp [P.dv]] at this
theorem cmpN_lt {X Y : Nat} : cmpN X Y < 0 ↔ X < Y := by
  unfold cmpN
  split
  · simp [*]
  · split <;> simp <;> omega
/-- What is answered. -/
def belV (seed : List Nat) (pl n : Nat) : Option Nat → Value
  | some t => .tuple #[N (Nm.of ((tryS seed pl n t : Nat) : Int)), .int .i64 (32 * ((t : Int) + 1)), .int .i64 0]
  | none => .tuple #[N ⟨0, 0, 0, 0⟩, .int .i64 3200, .int .i64 6]
theorem dg_ne {M : Nat} (h : 0 < M) : (P.dg M).length ≠ 0 := by
  rw [P.dg_pos (by omega)]
  simp
set_option maxRecDepth 20000 in
set_option maxHeartbeats 4000000 in
theorem rbelow_fun (seed : List Nat) (ls : ∀ x ∈ seed, x < 256) (zs : seed.length ≤ 500000000000000) (pl : Nat) (x : Nm) (hx : x.ok) (M n : Nat) (hM : x.nat = M) (h0 : 0 < M) (h256 : M < 2 ^ 256) (hn : BL M n) (w : World) (hT : RTab w) :
    Calls Tryd.prog 10 #[.string (sOf seed), .int .u64 (pl : Int), N x] w fun e w' => e = .returned (belV seed pl n (belS seed pl n M)) ∧ Below w.heap.size w w' := by
  have DR : Hid (∀ t w, RTab w → Calls Tryd.prog 14 #[.string (sOf seed), .int .u64 (((pl + 32 * t) % 18446744073709551616 : Nat) : Int), .int .i64 32] w fun e w' => e = .returned (.string (sOf (drawS seed ((pl + 32 * t) % 18446744073709551616) 32))) ∧ Below w.heap.size w w') := fun t w hT => rdrawn_fun seed ls zs _ (Nat.mod_lt _ (by decide)) 32 (by decide) w hT
  have TU : Hid (∀ w', Below w.heap.size w w' → RTab w') := fun w' hb => hT.up hb hT.pos
  have HN : Hid (BL M n) := hn
  have n256 := hn.le (Nat.le_of_lt h256)
  have s256 : M < 65536 ^ 64 := Nat.lt_trans h256 (by decide)
  have OF : Hid (∀ w, Calls Tryd.prog 26 #[N x] w fun e w' => (∃ v', e = .returned v' ∧ Sl w' v' (P.dg M)) ∧ Below w.heap.size w w') := fun w => by
    have := ofNum_fun x hx w
    rw [hM] at this
    exact this
  have two : ∀ k, k ≤ 256 → 2 ^ k < 65536 ^ 64 := fun k hk => Nat.lt_of_le_of_lt (Nat.pow_le_pow_right (n := 2) (by decide) hk) (by decide)
  have TW : Hid (∀ k, k ≤ 256 → ∀ w, Calls Tryd.prog 28 #[.int .i64 ((k : Nat) : Int)] w fun e w' => (∃ v', e = .returned v' ∧ Sl w' v' (P.dg (2 ^ k))) ∧ Below w.heap.size w w') := fun k hk w => twoTo_n k (by omega) w
  have OR : Hid (∀ X, X < 65536 ^ 64 → ∀ u v w, Sl w u (P.dg X) → Sl w v (P.dg M) → Calls Tryd.prog 27 #[u, v] w fun e w' => e = .returned (.int .i64 (cmpN X M)) ∧ Below w.heap.size w w') := fun X hX u v w hu hv => order_n X M hX s256 u v w hu hv
  have TWO : Hid (∀ k, k ≤ 256 → 2 ^ k < 65536 ^ 64) := two
  have RS : Hid (∀ X, X < 65536 ^ 64 → ∀ u v w, Sl w u (P.dg X) → Sl w v (P.dg (2 ^ n)) → Calls Tryd.prog 31 #[u, v] w fun e w' => (∃ v', e = .returned v' ∧ Sl w' v' (P.dg (X % 2 ^ n))) ∧ Below w.heap.size w w') := fun X hX u v w hu hv => rest_n X (2 ^ n) hX (Nat.two_pow_pos n) (two n n256) u v w hu hv
  obtain ⟨x0, x1, x2⟩ := al2 w #[Value.int IntKind.u64 x.a, Value.int IntKind.u64 x.b, Value.int IntKind.u64 x.c, Value.int IntKind.u64 x.d] #[Value.int IntKind.u64 0, Value.int IntKind.u64 0, Value.int IntKind.u64 0, Value.int IntKind.u64 0] 28 28
  have X0 : Hid (Blk _ _ (nC x)) := x0
  have X1 : Hid (Blk _ _ (nC ⟨0, 0, 0, 0⟩)) := x1
  have X2 : Hid (Below _ _ _) := x2
  have IX : Hid _ := info_num.trans (congrArg some (show 4 = (nC x).length by simp [nC]))
  have LM := dg_ne h0
  have H256 : Hid (M < 2 ^ 256) := h256
  have N256 : Hid (n ≤ 256) := n256
  clear hT ls zs x0 x1 x2 hx hM hn s256 two n256 h256
  generalize hus : sOf seed = us at *
  clear hus
  go_enter Tryd.func10, Tryd.ntmps10
  go_wp2_with (refine wpList_load_mid rfl 28 (.tmp 5) rfl w.heap.size 0 rfl (nC x) _ X0.out.all u_num rfl IX.out ?_)
  generalize (w.alloc (Obj.cells #[Value.int IntKind.u64 x.a, Value.int IntKind.u64 x.b, Value.int IntKind.u64 x.c, Value.int IntKind.u64 x.d] 28)).alloc (Obj.cells #[Value.int IntKind.u64 0, Value.int IntKind.u64 0, Value.int IntKind.u64 0, Value.int IntKind.u64 0] 28) = w1 at *
  refine (OF.out w1).mono ?_
  rintro e w2 ⟨⟨v2, rfl, s2⟩, hb2⟩
  obtain ⟨a2, c2, e2⟩ := Sl.parts s2
  subst e2
  have S2 : Hid (Sl w2 (.slice a2 (P.dg M).length c2) (P.dg M)) := s2
  have D2 : Hid (Below w.heap.size w w2) := X2.out.trans (hb2.mono X2.out.size)
  have Y2 : Hid (Blk w2 (w.heap.size + 1) (nC ⟨0, 0, 0, 0⟩)) := X1.out.up hb2 X1.out.lt
  have l0 : ¬ ((P.dg M).length : Int) = 0 := by omega
  clear s2 hb2 X0 X1 X2 OF IX LM
  generalize hlm : (P.dg M).length = lm at *
  clear hlm
  have l0b : ((lm : Int) == 0) = false := by simpa using l0
  go_wp2_with fail
  go_loopw [10] (fun i wr => ∃ k : Nat, k ≤ 256 ∧ i = .int .i64 (k : Int) ∧ Hid (∀ j, j < k → 2 ^ j < M) ∧ Hid (Sl wr (.slice a2 lm c2) (P.dg M)) ∧ Hid (Blk wr (w.heap.size + 1) (nC ⟨0, 0, 0, 0⟩)) ∧ Hid (Below w.heap.size w wr)) (fun i _ => 257 - (intOf i).toNat)
  case atStart => exact ⟨0, by omega, rfl, (fun j hj => absurd hj (Nat.not_lt_zero _)), S2, Y2, D2⟩
  case round =>
    clear S2 Y2 D2
    obtain ⟨k, hk, rfl, lo, sl, y0, hb⟩ := hrel
    go_wp2_with fail
    refine (TW.out k hk wr).mono ?_
    rintro e w3 ⟨⟨v3, rfl, s3⟩, hb3⟩
    have S3 : Hid (Sl w3 v3 (P.dg (2 ^ k))) := s3
    have L3 : Hid (Sl w3 (.slice a2 lm c2) (P.dg M)) := Sl.up (xs := P.dg M) sl.out hb3
    have D3 : Hid (Below w.heap.size w w3) := hb.out.trans (hb3.mono hb.out.size)
    have Y3 : Hid (Blk w3 (w.heap.size + 1) (nC ⟨0, 0, 0, 0⟩)) := y0.out.up hb3 y0.out.lt
    clear s3 hb3 sl hb y0
    go_wp2_with fail
    refine (OR.out _ (TWO.out k hk) _ _ w3 S3.out L3.out).mono ?_
    rintro e w4 ⟨rfl, hb4⟩
    have L4 : Hid (Sl w4 (.slice a2 lm c2) (P.dg M)) := Sl.up (xs := P.dg M) L3.out hb4
    have D4 : Hid (Below w.heap.size w w4) := D3.out.trans (hb4.mono D3.out.size)
    have Y4 : Hid (Blk w4 (w.heap.size + 1) (nC ⟨0, 0, 0, 0⟩)) := Y3.out.up hb4 Y3.out.lt
    clear hb4 S3 L3 D3 Y3
    by_cases hlt : 2 ^ k < M
    · have c0 : cmpN (2 ^ k) M < 0 := cmpN_lt.2 hlt
      have k1 : k < 256 := by
        apply Classical.byContradiction
        intro h
        obtain rfl : k = 256 := by omega
        have := H256.out
        omega
      have LO : Hid (∀ j, j < k + 1 → 2 ^ j < M) := fun j hj => by
        rcases Nat.lt_or_ge j k with h | h
        · exact lo.out j h
        · obtain rfl : j = k := by omega
          exact hlt
      generalize cmpN (2 ^ k) M = cc at *
      clear hlt lo
      go_wp2_with fail
      go_roundw
      case rel => exact ⟨k + 1, by omega, by go_num, LO, L4, Y4, D4⟩
      case measure => simp [intOf]; omega
    · have c0 : ¬ cmpN (2 ^ k) M < 0 := fun h => hlt (cmpN_lt.1 h)
      obtain rfl : k = n := HN.out.only lo.out hlt
      generalize cmpN (2 ^ k) M = cc at *
      clear hlt lo hk
      go_wp2_with fail
      go_loopw [28] (fun i wr => ∃ t : Nat, t ≤ 100 ∧ i = .int .i64 (t : Int) ∧ Hid (∀ j, j < t → ¬ tryS seed pl k j < M) ∧ Hid (Sl wr (.slice a2 lm c2) (P.dg M)) ∧ Hid (Blk wr (w.heap.size + 1) (nC ⟨0, 0, 0, 0⟩)) ∧ Hid (Below w.heap.size w wr)) (fun i _ => 100 - (intOf i).toNat)
      case atStart => exact ⟨0, by omega, rfl, (fun j hj => absurd hj (Nat.not_lt_zero _)), L4, Y4, D4⟩
      case round =>
        clear L4 Y4 D4
        obtain ⟨t, ht, rfl, no, sl, y0, hb⟩ := hrel
        by_cases h100 : t < 100
        · have i1 : (t : Int) < 100 := by omega
          obtain ⟨A, hA⟩ : ∃ A, A = (pl + 32 * t) % 18446744073709551616 := ⟨_, rfl⟩
          have DT : Hid _ := DR.out t wr (TU.out _ hb.out)
          have TR : Hid (tryS seed pl k t = leN (drawS seed A 32) % 2 ^ k) := by rw [hA]; exact rfl
          rw [← hA] at DT
          have wA : IntKind.u64.wrap ((pl : Int) + 32 * (t : Int)) = (A : Int) := by rw [IntKind.wrap_u64]; omega
          have w32 : IntKind.u64.wrap (32 * (t : Int)) = 32 * (t : Int) := by rw [IntKind.wrap_u64]; omega
          have LD : Hid _ := drawS_low seed A 32
          have LL : Hid _ := drawS_length seed A 32
          have HT : Hid (t < 100) := h100
          clear hA h100 ht
          generalize drawS seed A 32 = bs at *
          generalize hss : sOf bs = ss at *
          have SG : Hid (∀ j (h : j < ss.size), (ss[j]'h).toNat = bs.getD j 0) := by
            subst hss
            exact fun j h => sOf_get LD.out j h
          have sz : ss.size = 32 := by rw [← hss, sOf_size, LL.out]
          clear hss
          go_wp2_with fail
          refine Calls.mono DT.out ?_
          rintro e w5 ⟨rfl, hb5⟩
          have L5 : Hid (Sl w5 (.slice a2 lm c2) (P.dg M)) := Sl.up (xs := P.dg M) sl.out hb5
          have D5 : Hid (Below w.heap.size w w5) := hb.out.trans (hb5.mono hb.out.size)
          have Y5 : Hid (Blk w5 (w.heap.size + 1) (nC ⟨0, 0, 0, 0⟩)) := y0.out.up hb5 y0.out.lt
          clear hb5 sl hb y0 DT
          go_wp2_with fail
          go_loopw [13, 14] (fun l i wr => ∃ K : Nat, K ≤ 32 ∧ i = .int .i64 ((K : Int) - 1) ∧ Hid (Sl wr l (P.dg (leN (bs.drop K)))) ∧ Hid (Sl wr (.slice a2 lm c2) (P.dg M)) ∧ Hid (Blk wr (w.heap.size + 1) (nC ⟨0, 0, 0, 0⟩)) ∧ Hid (Below w.heap.size w wr)) (fun _ i _ => (intOf i + 1).toNat)
          case atStart => exact ⟨32, by omega, rfl, .inl ⟨rfl, by rw [List.drop_of_length_le (by rw [LL.out]; exact Nat.le_refl _)]; exact P.dg_zero⟩, L5, Y5, D5⟩
          case round =>
            clear L5 Y5 D5
            obtain ⟨K, hK, rfl, sx, sl, y0, hb⟩ := hrel
            cases K with
            | zero =>
              rw [List.drop_zero] at sx
              have XL : Hid (leN bs < 65536 ^ 64) := Nat.lt_of_lt_of_le (leN_lt bs LD.out) (by rw [LL.out]; decide)
              have XM : Hid (leN bs % 2 ^ k < 2 ^ 256) := Nat.lt_of_lt_of_le (Nat.mod_lt _ (Nat.two_pow_pos k)) (Nat.pow_le_pow_right (by decide) N256.out)
              generalize leN bs = X at *
              clear hK SG
              go_wp2_with fail
              refine (TW.out k N256.out wr).mono ?_
              rintro e w6 ⟨⟨v6, rfl, s6⟩, hb6⟩
              have S6 : Hid (Sl w6 v6 (P.dg (2 ^ k))) := s6
              have Q6 : Hid (Sl w6 u13 (P.dg X)) := Sl.up (xs := P.dg X) sx.out hb6
              have L6 : Hid (Sl w6 (.slice a2 lm c2) (P.dg M)) := Sl.up (xs := P.dg M) sl.out hb6
              have D6 : Hid (Below w.heap.size w w6) := hb.out.trans (hb6.mono hb.out.size)
              have Y6 : Hid (Blk w6 (w.heap.size + 1) (nC ⟨0, 0, 0, 0⟩)) := y0.out.up hb6 y0.out.lt
              clear s6 hb6 sx sl hb y0
              go_wp2_with fail
              refine (RS.out X XL.out _ _ w6 Q6.out S6.out).mono ?_
              rintro e w7 ⟨⟨v7, rfl, s7⟩, hb7⟩
              have S7 : Hid (Sl w7 v7 (P.dg (X % 2 ^ k))) := s7
              have L7 : Hid (Sl w7 (.slice a2 lm c2) (P.dg M)) := Sl.up (xs := P.dg M) L6.out hb7
              have D7 : Hid (Below w.heap.size w w7) := D6.out.trans (hb7.mono D6.out.size)
              have Y7 : Hid (Blk w7 (w.heap.size + 1) (nC ⟨0, 0, 0, 0⟩)) := Y6.out.up hb7 Y6.out.lt
              clear s7 hb7 S6 Q6 L6 D6 Y6 XL
              rw [← TR.out] at S7 XM
              generalize hZ : tryS seed pl k t = Z at *
              have HZ : Hid (tryS seed pl k t = Z) := hZ
              clear hZ TR
              have zs : Z < 65536 ^ 64 := Nat.lt_trans XM.out (by decide)
              have OZ : Hid _ := OR.out Z zs
              clear zs
              go_wp2_with fail
              refine (OZ.out _ _ w7 S7.out L7.out).mono ?_
              rintro e w8 ⟨rfl, hb8⟩
              have S8 : Hid (Sl w8 v7 (P.dg Z)) := Sl.up (xs := P.dg Z) S7.out hb8
              have L8 : Hid (Sl w8 (.slice a2 lm c2) (P.dg M)) := Sl.up (xs := P.dg M) L7.out hb8
              have D8 : Hid (Below w.heap.size w w8) := D7.out.trans (hb8.mono D7.out.size)
              have Y8 : Hid (Blk w8 (w.heap.size + 1) (nC ⟨0, 0, 0, 0⟩)) := Y7.out.up hb8 Y7.out.lt
              clear hb8 S7 L7 D7 Y7 OZ
              by_cases hzm : Z < M
              · have c0 : cmpN Z M < 0 := cmpN_lt.2 hzm
                have BS : Hid (belS seed pl k M = some t) := belS_some HT.out no.out (by rw [HZ.out]; exact hzm)
                have TN : Hid _ := toNum_of Z XM.out v7 w8 S8.out
                have BV : Hid (belV seed pl k (some t) = .tuple #[.agg (nC (Nm.of (Z : Int))).toArray, .int .i64 (32 * ((t : Int) + 1)), .int .i64 0]) := by
                  rw [← HZ.out]
                  exact rfl
                generalize cmpN Z M = cc' at *
                generalize Nm.of (Z : Int) = r at *
                have w1 : IntKind.i64.wrap ((t : Int) + 1) = (t : Int) + 1 := by have := HT.out; rw [IntKind.wrap_i64]; omega
                have w2 : IntKind.i64.wrap (32 * ((t : Int) + 1)) = 32 * ((t : Int) + 1) := by have := HT.out; rw [IntKind.wrap_i64]; omega
                clear hzm no HZ
                go_wp2_with fail
                refine Calls.mono TN.out ?_
                rintro e w9 ⟨rfl, hb9⟩
                have D9 : Hid (Below w.heap.size w w9) := D8.out.trans (hb9.mono D8.out.size)
                have Y9 : Hid (Blk w9 (w.heap.size + 1) (nC ⟨0, 0, 0, 0⟩)) := Y8.out.up hb9 Y8.out.lt
                clear hb9 D8 Y8 TN
                have T9 : Hid (w9.there (w.heap.size + 1) 0 (nC r).length) := Y9.out.there (by simp [nC])
                have I9 : Hid _ := info_num.trans (congrArg some (show 4 = (nC r).length by simp [nC]))
                go_wp2_with (refine wp_store_eq rfl 28 (.tmp 6) (.tmp 60) rfl (w.heap.size + 1) 0 (nC r) rfl rfl T9.out I9.out (one_nC _) ?_)
                intro wz hwz
                go_wp2_with fail
                refine bodyPost_ret (v := .tuple #[.agg (nC r).toArray, .int .i64 (32 * ((t : Int) + 1)), .int .i64 0]) ?_ rfl ⟨by rw [BS.out, BV.out], ?_⟩
                · rw [hwz.out]
                  exact results_cell3 (b := w.heap.size + 1) rfl rfl rfl rfl (World.rangeAt_setCells_same _ _ _ _ T9.out) u_num rfl I9.out
                · rw [hwz.out]
                  exact below_setCells _ _ _ D9.out (by omega)
              · have c0 : ¬ cmpN Z M < 0 := fun h => hzm (cmpN_lt.1 h)
                have NO : Hid (∀ j, j < t + 1 → ¬ tryS seed pl k j < M) := fun j hj => by
                  rcases Nat.lt_or_ge j t with h | h
                  · exact no.out j h
                  · obtain rfl : j = t := by omega
                    rw [HZ.out]
                    exact hzm
                generalize cmpN Z M = cc' at *
                clear hzm no HZ
                go_wp2_with fail
                go_roundw
                case rel =>
                  have := HT.out
                  exact ⟨t + 1, by omega, by go_num, NO, L8, Y8, D8⟩
                case measure =>
                  have := HT.out
                  simp [intOf]
                  omega
            | succ K =>
              have e1 : ((K + 1 : Nat) : Int) - 1 = (K : Int) := by omega
              rw [e1]
              have HD : Hid (leN (bs.drop K) = leN (bs.drop (K + 1)) * 256 + bs.getD K 0) := leN_drop (by rw [LL.out]; omega)
              have ZL : Hid (leN (bs.drop (K + 1)) < 256 ^ 33) := Nat.lt_of_lt_of_le (leN_lt _ (fun x hx => LD.out x (List.mem_of_mem_drop hx))) (Nat.pow_le_pow_right (by decide) (by rw [List.length_drop, LL.out]; omega))
              have i1' : (K : Int) < (ss.size : Int) := by omega
              have y1 : K < ss.size := by omega
              have k0 : (0 : Int) ≤ (K : Int) := by omega
              have ga := SG.out K
              have la : bs.getD K 0 < 256 := by
                have hl : K < bs.length := by rw [LL.out]; omega
                rw [List.getD_eq_getElem?_getD, List.getElem?_eq_getElem hl]
                exact LD.out _ (List.getElem_mem hl)
              generalize leN (bs.drop (K + 1)) = Z at *
              generalize bs.getD K 0 = x at *
              have x0' : (0 : Int) ≤ (x : Int) := by omega
              have x2' : (x : Int) < 256 := by omega
              have TI : Hid _ := times_b Z (Nat.lt_of_lt_of_le ZL.out (by decide))
              have PL : Hid _ := plus_b (Z * 256) x (by rw [show (256 : Nat) ^ 34 = 256 ^ 33 * 256 from rfl]; exact Nat.mul_lt_mul_of_pos_right ZL.out (by decide)) la
              have HK : Hid (K + 1 ≤ 32) := hK
              have wk : IntKind.i64.wrap ((K : Int) - 1) = (K : Int) - 1 := by rw [IntKind.wrap_i64]; omega
              clear hK e1
              go_wp2_with fail
              refine wp_region_monoE [MP.sl (P.dg Z), MP.sl [256], MP.sl (P.dg (Z * 256)), MP.eq (.string ss), MP.eq (.int .i64 (K : Int)), MP.eq (.int .u8 (x : Int)), MP.eq (.int .i64 (x : Int)), MP.sl [x], MP.sl (P.dg (Z * 256 + x)), MP.sl (P.dg (Z * 256 + x))] (by kernel_rfl) (by kernel_rfl) rfl ?_
              apply Exists.intro
              refine ⟨fun vals => ?_, ?_, fun vals4 w4 hb4 hF => ?_⟩
              · simp only [putsV, dstL, List.length_cons, List.length_nil, Nat.zero_add, Nat.reduceAdd, List.getElem?_cons_zero, List.getElem?_cons_succ, Option.bind_some, Act.put, List.setIfInBounds_toArray, List.set_cons_succ, List.set_cons_zero]
                rfl
              · refine ⟨?_, ?_, ?_, ?_, ?_, ?_, ?_, ?_, ?_, ?_, trivial⟩
                · intro vals W hW hw hd
                  try simp [Region.binds] at hd
                  refine ⟨by first | rfl | simp [Region.wanted, yielded, hd], ?_⟩
                  have h9 : vals 9 = u13 := (hw.out 9 (by kernel_rfl)).trans rfl
                  simp [go_sem, h9]
                  exact ⟨Sl.up (xs := P.dg Z) sx.out hW.out, Below.refl _ _⟩
                · intro vals W hW hw hd
                  try simp [Region.binds] at hd
                  refine ⟨by first | rfl | simp [Region.wanted, yielded, hd], ?_⟩
                  simp [go_sem]
                  exact ⟨Sl.one W 256 _ rfl, (Below.refl _ _).alloc (Nat.le_refl _) _⟩
                · intro vals W hW hw hd
                  try simp [Region.binds] at hd
                  refine ⟨by first | rfl | simp [Region.wanted, yielded, hd], ?_⟩
                  simp [go_sem]
                  exact (TI.out _ _ _ (by simp [hd]) (by simp [hd])).mono fun e w' ⟨⟨v', he, hs⟩, hb⟩ => ⟨v', he, hs, hb⟩
                · intro vals W hW hw hd
                  try simp [Region.binds] at hd
                  refine ⟨by first | rfl | simp [Region.wanted, yielded, hd], ?_⟩
                  simp [go_sem, hd]
                  exact Below.refl _ _
                · intro vals W hW hw hd
                  try simp [Region.binds] at hd
                  refine ⟨by first | rfl | simp [Region.wanted, yielded, hd], ?_⟩
                  simp [go_sem, hd]
                  exact Below.refl _ _
                · intro vals W hW hw hd
                  try simp [Region.binds] at hd
                  refine ⟨by first | rfl | simp [Region.wanted, yielded, hd], ?_⟩
                  simp [go_sem, hd, k0, i1', y1, ga]
                  exact Below.refl _ _
                · intro vals W hW hw hd
                  try simp [Region.binds] at hd
                  refine ⟨by first | rfl | simp [Region.wanted, yielded, hd], ?_⟩
                  simp [go_sem, hd]
                  exact ⟨by rw [IntKind.wrap_i64]; omega, Below.refl _ _⟩
                · intro vals W hW hw hd
                  try simp [Region.binds] at hd
                  refine ⟨by first | rfl | simp [Region.wanted, yielded, hd], ?_⟩
                  simp [go_sem, hd]
                  exact ⟨Sl.one W x _ rfl, (Below.refl _ _).alloc (Nat.le_refl _) _⟩
                · intro vals W hW hw hd
                  try simp [Region.binds] at hd
                  refine ⟨by first | rfl | simp [Region.wanted, yielded, hd], ?_⟩
                  simp [go_sem]
                  exact (PL.out _ _ _ (by simp [hd]) (by simp [hd])).mono fun e w' ⟨⟨v', he, hs⟩, hb⟩ => ⟨v', he, hs, hb⟩
                · intro vals W hW hw hd
                  try simp [Region.binds] at hd
                  refine ⟨by first | rfl | simp [Region.wanted, yielded, hd], ?_⟩
                  simp [go_sem]
                  exact ⟨by simp [hd], Below.refl _ _⟩
              obtain ⟨f0, f1, f2, f3, f4, f5, f6, f7, f8, f9, _⟩ := hF
              simp only [MP.eq_p] at f3 f4 f5 f6
              simp only [MP.sl_p] at f9
              have S9 : Hid (Sl w4 (vals4 9) (P.dg (Z * 256 + x))) := f9
              rw [← HD.out] at S9
              have b4 : Hid (Below w.heap.size w w4) := hb.out.trans (hb4.out.mono hb.out.size)
              have l4 : Hid (Sl w4 (.slice a2 lm c2) (P.dg M)) := Sl.up (xs := P.dg M) sl.out hb4.out
              have y4 : Hid (Blk w4 (w.heap.size + 1) (nC ⟨0, 0, 0, 0⟩)) := y0.out.up hb4.out y0.out.lt
              clear f9 hb4 hb TI PL sl sx HD ZL ga y0
              go_wp2_with fail
              go_roundw
              case rel =>
                have := HK.out
                exact ⟨K, by omega, by first | rfl | go_num, S9, l4, y4, b4⟩
              case measure => simp [intOf]
        · obtain rfl : t = 100 := by omega
          have BN : Hid (belS seed pl k M = none) := belS_none no.out
          have T5 : Hid (wr.there (w.heap.size + 1) 0 (nC ⟨0, 0, 0, 0⟩).length) := y0.out.there (by simp [nC])
          have I5 : Hid _ := info_num.trans (congrArg some (show 4 = (nC ⟨0, 0, 0, 0⟩).length by simp [nC]))
          clear no ht h100 sl
          go_wp2_with (refine wp_store_eq rfl 28 (.tmp 6) (.tmp 65) rfl (w.heap.size + 1) 0 (nC ⟨0, 0, 0, 0⟩) rfl rfl T5.out I5.out (one_nC _) ?_)
          intro w5 hw5
          go_wp2_with fail
          refine bodyPost_ret (v := belV seed pl k none) ?_ rfl ⟨by rw [BN.out], ?_⟩
          · rw [hw5.out]
            exact results_cell3 (b := w.heap.size + 1) rfl rfl rfl rfl (World.rangeAt_setCells_same _ _ _ _ T5.out) u_num rfl I5.out
          · rw [hw5.out]
            exact below_setCells _ _ _ hb.out (by omega)
set_option maxRecDepth 20000 in
set_option maxHeartbeats 1000000 in
theorem rbelow_zero (us : ByteArray) (pl : Int) (w : World) :
    Calls Tryd.prog 10 #[.string us, .int .u64 pl, N ⟨0, 0, 0, 0⟩] w fun e w' => e = .returned (.tuple #[N ⟨0, 0, 0, 0⟩, .int .i64 0, .int .i64 1]) ∧ Below w.heap.size w w' := by
  have OF : Hid (∀ w, Calls Tryd.prog 26 #[N ⟨0, 0, 0, 0⟩] w fun e w' => (∃ v', e = .returned v' ∧ Sl w' v' (P.dg 0)) ∧ Below w.heap.size w w') := fun w => by
    have := ofNum_fun ⟨0, 0, 0, 0⟩ (by constructor <;> constructor <;> decide) w
    rw [show Nm.nat ⟨0, 0, 0, 0⟩ = 0 from rfl] at this
    exact this
  obtain ⟨x0, x1, x2⟩ := al2 w #[Value.int IntKind.u64 0, Value.int IntKind.u64 0, Value.int IntKind.u64 0, Value.int IntKind.u64 0] #[Value.int IntKind.u64 0, Value.int IntKind.u64 0, Value.int IntKind.u64 0, Value.int IntKind.u64 0] 28 28
  have X0 : Hid (Blk _ _ (nC ⟨0, 0, 0, 0⟩)) := x0
  have X1 : Hid (Blk _ _ (nC ⟨0, 0, 0, 0⟩)) := x1
  have X2 : Hid (Below _ _ _) := x2
  have IX : Hid _ := info_num.trans (congrArg some (show 4 = (nC ⟨0, 0, 0, 0⟩).length by simp [nC]))
  clear x0 x1 x2
  go_enter Tryd.func10, Tryd.ntmps10
  go_wp2_with (refine wpList_load_mid rfl 28 (.tmp 5) rfl w.heap.size 0 rfl (nC ⟨0, 0, 0, 0⟩) _ X0.out.all u_num rfl IX.out ?_)
  generalize (w.alloc (Obj.cells #[Value.int IntKind.u64 0, Value.int IntKind.u64 0, Value.int IntKind.u64 0, Value.int IntKind.u64 0] 28)).alloc (Obj.cells #[Value.int IntKind.u64 0, Value.int IntKind.u64 0, Value.int IntKind.u64 0, Value.int IntKind.u64 0] 28) = w1 at *
  refine (OF.out w1).mono ?_
  rintro e w2 ⟨⟨v2, rfl, s2⟩, hb2⟩
  rw [P.dg_zero] at s2
  obtain ⟨a2, c2, e2⟩ := Sl.parts s2
  subst e2
  have D2 : Hid (Below w.heap.size w w2) := X2.out.trans (hb2.mono X2.out.size)
  have Y2 : Hid (Blk w2 (w.heap.size + 1) (nC ⟨0, 0, 0, 0⟩)) := X1.out.up hb2 X1.out.lt
  clear s2 hb2 X0 X1 X2 OF
  have T5 : Hid (w2.there (w.heap.size + 1) 0 (nC ⟨0, 0, 0, 0⟩).length) := Y2.out.there (by simp [nC])
  simp only [List.length_nil]
  go_wp2_with (refine wp_store_eq rfl 28 (.tmp 6) (.tmp 20) rfl (w.heap.size + 1) 0 (nC ⟨0, 0, 0, 0⟩) rfl rfl T5.out IX.out (one_nC _) ?_)
  intro w5 hw5
  go_wp2_with fail
  refine bodyPost_ret (v := .tuple #[N ⟨0, 0, 0, 0⟩, .int .i64 0, .int .i64 1]) ?_ rfl ⟨rfl, ?_⟩
  · rw [hw5.out]
    exact results_cell3 (b := w.heap.size + 1) (cs := nC ⟨0, 0, 0, 0⟩) rfl rfl rfl rfl (World.rangeAt_setCells_same _ _ _ _ T5.out) u_num rfl IX.out
  · rw [hw5.out]
    exact below_setCells _ _ _ D2.out (by omega)
end Go.Proofs.YtfanndkhajokcaaDoor
