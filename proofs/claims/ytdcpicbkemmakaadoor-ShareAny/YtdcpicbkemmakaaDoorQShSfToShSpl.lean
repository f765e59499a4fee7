/- Texts that were joined: ShSf, EqP, ShSpl. -/
import Derived.Test.YtdcpicbkemmakaaDoorQShZToShSw
import Derived.Test.YtdcpicbkemmakaaDoorQShNsToShPi
import Derived.Test.YtdcpicbkemmakaaDoorQEqToOf
import Derived.Laws.StructEq
import Derived.Test.YtdcpicbkemmakaaDoorQBKToHB
/- The document's shares of a secret, by numbers. -/
namespace Go.Proofs.YtdcpicbkemmakaaDoor
open Go.RowKit
attribute [local go_sem] World.cell?_alloc_some cell_alloc2 cell_alloc3 cell_alloc4 frozen?_alloc_cells frozen_out
set_option linter.unusedSimpArgs false
set_option maxHeartbeats 1000000 in
theorem shares_arg (s : Nm) (k n : Int) (t : Value) (h : k < 1 ∨ n < k ∨ 20 < n) (w : World) : Calls Tryd.prog 8 #[N s, .int .i64 k, .int .i64 n, t] w fun e w' => e = .returned (.tuple #[.slice none 0 0, .int .i64 1]) ∧ Below w.heap.size w w' := by
  by_cases h1 : k < 1
  · clear h
    go_enter Tryd.func8, Tryd.ntmps8
    have s0 : Hid (Kn (kal4 w (s)) [(w.heap.size, (c4 (s)))]) := ((Kn.nil w).al (c4 (s)) 24 rfl)
    have b0 : Hid (Below w.heap.size w (kal4 w (s))) := ((Below.refl _ _).alloc (Nat.le_refl _) _)
    go_wp2_with fail
    refine bodyPost_ret (v := .tuple #[.slice none 0 0, .int .i64 1]) (by simp [results, Tryd.results8, go_sem]) rfl ⟨rfl, b0.out⟩
  by_cases h2 : n < k
  · clear h
    go_enter Tryd.func8, Tryd.ntmps8
    have s0 : Hid (Kn (kal4 w (s)) [(w.heap.size, (c4 (s)))]) := ((Kn.nil w).al (c4 (s)) 24 rfl)
    have b0 : Hid (Below w.heap.size w (kal4 w (s))) := ((Below.refl _ _).alloc (Nat.le_refl _) _)
    go_wp2_with fail
    refine bodyPost_ret (v := .tuple #[.slice none 0 0, .int .i64 1]) (by simp [results, Tryd.results8, go_sem]) rfl ⟨rfl, b0.out⟩
  have h3 : n > 20 := by omega
  clear h
  go_enter Tryd.func8, Tryd.ntmps8
  have s0 : Hid (Kn (kal4 w (s)) [(w.heap.size, (c4 (s)))]) := ((Kn.nil w).al (c4 (s)) 24 rfl)
  have b0 : Hid (Below w.heap.size w (kal4 w (s))) := ((Below.refl _ _).alloc (Nat.le_refl _) _)
  go_wp2_with fail
  refine bodyPost_ret (v := .tuple #[.slice none 0 0, .int .i64 1]) (by simp [results, Tryd.results8, go_sem]) rfl ⟨rfl, b0.out⟩
set_option maxHeartbeats 1000000 in
theorem shares_large (s : Nm) (k n : Int) (h1 : ¬ k < 1) (h2 : ¬ n < k) (h3 : ¬ n > 20) (t : Value) (S O : Nat) (q : Int) (hq : q ≥ 0) (w : World)
    (ONs : ∀ W, Calls Tryd.prog 28 #[N s] W fun e w' => (∃ v', e = .returned v' ∧ Sl w' v' (P.dg S)) ∧ Below W.heap.size W w')
    (PR : ∀ W, Calls Tryd.prog 29 #[] W fun e w' => (∃ v', e = .returned v' ∧ Sl w' v' (P.dg O)) ∧ Below W.heap.size W w')
    (OR : ∀ u v W, Sl W u (P.dg S) → Sl W v (P.dg O) → Calls Tryd.prog 27 #[u, v] W fun e w' => e = .returned (.int .i64 q) ∧ Below W.heap.size W w') :
    Calls Tryd.prog 8 #[N s, .int .i64 k, .int .i64 n, t] w fun e w' => e = .returned (.tuple #[.slice none 0 0, .int .i64 1]) ∧ Below w.heap.size w w' := by
  go_enter Tryd.func8, Tryd.ntmps8
  have s0 : Hid (Kn (kal4 w (s)) [(w.heap.size, (c4 (s)))]) := ((Kn.nil w).al (c4 (s)) 24 rfl)
  have b0 : Hid (Below w.heap.size w (kal4 w (s))) := ((Below.refl _ _).alloc (Nat.le_refl _) _)
  have usecret_0 : (kal4 w (s)).cell? ⟨w.heap.size, 0, none⟩ = some (.int .u64 (s).a) := Kn.get s0.out 0 0 rfl rfl
  have usecret_1 : (kal4 w (s)).cell? ⟨w.heap.size, 1, none⟩ = some (.int .u64 (s).b) := Kn.get s0.out 0 1 rfl rfl
  have usecret_2 : (kal4 w (s)).cell? ⟨w.heap.size, 2, none⟩ = some (.int .u64 (s).c) := Kn.get s0.out 0 2 rfl rfl
  have usecret_3 : (kal4 w (s)).cell? ⟨w.heap.size, 3, none⟩ = some (.int .u64 (s).d) := Kn.get s0.out 0 3 rfl rfl
  go_wp2_with fail
  clear usecret_0 usecret_1 usecret_2 usecret_3
  refine (ONs _).mono ?_
  rintro e w1 ⟨⟨v1, rfl, h1'⟩, hb1⟩
  have b1 : Hid (Below w.heap.size w w1) := b0.out.trans (hb1.mono b0.out.size)
  have H1 : Hid (Sl w1 v1 (P.dg S)) := h1'
  clear h1' hb1 s0 b0
  go_wp2_with fail
  refine (PR _).mono ?_
  rintro e w2 ⟨⟨v2, rfl, h2'⟩, hb2⟩
  have b2 : Hid (Below w.heap.size w w2) := b1.out.trans (hb2.mono b1.out.size)
  have H2 : Hid (Sl w2 v1 (P.dg S)) := Sl.up (xs := P.dg S) H1.out hb2
  have G2 : Hid (Sl w2 v2 (P.dg O)) := h2'
  clear h2' hb2 b1 H1
  go_wp2_with fail
  refine (OR _ _ _ H2.out G2.out).mono ?_
  rintro e w3 ⟨rfl, hb3⟩
  have b3 : Hid (Below w.heap.size w w3) := b2.out.trans (hb3.mono b2.out.size)
  clear hb3 b2 H2 G2
  go_wp2_with fail
  refine bodyPost_ret (v := .tuple #[.slice none 0 0, .int .i64 1]) (by simp [results, Tryd.results8, go_sem]) rfl ⟨rfl, b3.out⟩
theorem drawnF (seed : List Nat) (m : Nat) : belV seed (cfP seed m) 253 (belS seed (cfP seed m) 253 Cv.ord) = .tuple #[N (nm (cfN seed m)), .int .i64 (stF seed m : Int), .int .i64 (erF seed m : Int)] := by
  unfold cfN stF erF cfT
  cases hb : belS seed (cfP seed m) 253 Cv.ord with
  | some t =>
    show Value.tuple #[_, .int .i64 (32 * ((t : Int) + 1)), _] = .tuple #[_, .int .i64 ((32 * (t + 1) : Nat) : Int), _]
    rw [show (32 * ((t : Int) + 1)) = ((32 * (t + 1) : Nat) : Int) by omega]
    rfl
  | none =>
    simp only []
    rw [nm_nought]
    rfl
theorem pow_20 {x j : Nat} (hx : x ≤ 20) (hj : j ≤ 20) : x ^ j ≤ 20 ^ 20 := Nat.le_trans (Nat.pow_le_pow_left hx j) (Nat.pow_le_pow_right (by decide) hj)
theorem times_x (Z x : Nat) (h : Z < 65536 ^ 64) (hx : x < 65536) (u v : Value) (w : World) (su : Sl w u (P.dg Z)) (sv : Sl w v [x]) :
    Calls Tryd.prog 33 #[u, v] w fun e w' => (∃ v', e = .returned v' ∧ Sl w' v' (P.dg (Z * x))) ∧ Below w.heap.size w w' := by
  have := dtimes_fun u v _ _ (P.dg_Dg Z) (P.Dg.one hx) (Nat.lt_trans (dshort h) (by decide)) (by simp) w su sv
  rwa [P.dv_dg, show P.dv [x] = x by simp [P.dv]] at this
theorem big21 : Cv.ord * 21 ^ 20 < 65536 ^ 64 ∧ 20 ^ 20 < 65536 ^ 64 ∧ Cv.ord * 20 ^ 20 < 65536 ^ 64 := by decide
theorem o_253 : Cv.ord < 2 ^ 256 ∧ 0 < Cv.ord ∧ Cv.ord < 65536 ^ 64 := by decide
/-- Split's fault and shares, out of what the drawings gave. -/
theorem resS_spl {S : Nat} (hS : S < Cv.ord) {k n : Nat} (hk : 1 ≤ k) (hn : k ≤ n) (h20 : n ≤ 20) (seed : List Nat) {L : List Shr} {r : Int} (h : ResS k n (erF seed) (fun x => nm (pvN (cfs S seed k) x % Cv.ord)) L r) : r = ((splE S k n seed : Nat) : Int) ∧ L = splL S k n seed := by
  have e0 : ¬ ((k : Int) < 1 ∨ (n : Int) < (k : Int) ∨ 20 < (n : Int) ∨ Cv.ord ≤ S) := by omega
  have ek : ((k : Nat) : Int).toNat = k := Int.toNat_natCast k
  have en : ((n : Nat) : Int).toNat = n := Int.toNat_natCast n
  unfold splL splE
  rw [if_neg e0, ek, en]
  rcases h with ⟨h1, h2, h3⟩ | ⟨m, h1, h2, -, h3, h4⟩
  · have ha : ¬ (List.range (k - 1)).any (fun m => (cfT seed m).isNone) = true := fun h => by
      obtain ⟨m, hm, he⟩ := (any_none seed k).1 h
      exact he (h1 m hm)
    rw [if_neg ha, if_pos rfl, h2, h3]
    exact ⟨rfl, rfl⟩
  · have ha : (List.range (k - 1)).any (fun m => (cfT seed m).isNone) = true := (any_none seed k).2 ⟨m, h1, h2⟩
    rw [if_pos ha, if_neg (by decide), h3, h4, erF_six seed m h2]
    exact ⟨rfl, rfl⟩
theorem shares_fun (x : Nm) (ox : x.ok) (k n : Int) (seed : List Nat) (ls : ∀ y ∈ seed, y < 256) (zs : seed.length ≤ 500000000000000) (w : World) (hT : RTab w) :
    Calls Tryd.prog 8 #[N x, .int .i64 k, .int .i64 n, .string (sOf seed)] w fun e w' => (∃ v', e = .returned (.tuple #[v', .int .i64 ((splE x.nat k n seed : Nat) : Int)]) ∧ Oh w' w.heap.size v' (splL x.nat k n seed)) ∧ Below w.heap.size w w' := by
  by_cases h1 : k < 1 ∨ n < k ∨ 20 < n
  · have e : splE x.nat k n seed = 1 := if_pos (by omega)
    have e2 : splL x.nat k n seed = [] := if_neg (by rw [e]; decide)
    rw [e, e2]
    exact (shares_arg x k n _ h1 w).mono fun e w' ⟨he, hb⟩ => ⟨⟨_, he, Oh.nil _ _⟩, hb⟩
  by_cases h2 : Cv.ord ≤ x.nat
  · have e : splE x.nat k n seed = 1 := if_pos (by omega)
    have e2 : splL x.nat k n seed = [] := if_neg (by rw [e]; decide)
    rw [e, e2]
    refine (shares_large x k n (by omega) (by omega) (by omega) _ x.nat Cv.ord (cmpN x.nat Cv.ord) ?_ w (fun W => ofNum_fun x ox W) prime_fun (fun u v W su sv => order_n _ _ (Nat.lt_trans (Nm.nat_lt ox) (by decide)) o_253.2.2 u v W su sv)).mono fun e w' ⟨he, hb⟩ => ⟨⟨_, he, Oh.nil _ _⟩, hb⟩
    unfold cmpN
    rw [if_neg (by omega)]
    split <;> decide
  have hS : x.nat < Cv.ord := Nat.lt_of_not_le h2
  obtain ⟨K, rfl⟩ : ∃ K : Nat, k = (K : Int) := ⟨k.toNat, by omega⟩
  obtain ⟨M, rfl⟩ : ∃ M : Nat, n = (M : Int) := ⟨n.toNat, by omega⟩
  have k1 : 1 ≤ K := by omega
  have kn : K ≤ M := by omega
  have n20 : M ≤ 20 := by omega
  have cr := cfs_range x.nat seed k1
  have cl : (cfs x.nat seed K).length = K := by rw [cr, List.length_map, List.length_range]
  have clt : ∀ a ∈ cfs x.nat seed K, a < Cv.ord := fun a ha => by
    rw [cr] at ha
    obtain ⟨j, _, rfl⟩ := List.mem_map.1 ha
    exact nsF_lt hS seed j
  have cd : ∀ j, j < K → (cfs x.nat seed K).getD j 0 = nsF x.nat seed j := fun j hj => by rw [cr]; simp [hj]
  have al : ∀ X j, X ≤ 20 → pvN ((cfs x.nat seed K).take j) X < 65536 ^ 64 := fun X j hX => by
    have h := pvN_lt hX ((cfs x.nat seed K).take j) fun a ha => clt a (List.mem_of_mem_take ha)
    have hl : ((cfs x.nat seed K).take j).length ≤ 20 := by rw [List.length_take]; omega
    exact Nat.lt_of_le_of_lt (Nat.le_trans h (Nat.mul_le_mul_left _ (Nat.pow_le_pow_right (by decide) hl))) big21.1
  have nl : ∀ j, nsF x.nat seed j < 65536 ^ 64 := fun j => Nat.lt_trans (nsF_lt hS seed j) o_253.2.2
  have pl : ∀ X j, X ≤ 20 → j < K → X ^ j < 65536 ^ 64 := fun X j hX hj => Nat.lt_of_le_of_lt (pow_20 hX (by omega)) big21.2.1
  refine (shares_walk K M Cv.ord k1 kn n20 (sOf seed) x (nm Cv.ord) (cmpN x.nat Cv.ord) ?_ (fun m => nm (cfN seed m)) (fun X => nm (pvN (cfs x.nat seed K) X % Cv.ord)) (stF seed) (erF seed) (cfP seed) (nsF x.nat seed)
    (fun X => pvN (cfs x.nat seed K) X % Cv.ord) (fun X j => pvN ((cfs x.nat seed K).take j) X) (fun X j => X ^ j) (fun X j => nsF x.nat seed j * X ^ j) w
    rfl (stepF seed) (stF_lt seed) (fun X => rfl) (fun X => Nat.pow_zero X) ?_ (fun W => by rw [nsF_zero]; exact ofNum_own x ox W) ?_ prime_fun ?_ ?_ ?_ ?_ ?_ ?_ ?_).mono ?_
  · unfold cmpN
    rw [if_pos hS]
    decide
  · intro m W hW
    have := rbelow_fun seed ls zs (cfP seed m) (nm Cv.ord) (nm_ok _) Cv.ord 253 (nm_nat o_253.1) o_253.2.1 o_253.1 bl_ord W (hT.up hW hT.pos)
    rwa [drawnF] at this
  · intro m W
    have := ofNum_own (nm (cfN seed m)) (nm_ok _) W
    rw [nm_nat (Nat.lt_trans (cfN_lt seed m) o_253.1)] at this
    rw [nsF_succ]
    exact this
  · intro u v W su sv
    rw [nsF_zero] at su
    exact order_n _ _ (Nat.lt_trans (Nm.nat_lt ox) (by decide)) o_253.2.2 u v W su sv
  · intro u W su
    exact toNum_of Cv.ord o_253.1 u W su
  · intro X j hX hj u v W su sv
    exact times_n _ _ (nl j) (pl X j (by omega) hj) u v W su sv
  · intro X j hX hj u v W su sv
    have hm : nsF x.nat seed j * X ^ j < 65536 ^ 64 := Nat.lt_of_le_of_lt (Nat.mul_le_mul (Nat.le_of_lt (nsF_lt hS seed j)) (pow_20 (show X ≤ 20 by omega) (by omega))) big21.2.2
    have := plus_n _ _ (al X j (by omega)) hm u v W su sv
    rwa [← cd j hj, ← pvN_take _ j X (by omega)] at this
  · intro X j hX hj u v W su sv
    have := times_x (X ^ j) X (pl X j (by omega) hj) (by omega) u v W su sv
    rwa [← Nat.pow_succ] at this
  · intro X hX u v W su sv
    have e : (cfs x.nat seed K).take K = cfs x.nat seed K := List.take_of_length_le (by omega)
    have ha := al X K (by omega)
    simp only [e] at su ha
    exact rest_n _ Cv.ord ha o_253.2.1 o_253.2.2 u v W su sv
  · intro X u W su
    exact toNum_of _ (Nat.lt_trans (Nat.mod_lt _ o_253.2.1) o_253.1) u W su
  · rintro e w' ⟨⟨v', L, r, he, ho, hr⟩, hb⟩
    obtain ⟨e1, e2⟩ := resS_spl hS k1 kn n20 seed hr
    rw [← e1, ← e2]
    exact ⟨⟨v', he, ho⟩, hb⟩
end Go.Proofs.YtdcpicbkemmakaaDoor

/- '==' and '!=' of two points. -/
namespace Go.Proofs.YtdcpicbkemmakaaDoor
open Go.RowKit
theorem part_num (xs : Array Value) (off : Nat) (w : World) : (part 24 xs off).run Tryd.prog w = .ok (.agg (xs.extract off (off + 4))) w := by
  have hs : (Tryd.prog.info? 24).map (·.size) = some 4 := by kernel_rfl
  cases hq : Tryd.prog.info? 24 with
  | none => simp [hq] at hs
  | some i =>
    have hi : i.size = 4 := by simpa [hq] using hs
    simp [part, isAgg, run_underlying Tryd.underlying24, sizeOf, typeInfo, hq, hi]
set_option maxRecDepth 100000 in
theorem equalIn_num (x y : Nm) (w : World) : (Op.equalIn 9999 24 (N x) (N y)).run Tryd.prog w = .ok (Nm.beq x y) w := by
  have h := run_equalIn_array (P := Tryd.prog) (t := 24) (e := 22) w 9998 #[Value.int .u64 x.a, .int .u64 x.b, .int .u64 x.c, .int .u64 x.d] #[Value.int .u64 y.a, .int .u64 y.b, .int .u64 y.c, .int .u64 y.d] Tryd.underlying24 rfl
  rw [show Tryd.prog.cellsOf 22 = 1 by kernel_rfl, run_eqItems_intsN 9997 (k := .u64) Tryd.underlying22 (by kernel_rfl) x.get y.get _ _ w _ (fun j hj => x.get_N j (List.mem_range.1 hj)) (fun j hj => y.get_N j (List.mem_range.1 hj))] at h
  rw [h]
  simp [List.range_succ, Nm.get, Nm.beq]
end Go.Proofs.YtdcpicbkemmakaaDoor

/- ShareSplits, out of what package share must keep of Split. -/
namespace Go.Proofs.YtdcpicbkemmakaaDoor
open Go.RowKit
attribute [local go_sem] World.cell?_alloc_some cell_alloc2 cell_alloc3 cell_alloc4 frozen?_alloc_cells frozen_out
set_option linter.unusedSimpArgs false
theorem share_fields : (Tryd.prog.fieldsOf 38).toList.map (fun f => (f.name, f.type, f.offset)) = [("X", 3, 0), ("Y", 24, 1)] := by kernel_rfl
theorem part_int (xs : Array Value) (off : Nat) (v : Value) (h : xs[off]? = some v) (w : World) : (part 3 xs off).run Tryd.prog w = .ok v w := by
  simp [part, isAgg, run_underlying Tryd.underlying3, h]
theorem equalIn_int (a b : Int) (w : World) : (Op.equalIn 9999 3 (.int .i64 a) (.int .i64 b)).run Tryd.prog w = .ok (a == b) w := by
  have h : ∀ d : Nat, (Op.equalIn (d + 1) 3 (.int .i64 a) (.int .i64 b)).run Tryd.prog w = .ok (a == b) w := fun d => by
    simp [Op.equalIn, run_underlying Tryd.underlying3]
  exact h 9998
abbrev shV5 (s : Shr) : Value := .agg #[.int .i64 s.x, .int .u64 s.y.a, .int .u64 s.y.b, .int .u64 s.y.c, .int .u64 s.y.d]
theorem eqFs (s t : Shr) (w : World) : (Op.equalIn 10000 38 (shV5 s) (shV5 t)).run Tryd.prog w = .ok (s.x == t.x && Nm.beq s.y t.y) w := by
  rw [run_equalIn_struct w 9999 38 _ _ (by kernel_rfl) (by kernel_rfl)]
  have hf := share_fields
  generalize (Tryd.prog.fieldsOf 38).toList = fs at hf
  match fs, hf with
  | [], hf => simp at hf
  | [_], hf => simp at hf
  | _ :: _ :: _ :: _, hf => simp at hf
  | [f, g], hf =>
    simp only [List.map_cons, List.map_nil, List.cons.injEq, Prod.mk.injEq, and_true] at hf
    obtain ⟨⟨n1, t1, o1⟩, n2, t2, o2⟩ := hf
    have e3 : ∀ u : Shr, (#[Value.int .i64 u.x, .int .u64 u.y.a, .int .u64 u.y.b, .int .u64 u.y.c, .int .u64 u.y.d] : Array Value).extract 1 (1 + 4) = #[Value.int .u64 u.y.a, .int .u64 u.y.b, .int .u64 u.y.c, .int .u64 u.y.d] := fun u => by simp
    have p1 : ∀ u : Shr, (part 3 #[Value.int .i64 u.x, .int .u64 u.y.a, .int .u64 u.y.b, .int .u64 u.y.c, .int .u64 u.y.d] 0).run Tryd.prog w = .ok (.int .i64 u.x) w := fun u => part_int _ 0 _ rfl w
    have q1 := equalIn_int s.x t.x w
    have q2 := equalIn_num s.y t.y w
    simp only [Op.eqFields, n1, t1, o1, n2, t2, o2, Sem.run_bind, p1, part_num, Result.andThen_ok, e3, q1, q2, Sem.run_ite, Sem.run_pure]
    cases (s.x == t.x) <;> cases Nm.beq s.y t.y <;> simp
theorem eqShr (s t : Shr) (w : World) : (binOp .eql 38 (shV5 s) (shV5 t)).run Tryd.prog w = .ok (.bool (s.x == t.x && Nm.beq s.y t.y)) w := by
  rw [run_eql_struct, eqFs]
  rfl
theorem neShr (s t : Shr) (w : World) : (binOp .neq 38 (shV5 s) (shV5 t)).run Tryd.prog w = .ok (.bool (!(s.x == t.x && Nm.beq s.y t.y))) w := by
  rw [run_neq_struct, eqFs]
  rfl
set_option maxHeartbeats 1000000 in
theorem same_nil (a d : Option Addr) (c e : Nat) (w : World) : Calls Tryd.prog 9 #[.slice a 0 c, .slice d 0 e] w fun e w' => e = .returned (.bool true) ∧ Below w.heap.size w w' := by
  go_enter Tryd.func9, Tryd.ntmps9
  go_wp2_with fail
  go_loopw [13] (fun i wr => i = .int .i64 0 ∧ Hid (Below w.heap.size w wr)) (fun _ _ => 0)
  case atStart => exact ⟨rfl, Below.refl _ _⟩
  case round =>
    obtain ⟨rfl, hb⟩ := hrel
    go_wp2_with fail
    go_ret
    exact ⟨rfl, hb.out⟩
set_option maxRecDepth 20000 in
set_option maxHeartbeats 2000000 in
theorem same_walk (l : List Shr) (n : Nat) (hn : l.length = n) (h20 : n ≤ 20) (b o c d q e : Nat) (w : World)
    (R1 : Hid (∀ W, Below w.heap.size w W → ∀ i s, l[i]? = some s → W.rangeAt b (o + i * 5) (shC s))) (R2 : Hid (∀ W, Below w.heap.size w W → ∀ i s, l[i]? = some s → W.rangeAt d (q + i * 5) (shC s))) :
    Calls Tryd.prog 9 #[.slice (some ⟨b, o, none⟩) n c, .slice (some ⟨d, q, none⟩) n e] w fun e w' => e = .returned (.bool true) ∧ Below w.heap.size w w' := by
  have HN : Hid (l.length = n ∧ n ≤ 20) := ⟨hn, h20⟩
  clear hn h20
  go_enter Tryd.func9, Tryd.ntmps9
  go_wp2_with fail
  go_loopw [13] (fun i wr => ∃ j : Nat, j ≤ n ∧ i = .int .i64 (j : Int) ∧ Hid (Below w.heap.size w wr)) (fun i _ => n - (intOf i).toNat)
  case atStart => exact ⟨0, Nat.zero_le _, rfl, Below.refl _ _⟩
  case round =>
    obtain ⟨j, hj, rfl, bk⟩ := hrel
    by_cases hlt : j < n
    · have i1 : (j : Int) < (n : Int) := by omega
      have i0 : (0 : Int) ≤ (j : Int) := by omega
      have j20 : (j : Int) < 20 := by have := HN.out; omega
      have HJ : Hid (j < n) := hlt
      have hl : j < l.length := by have := HN.out; omega
      obtain ⟨s, hs⟩ : ∃ s, Hid (l[j]? = some s) := ⟨l[j], List.getElem?_eq_getElem hl⟩
      have ne : ∀ w, (binOp .neq 38 (shV5 s) (shV5 s)).run Tryd.prog w = .ok (.bool false) w := fun w => by
        rw [neShr, Nm.beq_self, beq_self_eq_true]
        rfl
      clear hlt hj hl
      go_wp2_with fail
      have s1 : Hid (Kn wr []) := Kn.nil wr
      have b1 : Hid (Below w.heap.size w wr) := bk
      clear bk
      refine wp_region_up (by kernel_rfl) (by kernel_rfl) (fun U hU f hf hcl => ?_)
      have r1 := fun nx => R1.out (f nx) (b1.out.trans ((hf nx).out.mono b1.out.size)) j s hs.out
      have r2 := fun nx => R2.out (f nx) (b1.out.trans ((hf nx).out.mono b1.out.size)) j s hs.out
      try simp only [List.append_eq, List.cons_append, List.nil_append]
      repeat (first | (refine I.quiet_load rfl 38 _ rfl b (o + j * 5) rfl [.int .i64 s.x, .int .u64 s.y.a, .int .u64 s.y.b, .int .u64 s.y.c, .int .u64 s.y.d] _ (fun W hW => by obtain ⟨nx, rfl⟩ := hW; exact r1 nx) u_share rfl (info_share s) ?_; simp only [Act.put, List.setIfInBounds_toArray, List.set_cons_succ, List.set_cons_zero]) | (refine I.quiet_load rfl 38 _ rfl d (q + j * 5) rfl [.int .i64 s.x, .int .u64 s.y.a, .int .u64 s.y.b, .int .u64 s.y.c, .int .u64 s.y.d] _ (fun W hW => by obtain ⟨nx, rfl⟩ := hW; exact r2 nx) u_share rfl (info_share s) ?_; simp only [Act.put, List.setIfInBounds_toArray, List.set_cons_succ, List.set_cons_zero]) | go_big_quiet_step (first | fail))
      refine wpQuiet_nil ?_
      intro nx
      have hb2 := (hf nx).out
      clear hf hcl
      generalize f nx = w2 at hb2 ⊢
      have s2 : Hid (Kn w2 []) := s1.out.up hb2
      have b2 : Hid (Below w.heap.size w w2) := b1.out.trans (hb2.mono b1.out.size)
      have z2 := b2.out.size
      clear hb2 s1 b1
      go_wp2_with fail
      go_roundw
      case rel => exact ⟨j + 1, HJ.out, by go_num, b2⟩
      case measure => simp [intOf]; have := HJ.out; omega
    · have i1 : ¬ (j : Int) < (n : Int) := by omega
      clear hlt hj
      go_wp2_with fail
      go_ret
      exact ⟨rfl, bk.out⟩
theorem same_fun (l : List Shr) (h20 : l.length ≤ 20) (u v : Value) (w : World) (hu : Shs w u l) (hv : Shs w v l) : Calls Tryd.prog 9 #[u, v] w fun e w' => e = .returned (.bool true) ∧ Below w.heap.size w w' := by
  obtain ⟨a, c, rfl⟩ := shs_parts hu
  obtain ⟨d, e, rfl⟩ := shs_parts hv
  by_cases h0 : l.length = 0
  · rw [h0]
    exact same_nil a d c e w
  · obtain ⟨b, o, rfl, r1⟩ := hu.rows (by omega)
    obtain ⟨b', o', rfl, r2⟩ := hv.rows (by omega)
    exact same_walk l _ rfl h20 b o c b' o' e w r1 r2
set_option maxRecDepth 20000 in
set_option maxHeartbeats 2000000 in
theorem shareSplits_of (SP : SplitC) (x : Nm) (ox : x.ok) (k n : Int) (hk : -9223372036854775808 ≤ k ∧ k ≤ 9223372036854775807) (hn : -9223372036854775808 ≤ n ∧ n ≤ 9223372036854775807) (seed : List Nat) (ls : ∀ y ∈ seed, y < 256) (zs : seed.length ≤ 500000000000000) (v : Value) (w : World) (hv : By w v seed) (hK : KTab w) (hR : RTab w) :
    Calls Tryd.prog 3 #[N x, .int .i64 k, .int .i64 n, v] w fun e w' => e = .returned (.bool true) ∧ Below w.heap.size w w' := by
  have S1 : Hid _ := SP x ox k n hk hn seed ls zs
  have S2 : Hid _ := shares_fun x ox k n seed ls zs
  obtain ⟨E, hE⟩ : ∃ E, Hid (((splE x.nat k n seed : Nat) : Int) = E) := ⟨_, rfl⟩
  obtain ⟨L, hL⟩ : ∃ L, Hid (splL x.nat k n seed = L) := ⟨_, rfl⟩
  have hl : Hid (L.length ≤ 20) := by show _ ≤ _; rw [← hL.out]; exact splL_20 _ _ _ _
  rw [hE.out, hL.out] at S1 S2
  have HV : Hid (By w v seed) := hv
  have HK : Hid (KTab w) := hK
  have HR : Hid (RTab w) := hR
  clear hv hK hR SP hE hL
  go_enter Tryd.func3, Tryd.ntmps3
  have s0 : Hid (Kn (kal4 w (x)) [(w.heap.size, (c4 (x)))]) := ((Kn.nil w).al (c4 (x)) 24 rfl)
  have b0 : Hid (Below w.heap.size w (kal4 w (x))) := ((Below.refl _ _).alloc (Nat.le_refl _) _)
  have usecret_0 : (kal4 w (x)).cell? ⟨w.heap.size, 0, none⟩ = some (.int .u64 (x).a) := Kn.get s0.out 0 0 rfl rfl
  have usecret_1 : (kal4 w (x)).cell? ⟨w.heap.size, 1, none⟩ = some (.int .u64 (x).b) := Kn.get s0.out 0 1 rfl rfl
  have usecret_2 : (kal4 w (x)).cell? ⟨w.heap.size, 2, none⟩ = some (.int .u64 (x).c) := Kn.get s0.out 0 2 rfl rfl
  have usecret_3 : (kal4 w (x)).cell? ⟨w.heap.size, 3, none⟩ = some (.int .u64 (x).d) := Kn.get s0.out 0 3 rfl rfl
  go_wp2_with fail
  clear usecret_0 usecret_1 usecret_2 usecret_3
  refine (S1.out v _ (HV.out.up b0.out (Nat.le_refl _)) (HK.out.up b0.out HK.out.pos)).mono ?_
  rintro e w1 ⟨⟨v1, rfl, h1⟩, hb1⟩
  have s1 : Hid (Kn w1 [(w.heap.size, c4 x)]) := s0.out.up hb1
  have b1 : Hid (Below w.heap.size w w1) := b0.out.trans (hb1.mono b0.out.size)
  have H1 : Hid (Shs w1 v1 L) := h1
  clear h1 hb1 s0 b0
  obtain ⟨a1, c1, e1⟩ := shs_parts H1.out
  generalize L.length = n1 at e1
  subst e1
  have V1 := HV.out.up b1.out (Nat.le_refl _)
  have usecret_0 : w1.cell? ⟨w.heap.size, 0, none⟩ = some (.int .u64 (x).a) := Kn.get s1.out 0 0 rfl rfl
  have usecret_1 : w1.cell? ⟨w.heap.size, 1, none⟩ = some (.int .u64 (x).b) := Kn.get s1.out 0 1 rfl rfl
  have usecret_2 : w1.cell? ⟨w.heap.size, 2, none⟩ = some (.int .u64 (x).c) := Kn.get s1.out 0 2 rfl rfl
  have usecret_3 : w1.cell? ⟨w.heap.size, 3, none⟩ = some (.int .u64 (x).d) := Kn.get s1.out 0 3 rfl rfl
  go_wp2_with (refine wp_conv rfl _ rfl v seed rfl V1 ?_)
  clear V1
  refine (S2.out _ (HR.out.up b1.out HR.out.pos)).mono ?_
  rintro e w2 ⟨⟨v2, rfl, h2⟩, hb2⟩
  have b2 : Hid (Below w.heap.size w w2) := b1.out.trans (hb2.mono b1.out.size)
  have H2 : Hid (Shs w2 (.slice a1 n1 c1) L) := H1.out.up hb2
  have G2 : Hid (Shs w2 v2 L) := h2.shs
  clear h2 hb2 s1 b1 H1 S1 S2
  obtain ⟨a2, c2, e2⟩ := shs_parts G2.out
  generalize L.length = n2 at e2
  subst e2
  go_wp2_with fail
  refine (same_fun L hl.out _ _ _ H2.out G2.out).mono ?_
  rintro e w3 ⟨rfl, hb3⟩
  have b3 : Hid (Below w.heap.size w w3) := b2.out.trans (hb3.mono b2.out.size)
  clear hb3 H2 G2 b2
  go_wp2_with fail
  go_ret
  exact ⟨rfl, b3.out⟩
end Go.Proofs.YtdcpicbkemmakaaDoor
