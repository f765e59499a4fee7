/- The contract of aes.eachColumn: columns of a block that are mixed, and unmixed. -/
import Derived.Test.YtejabkmhpiabnaaAeB
import Derived.Test.YtejabkmhpiabnaaAMixed
import Derived.Test.YtejabkmhpiabnaaGrp29
namespace Go.Proofs.Ytejabkmhpiabnaa
open Go.RowKit
set_option linter.unusedSimpArgs false
attribute [local go_sem] YieldsP execOp
attribute [local simp] MP.eq_p
namespace A
/-- Four places are new ones at once. -/
theorem midN_four (old new : Nat → Nat) {c : Nat} (h : c + 4 ≤ 16) : (midN 16 old new c).take c ++ ([new c, new (c + 1), new (c + 2), new (c + 3)] ++ (midN 16 old new c).drop (c + 4)) = midN 16 old new (c + 4) := by
  have hl : ((midN 16 old new c).take c ++ ([new c, new (c + 1), new (c + 2), new (c + 3)] ++ (midN 16 old new c).drop (c + 4))).length = 16 := by simp [midN_length]; omega
  refine (by_self hl).symm.trans (by_congr fun i hi => ?_)
  rw [List.getD_eq_getElem?_getD]
  have get : ∀ i, i < 16 → (midN 16 old new c)[i]? = some (if i < c then new i else old i) := fun i hi => by
    unfold midN by_
    simp [hi]
  have tl : ((midN 16 old new c).take c).length = c := by simp [midN_length]; omega
  by_cases h1 : i < c
  · rw [List.getElem?_append_left (by omega), List.getElem?_take, if_pos h1, get i hi, if_pos h1, if_pos (by omega)]
    rfl
  · rw [List.getElem?_append_right (by omega), tl]
    by_cases h2 : i < c + 4
    · rw [List.getElem?_append_left (by simp; omega), if_pos h2]
      have h3 : i - c = 0 ∨ i - c = 1 ∨ i - c = 2 ∨ i - c = 3 := by omega
      rcases h3 with e | e | e | e <;> rw [e]
      · rw [show i = c by omega]; rfl
      · rw [show i = c + 1 by omega]; rfl
      · rw [show i = c + 2 by omega]; rfl
      · rw [show i = c + 3 by omega]; rfl
    · rw [List.getElem?_append_right (by simp; omega), if_neg h2, List.getElem?_drop]
      simp only [List.length_cons, List.length_nil]
      rw [show c + 4 + (i - c - (0 + 1 + 1 + 1 + 1)) = i by omega, get i hi, if_neg h1]
      rfl
end A

set_option maxRecDepth 20000 in
set_option maxHeartbeats 2000000 in
theorem amixAll_fun (s : List Nat) (hs : A.ok 16 s) (w : World) : Calls Try.prog 41 #[aB s, fnV 42] w fun e w' => e = .returned (aB (A.mixAll s)) ∧ Below w.heap.size w w' := by
  obtain ⟨old, hold⟩ : ∃ old : Nat → Nat, old = fun p => s.getD p 0 := ⟨_, rfl⟩
  obtain ⟨new, hnew⟩ : ∃ new : Nat → Nat, new = fun p => (G.mixL (A.col s (p / 4))).getD (p % 4) 0 := ⟨_, rfl⟩
  have NE : Hid (A.mixAll s = A.by_ 16 new) := by rw [hnew]; exact rfl
  have FC : Hid (∀ j W, j < 4 → Calls Try.prog 42 #[.agg #[b8 (old (4 * j)), b8 (old (4 * j + 1)), b8 (old (4 * j + 2)), b8 (old (4 * j + 3))]] W fun e w' => e = .returned (aB [new (4 * j), new (4 * j + 1), new (4 * j + 2), new (4 * j + 3)]) ∧ Below W.heap.size W w') := fun j W hj => by
    rw [hold, hnew]
    show Calls _ _ _ _ fun e w' => e = .returned (aB [(G.mixL (A.col s (4 * j / 4))).getD (4 * j % 4) 0, (G.mixL (A.col s ((4 * j + 1) / 4))).getD ((4 * j + 1) % 4) 0, (G.mixL (A.col s ((4 * j + 2) / 4))).getD ((4 * j + 2) % 4) 0, (G.mixL (A.col s ((4 * j + 3) / 4))).getD ((4 * j + 3) % 4) 0]) ∧ _
    rw [show 4 * j / 4 = j by omega, show (4 * j + 1) / 4 = j by omega, show (4 * j + 2) / 4 = j by omega, show (4 * j + 3) / 4 = j by omega, show 4 * j % 4 = 0 by omega, show (4 * j + 1) % 4 = 1 by omega, show (4 * j + 2) % 4 = 2 by omega, show (4 * j + 3) % 4 = 3 by omega]
    exact gfIs.mix _ _ _ _ (hs.at _) (hs.at _) (hs.at _) (hs.at _) W trivial
  rw [NE.out]
  obtain ⟨x0, x1, x2⟩ := al2 w (s.map b8).toArray #[Value.int IntKind.u8 0, Value.int IntKind.u8 0, Value.int IntKind.u8 0, Value.int IntKind.u8 0, Value.int IntKind.u8 0, Value.int IntKind.u8 0, Value.int IntKind.u8 0, Value.int IntKind.u8 0, Value.int IntKind.u8 0, Value.int IntKind.u8 0, Value.int IntKind.u8 0, Value.int IntKind.u8 0, Value.int IntKind.u8 0, Value.int IntKind.u8 0, Value.int IntKind.u8 0, Value.int IntKind.u8 0] 57 57
  rw [show (s.map b8).toArray.toList = (A.midN 16 old new (4 * 0)).map b8 by rw [Nat.mul_zero, A.midN_zero, hold, A.by_self hs.1]] at x0
  have X0 : Hid (Blk _ w.heap.size ((A.midN 16 old new (4 * 0)).map b8)) := x0
  have X1 : Hid (Blk _ (w.heap.size + 1) (zB 16)) := x1
  have X2 : Hid (Below w.heap.size w _) := x2
  clear x0 x1 x2 hs hold hnew NE
  go_enter Try.func41, Try.ntmps41
  go_wp2_with (simp only [zero_a16])
  generalize World.alloc (w.alloc _) _ = w1 at *
  go_loopw [5] (fun i wr => ∃ j : Nat, j ≤ 4 ∧ i = .int .i64 ((4 * j : Nat) : Int) ∧ Hid (Blk wr w.heap.size ((A.midN 16 old new (4 * j)).map b8)) ∧ Hid (Blk wr (w.heap.size + 1) (zB 16)) ∧ Hid (Below w.heap.size w wr)) (fun i _ => 16 - (intOf i).toNat)
  case atStart => exact ⟨0, by omega, rfl, X0, X1, X2⟩
  case round =>
    clear X0 X1 X2
    obtain ⟨j, hj, rfl, X0, X1, X2⟩ := hrel
    by_cases hj1 : j < 4
    · have CK : Hid _ := fun W => FC.out j W hj1
      have J1 : Hid (j < 4) := hj1
      obtain ⟨c, hc⟩ : ∃ c, c = 4 * j := ⟨_, rfl⟩
      rw [← hc] at X0 CK ⊢
      have HC : Hid (c = 4 * j) := hc
      have c16 : c + 4 ≤ 16 := by omega
      have C16 : Hid (c + 4 ≤ 16) := c16
      have i0 : (c : Int) < 16 := by omega
      have i1 : ((c + 1 : Nat) : Int) < 16 := by omega
      have i2 : ((c + 2 : Nat) : Int) < 16 := by omega
      have i3 : ((c + 3 : Nat) : Int) < 16 := by omega
      have v1 : IntKind.i64.wrap ((c : Int) + 1) = ((c + 1 : Nat) : Int) := by rw [IntKind.wrap_i64]; omega
      have v2 : IntKind.i64.wrap ((c : Int) + 2) = ((c + 2 : Nat) : Int) := by rw [IntKind.wrap_i64]; omega
      have v3 : IntKind.i64.wrap ((c : Int) + 3) = ((c + 3 : Nat) : Int) := by rw [IntKind.wrap_i64]; omega
      have v4 : IntKind.i64.wrap ((c : Int) + 4) = ((c + 4 : Nat) : Int) := by rw [IntKind.wrap_i64]; omega
      have EC : Hid (∀ W i, i < 4 → Below wr.heap.size wr W → W.cell? ⟨w.heap.size, c + i, none⟩ = some (b8 (old (c + i)))) := fun W i hi hW => by
        have h1 := (X0.out.up hW X0.out.lt).byte (c + i) (by rw [A.midN_length]; omega)
        rw [A.midN_at old new (by omega) (by omega)] at h1
        exact h1
      clear hj hj1 hc c16
      obtain ⟨c1, hc1⟩ : ∃ c1, c1 = c + 1 := ⟨_, rfl⟩
      obtain ⟨c2, hc2⟩ : ∃ c2, c2 = c + 2 := ⟨_, rfl⟩
      obtain ⟨c3, hc3⟩ : ∃ c3, c3 = c + 3 := ⟨_, rfl⟩
      rw [← hc1] at i1 v1 CK
      rw [← hc2] at i2 v2 CK
      rw [← hc3] at i3 v3 CK
      have E0 : Hid (∀ W, Below wr.heap.size wr W → W.cell? ⟨w.heap.size, c, none⟩ = some (b8 (old c))) := fun W hW => EC.out W 0 (by decide) hW
      have E1 : Hid (∀ W, Below wr.heap.size wr W → W.cell? ⟨w.heap.size, c1, none⟩ = some (b8 (old c1))) := fun W hW => by rw [hc1]; exact EC.out W 1 (by decide) hW
      have E2 : Hid (∀ W, Below wr.heap.size wr W → W.cell? ⟨w.heap.size, c2, none⟩ = some (b8 (old c2))) := fun W hW => by rw [hc2]; exact EC.out W 2 (by decide) hW
      have E3 : Hid (∀ W, Below wr.heap.size wr W → W.cell? ⟨w.heap.size, c3, none⟩ = some (b8 (old c3))) := fun W hW => by rw [hc3]; exact EC.out W 3 (by decide) hW
      have NN : Hid ((A.midN 16 old new c).take c ++ ([new c, new c1, new c2, new c3] ++ (A.midN 16 old new c).drop (c + 4)) = A.midN 16 old new (c + 4)) := by rw [hc1, hc2, hc3]; exact A.midN_four old new C16.out
      clear hc1 hc2 hc3 EC
      obtain ⟨cm, hcm⟩ : ∃ cm, cm = [new c, new c1, new c2, new c3] := ⟨_, rfl⟩
      rw [← hcm] at CK NN
      have CL : Hid (cm.length = 4) := by rw [hcm]; exact rfl
      clear hcm
      generalize old c = o0 at *
      generalize old c1 = o1 at *
      generalize old c2 = o2 at *
      generalize old c3 = o3 at *
      go_wp2_with fail
      refine wp_region_alloc1 18 (.cells #[Value.int IntKind.u8 0, Value.int IntKind.u8 0, Value.int IntKind.u8 0, Value.int IntKind.u8 0] 23) (by kernel_rfl) (by kernel_rfl) (by kernel_rfl) (by kernel_rfl) (by decide) (fun _ _ d _ _ h => by cases d <;> exact h) rfl rfl (fun _ _ => by kernel_rfl) ?_
      apply Exists.intro
      refine ⟨fun U hU f hf hcl => ?_, fun kv w6 hb6 hk6 hc6 => ?_⟩
      · have e0 : ∀ n, (f n).cell? ⟨w.heap.size, c, none⟩ = some (b8 o0) := fun n => E0.out (f n) (hf n).out
        have e1 : ∀ n, (f n).cell? ⟨w.heap.size, c1, none⟩ = some (b8 o1) := fun n => E1.out (f n) (hf n).out
        have e2 : ∀ n, (f n).cell? ⟨w.heap.size, c2, none⟩ = some (b8 o2) := fun n => E2.out (f n) (hf n).out
        have e3 : ∀ n, (f n).cell? ⟨w.heap.size, c3, none⟩ = some (b8 o3) := fun n => E3.out (f n) (hf n).out
        clear hf
        simp only [List.take_succ_cons, List.take_zero]
        repeat (first | go_big_quiet_step (first | (go_at_call 42; exact (CK.out _).mono fun e w'' ⟨he, hb⟩ => ⟨he, hcl.out _ _ hb⟩)))
        exact wpQuiet_nil rfl
      simp only [List.drop_succ_cons, List.drop_zero]
      have Z4 : Hid (Blk w6 kv ((List.replicate 4 0).map b8)) := zero4 hc6.out
      have Z0 : Hid (Blk w6 w.heap.size ((A.midN 16 old new c).map b8)) := X0.out.up hb6.out X0.out.lt
      have Z1 : Hid (Blk w6 (w.heap.size + 1) (zB 16)) := X1.out.up hb6.out X1.out.lt
      have Z2 : Hid (Below w.heap.size w w6) := X2.out.trans (hb6.out.mono X2.out.size)
      have NK : Hid (w.heap.size + 1 < kv) := Nat.lt_of_lt_of_le X1.out.lt hk6
      clear hb6 hk6 hc6 X0 X1 X2 E0 E1 E2 E3 CK
      have T6 : Hid (w6.there kv 0 (cm.map b8).length) := Z4.out.there (by rw [List.length_map, CL.out]; simp)
      go_wp2_with (refine wp_store_eq rfl 23 (.tmp 6) (.tmp 28) rfl kv 0 (cm.map b8) rfl rfl T6.out (info_n info_a4 cm CL.out) (one_b8 _) ?_)
      intro w7 hw7
      have Y0 : Hid (Blk w7 w.heap.size ((A.midN 16 old new c).map b8)) := by rw [hw7.out]; exact Z0.out.apart (by have := NK.out; omega)
      have Y1 : Hid (Blk w7 (w.heap.size + 1) (zB 16)) := by rw [hw7.out]; exact Z1.out.apart (by have := NK.out; omega)
      have Y4 : Hid (Blk w7 kv (cm.map b8)) := by rw [hw7.out]; exact Z4.out.put (by rw [List.length_map, CL.out]; simp)
      have Y2 : Hid (Below w.heap.size w w7) := by rw [hw7.out]; exact below_setCells _ _ _ Z2.out (by have := NK.out; omega)
      clear hw7 Z0 Z1 Z2 Z4 T6
      have SP : Hid (∀ W, Blk W w.heap.size ((A.midN 16 old new c).map b8) → Blk (W.setCells w.heap.size c (cm.map b8)) w.heap.size ((A.midN 16 old new (c + 4)).map b8)) := fun W h => by
        have ML := A.midN_length 16 old new c
        have C4 := C16.out
        rw [← NN.out, List.map_append, List.map_append]
        have h1 : Blk W w.heap.size (((A.midN 16 old new c).take c).map b8 ++ ((((A.midN 16 old new c).drop c).take 4).map b8 ++ ((A.midN 16 old new c).drop (c + 4)).map b8)) := by
          rw [← List.map_append, ← List.map_append]
          have e : (A.midN 16 old new c).take c ++ (((A.midN 16 old new c).drop c).take 4 ++ (A.midN 16 old new c).drop (c + 4)) = A.midN 16 old new c := by
            rw [← List.drop_drop, List.take_append_drop, List.take_append_drop]
          rw [e]
          exact h
        exact h1.store (by rw [List.length_map, List.length_take]; omega) (by rw [List.length_map, List.length_map, CL.out, List.length_take, List.length_drop]; omega)
      go_wp2_with fail
      refine wp_region_monoSE 3 [MP.eq (.int .i64 (c : Int)), MP.eq (.slice (some ⟨w.heap.size, 0 + c, none⟩) (16 - c) (16 - c)), MP.eq (.slice (some ⟨kv, 0, none⟩) 4 4)] (by kernel_rfl) (by kernel_rfl) rfl (by decide) (by kernel_rfl) ?_
      apply Exists.intro
      refine ⟨fun vals => ?_, ?_, fun vals8 w8 hb8 hF hO => ?_⟩
      · simp only [putsV, dstL, List.length_cons, List.length_nil, Nat.zero_add, Nat.reduceAdd, List.getElem?_cons_zero, List.getElem?_cons_succ, Option.bind_some, Act.put, List.setIfInBounds_toArray, List.set_cons_succ, List.set_cons_zero]
        rfl
      · refine ⟨?_, ?_, ?_, trivial⟩
        · intro vals W hW hw hd
          try simp [Region.binds] at hd
          refine ⟨by first | rfl | simp [Region.wanted, yielded, hd], ?_⟩
          simp [go_sem, hd]
          exact Below.refl _ _
        · intro vals W hW hw hd
          try simp [Region.binds] at hd
          refine ⟨by first | rfl | simp [Region.wanted, yielded, hd], ?_⟩
          exact yields_from u_a16 gi_u8 (.tmp 2) (.tmp 29) rfl w.heap.size 0 c .i64 (by have := C16.out; omega) rfl hd rfl
        · intro vals W hW hw hd
          try simp [Region.binds] at hd
          refine ⟨by first | rfl | simp [Region.wanted, yielded, hd], ?_⟩
          exact yields_all u_a4 gi_u8 (by decide) (.tmp 6) rfl kv 0 rfl rfl
      obtain ⟨f0, f1, f2, _⟩ := hF
      simp only [MP.eq_p] at f0 f1 f2
      rw [f0, f1, f2]
      simp only [List.drop_succ_cons, List.drop_zero, Nat.zero_add]
      have Z0 : Hid (Blk w8 w.heap.size ((A.midN 16 old new c).map b8)) := Y0.out.up hb8.out Y0.out.lt
      have Z1 : Hid (Blk w8 (w.heap.size + 1) (zB 16)) := Y1.out.up hb8.out Y1.out.lt
      have Z4 : Hid (Blk w8 kv (cm.map b8)) := Y4.out.up hb8.out Y4.out.lt
      have Z2 : Hid (Below w.heap.size w w8) := Y2.out.trans (hb8.out.mono Y2.out.size)
      have TT : Hid (w8.there w.heap.size c cm.length) := Z0.out.there (by rw [List.length_map, A.midN_length, CL.out]; exact C16.out)
      have MI : Hid (cm.length = min 4 (16 - c)) := by rw [CL.out]; have := C16.out; show 4 = _; omega
      clear f0 f1 f2 hb8 hO Y0 Y1 Y4 Y2
      go_wp2_with (refine wp_copyR rfl (.tmp 30) (.tmp 31) rfl w.heap.size c (16 - c) (16 - c) kv 0 4 4 cm rfl rfl MI.out Z4.out.all TT.out ?_)
      intro w9 hw9
      have V0 : Hid (Blk w9 w.heap.size ((A.midN 16 old new (c + 4)).map b8)) := by rw [hw9.out]; exact SP.out w8 Z0.out
      have V1 : Hid (Blk w9 (w.heap.size + 1) (zB 16)) := by rw [hw9.out]; exact Z1.out.apart (by omega)
      have V2 : Hid (Below w.heap.size w w9) := by rw [hw9.out]; exact below_setCells _ _ _ Z2.out (Nat.le_refl _)
      clear hw9 Z0 Z1 Z2 Z4 TT
      go_wp2_with fail
      go_roundw
      case rel => exact ⟨j + 1, J1.out, by rw [show 4 * (j + 1) = c + 4 by have := HC.out; omega]; rfl, by rw [show 4 * (j + 1) = c + 4 by have := HC.out; omega]; exact V0, V1, V2⟩
      case measure => have := C16.out; simp [intOf]; omega
    · obtain rfl : j = 4 := by omega
      rw [show 4 * 4 = 16 from rfl] at X0 ⊢
      rw [A.midN_all] at X0
      have LL : Hid ((A.by_ 16 new).length = 16) := A.by_length _ _
      obtain ⟨l, hl⟩ : ∃ l, l = A.by_ 16 new := ⟨_, rfl⟩
      rw [← hl] at X0 LL
      have HE : Hid (l = A.by_ 16 new) := hl
      clear hl hj hj1
      have T0 : Hid (wr.there (w.heap.size + 1) 0 (l.map b8).length) := X1.out.there (by rw [List.length_map, LL.out, zB_length]; omega)
      go_wp2_with (first | refine wpList_load_mid rfl 57 (.tmp 2) rfl w.heap.size 0 rfl (l.map b8) _ X0.out.all u_a16 rfl (info_n info_a16 l LL.out) ?_ | refine wp_store_eq rfl 57 (.tmp 4) (.tmp 33) rfl (w.heap.size + 1) 0 (l.map b8) rfl rfl T0.out (info_n info_a16 l LL.out) (one_b8 _) ?_)
      intro w9 hw9
      go_wp2_with fail
      refine bodyPost_ret (v := aB l) ?_ rfl ⟨by rw [HE.out], ?_⟩
      · rw [hw9.out]
        exact results_cell (b := (w.heap.size + 1)) rfl rfl (World.rangeAt_setCells_same _ _ _ _ T0.out) u_a16 rfl (info_n info_a16 l LL.out)
      · rw [hw9.out]
        exact below_setCells _ _ _ X2.out (by omega)
set_option maxRecDepth 20000 in
set_option maxHeartbeats 2000000 in
theorem aunmixAll_fun (s : List Nat) (hs : A.ok 16 s) (w : World) : Calls Try.prog 41 #[aB s, fnV 48] w fun e w' => e = .returned (aB (A.unmixAll s)) ∧ Below w.heap.size w w' := by
  obtain ⟨old, hold⟩ : ∃ old : Nat → Nat, old = fun p => s.getD p 0 := ⟨_, rfl⟩
  obtain ⟨new, hnew⟩ : ∃ new : Nat → Nat, new = fun p => (G.unmixL (A.col s (p / 4))).getD (p % 4) 0 := ⟨_, rfl⟩
  have NE : Hid (A.unmixAll s = A.by_ 16 new) := by rw [hnew]; exact rfl
  have FC : Hid (∀ j W, j < 4 → Calls Try.prog 48 #[.agg #[b8 (old (4 * j)), b8 (old (4 * j + 1)), b8 (old (4 * j + 2)), b8 (old (4 * j + 3))]] W fun e w' => e = .returned (aB [new (4 * j), new (4 * j + 1), new (4 * j + 2), new (4 * j + 3)]) ∧ Below W.heap.size W w') := fun j W hj => by
    rw [hold, hnew]
    show Calls _ _ _ _ fun e w' => e = .returned (aB [(G.unmixL (A.col s (4 * j / 4))).getD (4 * j % 4) 0, (G.unmixL (A.col s ((4 * j + 1) / 4))).getD ((4 * j + 1) % 4) 0, (G.unmixL (A.col s ((4 * j + 2) / 4))).getD ((4 * j + 2) % 4) 0, (G.unmixL (A.col s ((4 * j + 3) / 4))).getD ((4 * j + 3) % 4) 0]) ∧ _
    rw [show 4 * j / 4 = j by omega, show (4 * j + 1) / 4 = j by omega, show (4 * j + 2) / 4 = j by omega, show (4 * j + 3) / 4 = j by omega, show 4 * j % 4 = 0 by omega, show (4 * j + 1) % 4 = 1 by omega, show (4 * j + 2) % 4 = 2 by omega, show (4 * j + 3) % 4 = 3 by omega]
    exact gfIs.unmix _ _ _ _ (hs.at _) (hs.at _) (hs.at _) (hs.at _) W trivial
  rw [NE.out]
  obtain ⟨x0, x1, x2⟩ := al2 w (s.map b8).toArray #[Value.int IntKind.u8 0, Value.int IntKind.u8 0, Value.int IntKind.u8 0, Value.int IntKind.u8 0, Value.int IntKind.u8 0, Value.int IntKind.u8 0, Value.int IntKind.u8 0, Value.int IntKind.u8 0, Value.int IntKind.u8 0, Value.int IntKind.u8 0, Value.int IntKind.u8 0, Value.int IntKind.u8 0, Value.int IntKind.u8 0, Value.int IntKind.u8 0, Value.int IntKind.u8 0, Value.int IntKind.u8 0] 57 57
  rw [show (s.map b8).toArray.toList = (A.midN 16 old new (4 * 0)).map b8 by rw [Nat.mul_zero, A.midN_zero, hold, A.by_self hs.1]] at x0
  have X0 : Hid (Blk _ w.heap.size ((A.midN 16 old new (4 * 0)).map b8)) := x0
  have X1 : Hid (Blk _ (w.heap.size + 1) (zB 16)) := x1
  have X2 : Hid (Below w.heap.size w _) := x2
  clear x0 x1 x2 hs hold hnew NE
  go_enter Try.func41, Try.ntmps41
  go_wp2_with (simp only [zero_a16])
  generalize World.alloc (w.alloc _) _ = w1 at *
  go_loopw [5] (fun i wr => ∃ j : Nat, j ≤ 4 ∧ i = .int .i64 ((4 * j : Nat) : Int) ∧ Hid (Blk wr w.heap.size ((A.midN 16 old new (4 * j)).map b8)) ∧ Hid (Blk wr (w.heap.size + 1) (zB 16)) ∧ Hid (Below w.heap.size w wr)) (fun i _ => 16 - (intOf i).toNat)
  case atStart => exact ⟨0, by omega, rfl, X0, X1, X2⟩
  case round =>
    clear X0 X1 X2
    obtain ⟨j, hj, rfl, X0, X1, X2⟩ := hrel
    by_cases hj1 : j < 4
    · have CK : Hid _ := fun W => FC.out j W hj1
      have J1 : Hid (j < 4) := hj1
      obtain ⟨c, hc⟩ : ∃ c, c = 4 * j := ⟨_, rfl⟩
      rw [← hc] at X0 CK ⊢
      have HC : Hid (c = 4 * j) := hc
      have c16 : c + 4 ≤ 16 := by omega
      have C16 : Hid (c + 4 ≤ 16) := c16
      have i0 : (c : Int) < 16 := by omega
      have i1 : ((c + 1 : Nat) : Int) < 16 := by omega
      have i2 : ((c + 2 : Nat) : Int) < 16 := by omega
      have i3 : ((c + 3 : Nat) : Int) < 16 := by omega
      have v1 : IntKind.i64.wrap ((c : Int) + 1) = ((c + 1 : Nat) : Int) := by rw [IntKind.wrap_i64]; omega
      have v2 : IntKind.i64.wrap ((c : Int) + 2) = ((c + 2 : Nat) : Int) := by rw [IntKind.wrap_i64]; omega
      have v3 : IntKind.i64.wrap ((c : Int) + 3) = ((c + 3 : Nat) : Int) := by rw [IntKind.wrap_i64]; omega
      have v4 : IntKind.i64.wrap ((c : Int) + 4) = ((c + 4 : Nat) : Int) := by rw [IntKind.wrap_i64]; omega
      have EC : Hid (∀ W i, i < 4 → Below wr.heap.size wr W → W.cell? ⟨w.heap.size, c + i, none⟩ = some (b8 (old (c + i)))) := fun W i hi hW => by
        have h1 := (X0.out.up hW X0.out.lt).byte (c + i) (by rw [A.midN_length]; omega)
        rw [A.midN_at old new (by omega) (by omega)] at h1
        exact h1
      clear hj hj1 hc c16
      obtain ⟨c1, hc1⟩ : ∃ c1, c1 = c + 1 := ⟨_, rfl⟩
      obtain ⟨c2, hc2⟩ : ∃ c2, c2 = c + 2 := ⟨_, rfl⟩
      obtain ⟨c3, hc3⟩ : ∃ c3, c3 = c + 3 := ⟨_, rfl⟩
      rw [← hc1] at i1 v1 CK
      rw [← hc2] at i2 v2 CK
      rw [← hc3] at i3 v3 CK
      have E0 : Hid (∀ W, Below wr.heap.size wr W → W.cell? ⟨w.heap.size, c, none⟩ = some (b8 (old c))) := fun W hW => EC.out W 0 (by decide) hW
      have E1 : Hid (∀ W, Below wr.heap.size wr W → W.cell? ⟨w.heap.size, c1, none⟩ = some (b8 (old c1))) := fun W hW => by rw [hc1]; exact EC.out W 1 (by decide) hW
      have E2 : Hid (∀ W, Below wr.heap.size wr W → W.cell? ⟨w.heap.size, c2, none⟩ = some (b8 (old c2))) := fun W hW => by rw [hc2]; exact EC.out W 2 (by decide) hW
      have E3 : Hid (∀ W, Below wr.heap.size wr W → W.cell? ⟨w.heap.size, c3, none⟩ = some (b8 (old c3))) := fun W hW => by rw [hc3]; exact EC.out W 3 (by decide) hW
      have NN : Hid ((A.midN 16 old new c).take c ++ ([new c, new c1, new c2, new c3] ++ (A.midN 16 old new c).drop (c + 4)) = A.midN 16 old new (c + 4)) := by rw [hc1, hc2, hc3]; exact A.midN_four old new C16.out
      clear hc1 hc2 hc3 EC
      obtain ⟨cm, hcm⟩ : ∃ cm, cm = [new c, new c1, new c2, new c3] := ⟨_, rfl⟩
      rw [← hcm] at CK NN
      have CL : Hid (cm.length = 4) := by rw [hcm]; exact rfl
      clear hcm
      generalize old c = o0 at *
      generalize old c1 = o1 at *
      generalize old c2 = o2 at *
      generalize old c3 = o3 at *
      go_wp2_with fail
      refine wp_region_alloc1 18 (.cells #[Value.int IntKind.u8 0, Value.int IntKind.u8 0, Value.int IntKind.u8 0, Value.int IntKind.u8 0] 23) (by kernel_rfl) (by kernel_rfl) (by kernel_rfl) (by kernel_rfl) (by decide) (fun _ _ d _ _ h => by cases d <;> exact h) rfl rfl (fun _ _ => by kernel_rfl) ?_
      apply Exists.intro
      refine ⟨fun U hU f hf hcl => ?_, fun kv w6 hb6 hk6 hc6 => ?_⟩
      · have e0 : ∀ n, (f n).cell? ⟨w.heap.size, c, none⟩ = some (b8 o0) := fun n => E0.out (f n) (hf n).out
        have e1 : ∀ n, (f n).cell? ⟨w.heap.size, c1, none⟩ = some (b8 o1) := fun n => E1.out (f n) (hf n).out
        have e2 : ∀ n, (f n).cell? ⟨w.heap.size, c2, none⟩ = some (b8 o2) := fun n => E2.out (f n) (hf n).out
        have e3 : ∀ n, (f n).cell? ⟨w.heap.size, c3, none⟩ = some (b8 o3) := fun n => E3.out (f n) (hf n).out
        clear hf
        simp only [List.take_succ_cons, List.take_zero]
        repeat (first | go_big_quiet_step (first | (go_at_call 48; exact (CK.out _).mono fun e w'' ⟨he, hb⟩ => ⟨he, hcl.out _ _ hb⟩)))
        exact wpQuiet_nil rfl
      simp only [List.drop_succ_cons, List.drop_zero]
      have Z4 : Hid (Blk w6 kv ((List.replicate 4 0).map b8)) := zero4 hc6.out
      have Z0 : Hid (Blk w6 w.heap.size ((A.midN 16 old new c).map b8)) := X0.out.up hb6.out X0.out.lt
      have Z1 : Hid (Blk w6 (w.heap.size + 1) (zB 16)) := X1.out.up hb6.out X1.out.lt
      have Z2 : Hid (Below w.heap.size w w6) := X2.out.trans (hb6.out.mono X2.out.size)
      have NK : Hid (w.heap.size + 1 < kv) := Nat.lt_of_lt_of_le X1.out.lt hk6
      clear hb6 hk6 hc6 X0 X1 X2 E0 E1 E2 E3 CK
      have T6 : Hid (w6.there kv 0 (cm.map b8).length) := Z4.out.there (by rw [List.length_map, CL.out]; simp)
      go_wp2_with (refine wp_store_eq rfl 23 (.tmp 6) (.tmp 28) rfl kv 0 (cm.map b8) rfl rfl T6.out (info_n info_a4 cm CL.out) (one_b8 _) ?_)
      intro w7 hw7
      have Y0 : Hid (Blk w7 w.heap.size ((A.midN 16 old new c).map b8)) := by rw [hw7.out]; exact Z0.out.apart (by have := NK.out; omega)
      have Y1 : Hid (Blk w7 (w.heap.size + 1) (zB 16)) := by rw [hw7.out]; exact Z1.out.apart (by have := NK.out; omega)
      have Y4 : Hid (Blk w7 kv (cm.map b8)) := by rw [hw7.out]; exact Z4.out.put (by rw [List.length_map, CL.out]; simp)
      have Y2 : Hid (Below w.heap.size w w7) := by rw [hw7.out]; exact below_setCells _ _ _ Z2.out (by have := NK.out; omega)
      clear hw7 Z0 Z1 Z2 Z4 T6
      have SP : Hid (∀ W, Blk W w.heap.size ((A.midN 16 old new c).map b8) → Blk (W.setCells w.heap.size c (cm.map b8)) w.heap.size ((A.midN 16 old new (c + 4)).map b8)) := fun W h => by
        have ML := A.midN_length 16 old new c
        have C4 := C16.out
        rw [← NN.out, List.map_append, List.map_append]
        have h1 : Blk W w.heap.size (((A.midN 16 old new c).take c).map b8 ++ ((((A.midN 16 old new c).drop c).take 4).map b8 ++ ((A.midN 16 old new c).drop (c + 4)).map b8)) := by
          rw [← List.map_append, ← List.map_append]
          have e : (A.midN 16 old new c).take c ++ (((A.midN 16 old new c).drop c).take 4 ++ (A.midN 16 old new c).drop (c + 4)) = A.midN 16 old new c := by
            rw [← List.drop_drop, List.take_append_drop, List.take_append_drop]
          rw [e]
          exact h
        exact h1.store (by rw [List.length_map, List.length_take]; omega) (by rw [List.length_map, List.length_map, CL.out, List.length_take, List.length_drop]; omega)
      go_wp2_with fail
      refine wp_region_monoSE 3 [MP.eq (.int .i64 (c : Int)), MP.eq (.slice (some ⟨w.heap.size, 0 + c, none⟩) (16 - c) (16 - c)), MP.eq (.slice (some ⟨kv, 0, none⟩) 4 4)] (by kernel_rfl) (by kernel_rfl) rfl (by decide) (by kernel_rfl) ?_
      apply Exists.intro
      refine ⟨fun vals => ?_, ?_, fun vals8 w8 hb8 hF hO => ?_⟩
      · simp only [putsV, dstL, List.length_cons, List.length_nil, Nat.zero_add, Nat.reduceAdd, List.getElem?_cons_zero, List.getElem?_cons_succ, Option.bind_some, Act.put, List.setIfInBounds_toArray, List.set_cons_succ, List.set_cons_zero]
        rfl
      · refine ⟨?_, ?_, ?_, trivial⟩
        · intro vals W hW hw hd
          try simp [Region.binds] at hd
          refine ⟨by first | rfl | simp [Region.wanted, yielded, hd], ?_⟩
          simp [go_sem, hd]
          exact Below.refl _ _
        · intro vals W hW hw hd
          try simp [Region.binds] at hd
          refine ⟨by first | rfl | simp [Region.wanted, yielded, hd], ?_⟩
          exact yields_from u_a16 gi_u8 (.tmp 2) (.tmp 29) rfl w.heap.size 0 c .i64 (by have := C16.out; omega) rfl hd rfl
        · intro vals W hW hw hd
          try simp [Region.binds] at hd
          refine ⟨by first | rfl | simp [Region.wanted, yielded, hd], ?_⟩
          exact yields_all u_a4 gi_u8 (by decide) (.tmp 6) rfl kv 0 rfl rfl
      obtain ⟨f0, f1, f2, _⟩ := hF
      simp only [MP.eq_p] at f0 f1 f2
      rw [f0, f1, f2]
      simp only [List.drop_succ_cons, List.drop_zero, Nat.zero_add]
      have Z0 : Hid (Blk w8 w.heap.size ((A.midN 16 old new c).map b8)) := Y0.out.up hb8.out Y0.out.lt
      have Z1 : Hid (Blk w8 (w.heap.size + 1) (zB 16)) := Y1.out.up hb8.out Y1.out.lt
      have Z4 : Hid (Blk w8 kv (cm.map b8)) := Y4.out.up hb8.out Y4.out.lt
      have Z2 : Hid (Below w.heap.size w w8) := Y2.out.trans (hb8.out.mono Y2.out.size)
      have TT : Hid (w8.there w.heap.size c cm.length) := Z0.out.there (by rw [List.length_map, A.midN_length, CL.out]; exact C16.out)
      have MI : Hid (cm.length = min 4 (16 - c)) := by rw [CL.out]; have := C16.out; show 4 = _; omega
      clear f0 f1 f2 hb8 hO Y0 Y1 Y4 Y2
      go_wp2_with (refine wp_copyR rfl (.tmp 30) (.tmp 31) rfl w.heap.size c (16 - c) (16 - c) kv 0 4 4 cm rfl rfl MI.out Z4.out.all TT.out ?_)
      intro w9 hw9
      have V0 : Hid (Blk w9 w.heap.size ((A.midN 16 old new (c + 4)).map b8)) := by rw [hw9.out]; exact SP.out w8 Z0.out
      have V1 : Hid (Blk w9 (w.heap.size + 1) (zB 16)) := by rw [hw9.out]; exact Z1.out.apart (by omega)
      have V2 : Hid (Below w.heap.size w w9) := by rw [hw9.out]; exact below_setCells _ _ _ Z2.out (Nat.le_refl _)
      clear hw9 Z0 Z1 Z2 Z4 TT
      go_wp2_with fail
      go_roundw
      case rel => exact ⟨j + 1, J1.out, by rw [show 4 * (j + 1) = c + 4 by have := HC.out; omega]; rfl, by rw [show 4 * (j + 1) = c + 4 by have := HC.out; omega]; exact V0, V1, V2⟩
      case measure => have := C16.out; simp [intOf]; omega
    · obtain rfl : j = 4 := by omega
      rw [show 4 * 4 = 16 from rfl] at X0 ⊢
      rw [A.midN_all] at X0
      have LL : Hid ((A.by_ 16 new).length = 16) := A.by_length _ _
      obtain ⟨l, hl⟩ : ∃ l, l = A.by_ 16 new := ⟨_, rfl⟩
      rw [← hl] at X0 LL
      have HE : Hid (l = A.by_ 16 new) := hl
      clear hl hj hj1
      have T0 : Hid (wr.there (w.heap.size + 1) 0 (l.map b8).length) := X1.out.there (by rw [List.length_map, LL.out, zB_length]; omega)
      go_wp2_with (first | refine wpList_load_mid rfl 57 (.tmp 2) rfl w.heap.size 0 rfl (l.map b8) _ X0.out.all u_a16 rfl (info_n info_a16 l LL.out) ?_ | refine wp_store_eq rfl 57 (.tmp 4) (.tmp 33) rfl (w.heap.size + 1) 0 (l.map b8) rfl rfl T0.out (info_n info_a16 l LL.out) (one_b8 _) ?_)
      intro w9 hw9
      go_wp2_with fail
      refine bodyPost_ret (v := aB l) ?_ rfl ⟨by rw [HE.out], ?_⟩
      · rw [hw9.out]
        exact results_cell (b := (w.heap.size + 1)) rfl rfl (World.rangeAt_setCells_same _ _ _ _ T0.out) u_a16 rfl (info_n info_a16 l LL.out)
      · rw [hw9.out]
        exact below_setCells _ _ _ X2.out (by omega)
end Go.Proofs.Ytejabkmhpiabnaa
