/- ScalarBytes, out of what package scalar keeps. -/
import Derived.Test.YtjcnfffmciahiaaScOf
import Derived.Test.YtjcnfffmciahiaaAppF
import Derived.Test.YtjcnfffmciahiaaMade
import Derived.Test.YtjcnfffmciahiaaYc
import Derived.Test.YtjcnfffmciahiaaUpX
import Derived.Test.YtjcnfffmciahiaaUpV
import Derived.Test.YtjcnfffmciahiaaEq
namespace Go.Proofs.Ytjcnfffmciahiaa
open Go.RowKit
attribute [local go_sem] World.cell?_alloc_some cell_alloc2 cell_alloc3 cell_alloc4 frozen?_alloc_cells frozen_out
attribute [local go_sem] YieldsP execOp
attribute [local simp] MP.eq_p
set_option linter.unusedSimpArgs false
/-- The bytes of a number, as a list. -/
def S.by (n : Nat) : List Nat := (List.range 32).map fun i => n / 256 ^ i % 256
theorem S.by_length (n : Nat) : (S.by n).length = 32 := by simp [S.by]
theorem S.by_low (n : Nat) : ∀ x ∈ S.by n, x < 256 := fun x hx => by
  obtain ⟨i, _, rfl⟩ := List.mem_map.1 hx
  exact Nat.mod_lt _ (by decide)
theorem S.by_row (n : Nat) : bR n = (S.by n).map b8 := by
  unfold bR S.by
  rw [List.map_map]
  rfl
theorem S.le_by {n : Nat} (hn : n < 2 ^ 256) : S.le (S.by n) = n := by
  have h1 := S.low (S.by_length n) (S.by_low n)
  have h3 := byte_eq (m := S.le (S.by n)) (n := n) 32 fun i hi => by
    rw [S.le_at _ (S.by_low n)]
    simp [S.by, hi]
  rw [show (256 : Nat) ^ 32 = 2 ^ 256 by decide, Nat.mod_eq_of_lt h1, Nat.mod_eq_of_lt hn] at h3
  exact h3
theorem Kn.by32 {w : World} {L : List (Nat × List Value)} (h : Kn w L) (i : Nat) {k n : Nat} (hp : L[i]? = some (k, bR n)) : By w (.slice (some ⟨k, 0, none⟩) 32 32) (S.by n) := by
  have hb := h.all _ (List.mem_of_getElem? hp)
  have := By.of_cells (w := w) (b := k) (o := 0) (c := 32) (xs := S.by n) (by rw [S.by_length]; decide) fun j hj => by
    rw [S.by_length] at hj
    rw [Nat.zero_add]
    refine hb.cell j _ ?_
    show (bR n)[j]? = _
    rw [S.by_row, List.getElem?_map, List.getElem?_eq_getElem (by rw [S.by_length]; exact hj)]
    simp [List.getD_eq_getElem?_getD, S.by_length, hj]
  rw [S.by_length] at this
  exact this
theorem zero_n4 (w : World) : (zeroValue 24).run Try.prog w = .ok (.agg zz4.toArray) w := I.zero_of (by kernel_rfl) w
theorem cfSOf (args : Array Value) (W : World) : (callFunc 22 args).run Try.prog W = .ok (.enter 22 args) W := cf_is (fn := Try.f22) (by kernel_rfl) (by decide) (by kernel_rfl) args W
set_option maxRecDepth 20000 in
set_option maxHeartbeats 2000000 in
theorem scBytes_walk (a b x y : Nm) (an bn : Nat) (n : Int) (xs ys : List Nat) (hxs : S.by an = xs) (hys : S.by bn = ys) (lx : xs.length = 32) (ly : ys.length = 32)
    (ne0 : ∀ w, (binOp .neq 24 (N ⟨0, 0, 0, 0⟩) (N ⟨0, 0, 0, 0⟩)).run Try.prog w = .ok (.bool false) w) (ne : ∀ x w, (binOp .neq 24 (N x) (N x)).run Try.prog w = .ok (.bool false) w) (eq : ∀ x w, (binOp .eql 24 (N x) (N x)).run Try.prog w = .ok (.bool true) w)
    (B1 : ∀ w, Calls Try.prog 21 #[N a] w fun e w' => e = .returned (.agg (bR (an)).toArray) ∧ Below w.heap.size w w')
    (B2 : ∀ w, Calls Try.prog 21 #[N b] w fun e w' => e = .returned (.agg (bR (bn)).toArray) ∧ Below w.heap.size w w')
    (L1 : ∀ w, Calls Try.prog 12 #[N a] w fun e w' => e = .returned (N x) ∧ Below w.heap.size w w')
    (R1 : ∀ w, Calls Try.prog 23 #[Wv a b] w fun e w' => e = .returned (N y) ∧ Below w.heap.size w w')
    (O1 : ∀ v w, By w v xs → Calls Try.prog 22 #[v] w fun e w' => e = .returned (.tuple #[N x, .int .i64 0]) ∧ Below w.heap.size w w')
    (O2 : ∀ v w, By w v (xs ++ ys) → Calls Try.prog 22 #[v] w fun e w' => e = .returned (.tuple #[N y, .int .i64 0]) ∧ Below w.heap.size w w')
    (O3 : ∀ v w, By w v (xs ++ List.replicate 33 0) → Calls Try.prog 22 #[v] w fun e w' => e = .returned (.tuple #[N ⟨0, 0, 0, 0⟩, .int .i64 2]) ∧ Below w.heap.size w w')
    (O4 : ∀ m v w, m ≤ 32 → By w v (xs ++ List.replicate m 0) → Calls Try.prog 22 #[v] w fun e w' => e = .returned (.tuple #[N x, .int .i64 0]) ∧ Below w.heap.size w w')
    (w : World) :
    Calls Try.prog 6 #[N a, N b, .int .i64 n] w fun e w' => e = .returned (.bool true) ∧ Below w.heap.size w w' := by
  have HX : Hid _ := hxs
  have HY : Hid _ := hys
  have LX : Hid _ := lx
  have LY : Hid _ := ly
  have P1 : Hid _ := O1
  have P2 : Hid _ := O2
  have P3 : Hid _ := O3
  have P4 : Hid _ := O4
  clear hxs hys lx ly O1 O2 O3 O4
  go_enter Try.func6, Try.ntmps6
  have s0 : Hid (Kn (kal4 (kal4 w (a)) (b)) [(w.heap.size + 1, (c4 (b))), (w.heap.size, (c4 (a)))]) := (((Kn.nil w).al (c4 (a)) 24 rfl).al (c4 (b)) 24 (by simp))
  have b0 : Hid (Below w.heap.size w (kal4 (kal4 w (a)) (b))) := (((Below.refl _ _).alloc (Nat.le_refl _) _).alloc (by simp <;> omega) _)
  go_wp2_with fail
  refine wp_region_vars2 4 (.cells #[Value.int IntKind.u8 0, Value.int IntKind.u8 0, Value.int IntKind.u8 0, Value.int IntKind.u8 0, Value.int IntKind.u8 0, Value.int IntKind.u8 0, Value.int IntKind.u8 0, Value.int IntKind.u8 0, Value.int IntKind.u8 0, Value.int IntKind.u8 0, Value.int IntKind.u8 0, Value.int IntKind.u8 0, Value.int IntKind.u8 0, Value.int IntKind.u8 0, Value.int IntKind.u8 0, Value.int IntKind.u8 0, Value.int IntKind.u8 0, Value.int IntKind.u8 0, Value.int IntKind.u8 0, Value.int IntKind.u8 0, Value.int IntKind.u8 0, Value.int IntKind.u8 0, Value.int IntKind.u8 0, Value.int IntKind.u8 0, Value.int IntKind.u8 0, Value.int IntKind.u8 0, Value.int IntKind.u8 0, Value.int IntKind.u8 0, Value.int IntKind.u8 0, Value.int IntKind.u8 0, Value.int IntKind.u8 0, Value.int IntKind.u8 0] 39) (.cells #[Value.int IntKind.u8 0, Value.int IntKind.u8 0, Value.int IntKind.u8 0, Value.int IntKind.u8 0, Value.int IntKind.u8 0, Value.int IntKind.u8 0, Value.int IntKind.u8 0, Value.int IntKind.u8 0, Value.int IntKind.u8 0, Value.int IntKind.u8 0, Value.int IntKind.u8 0, Value.int IntKind.u8 0, Value.int IntKind.u8 0, Value.int IntKind.u8 0, Value.int IntKind.u8 0, Value.int IntKind.u8 0, Value.int IntKind.u8 0, Value.int IntKind.u8 0, Value.int IntKind.u8 0, Value.int IntKind.u8 0, Value.int IntKind.u8 0, Value.int IntKind.u8 0, Value.int IntKind.u8 0, Value.int IntKind.u8 0, Value.int IntKind.u8 0, Value.int IntKind.u8 0, Value.int IntKind.u8 0, Value.int IntKind.u8 0, Value.int IntKind.u8 0, Value.int IntKind.u8 0, Value.int IntKind.u8 0, Value.int IntKind.u8 0] 39) (.cells (bR (an)).toArray 39) (.cells (bR (bn)).toArray 39) (by kernel_rfl) (by kernel_rfl) (by kernel_rfl) (by kernel_rfl) rfl rfl rfl rfl (by decide) rfl rfl (fun _ _ => by kernel_rfl) (fun _ _ => by kernel_rfl) ?_
  apply Exists.intro
  refine ⟨fun U hU f hf hcl => ?_, fun k j W hc => ?_, fun k j W hc => ?_, fun k1 j1 w1 hb1 hk1 hj1 hn1 hc1 hd1 => ?_⟩
  · skip
    have ua_0 := fun nx => (Kn.get (s0.out.up (hf nx).out) 1 0 rfl rfl : (f nx).cell? ⟨w.heap.size, 0, none⟩ = some (.int .u64 (a).a))
    have ua_1 := fun nx => (Kn.get (s0.out.up (hf nx).out) 1 1 rfl rfl : (f nx).cell? ⟨w.heap.size, 1, none⟩ = some (.int .u64 (a).b))
    have ua_2 := fun nx => (Kn.get (s0.out.up (hf nx).out) 1 2 rfl rfl : (f nx).cell? ⟨w.heap.size, 2, none⟩ = some (.int .u64 (a).c))
    have ua_3 := fun nx => (Kn.get (s0.out.up (hf nx).out) 1 3 rfl rfl : (f nx).cell? ⟨w.heap.size, 3, none⟩ = some (.int .u64 (a).d))
    have ub_0 := fun nx => (Kn.get (s0.out.up (hf nx).out) 0 0 rfl rfl : (f nx).cell? ⟨w.heap.size + 1, 0, none⟩ = some (.int .u64 (b).a))
    have ub_1 := fun nx => (Kn.get (s0.out.up (hf nx).out) 0 1 rfl rfl : (f nx).cell? ⟨w.heap.size + 1, 1, none⟩ = some (.int .u64 (b).b))
    have ub_2 := fun nx => (Kn.get (s0.out.up (hf nx).out) 0 2 rfl rfl : (f nx).cell? ⟨w.heap.size + 1, 2, none⟩ = some (.int .u64 (b).c))
    have ub_3 := fun nx => (Kn.get (s0.out.up (hf nx).out) 0 3 rfl rfl : (f nx).cell? ⟨w.heap.size + 1, 3, none⟩ = some (.int .u64 (b).d))
    clear hf
    simp only [List.take_succ_cons, List.take_zero]
    repeat (go_big_quiet_step (first | (go_at_call_of 21 [Value.agg #[Value.int IntKind.u64 a.a, Value.int IntKind.u64 a.b, Value.int IntKind.u64 a.c, Value.int IntKind.u64 a.d]]; exact (B1 _).mono fun e w'' ⟨he, hb⟩ => ⟨he, hcl.out _ _ hb⟩) | (go_at_call_of 21 [Value.agg #[Value.int IntKind.u64 b.a, Value.int IntKind.u64 b.b, Value.int IntKind.u64 b.c, Value.int IntKind.u64 b.d]]; exact (B2 _).mono fun e w'' ⟨he, hb⟩ => ⟨he, hcl.out _ _ hb⟩)))
    exact wpQuiet_nil rfl
  · exact st_obj (zs := bZ) (cs := (bR (an))) hc.out rfl rfl rfl (by rw [(bR_length (an)), bZ_length]) (info_bR (an)) (bR_one (an))
  · exact st_obj (zs := bZ) (cs := (bR (bn))) hc.out rfl rfl rfl (by rw [(bR_length (bn)), bZ_length]) (info_bR (bn)) (bR_one (bn))
  simp only [Act.put, List.setIfInBounds_toArray, List.set_cons_succ, List.set_cons_zero]
  have z1 := b0.out.size
  have g1 : w.heap.size ≤ k1 := Nat.le_trans b0.out.size hk1
  have gj1 : w.heap.size ≤ j1 := Nat.le_trans b0.out.size hj1
  have s1 : Hid (Kn w1 [(k1, (bR (an))), (j1, (bR (bn))), (w.heap.size + 1, (c4 (b))), (w.heap.size, (c4 (a)))]) := s0.out.two hb1.out hk1 hj1 hn1.out hc1.out hd1.out
  have b1 : Hid (Below w.heap.size w w1) := b0.out.trans (hb1.out.mono b0.out.size)
  clear s0 b0 hb1 hc1 hd1 hk1 hj1
  go_wp2_with (first | refine wp_all32 rfl _ rfl k1 rfl ?_)
  have Y1 : By w1 (.slice (some ⟨k1, 0, none⟩) 32 32) xs := by have := Kn.by32 s1.out 0 rfl; rwa [HX.out] at this
  refine (P1.out _ _ Y1).mono ?_
  rintro e w2 ⟨rfl, hb2⟩
  have s2 : Hid (Kn w2 [(k1, (bR (an))), (j1, (bR (bn))), (w.heap.size + 1, (c4 (b))), (w.heap.size, (c4 (a)))]) := s1.out.up hb2
  have b2 : Hid (Below w.heap.size w w2) := b1.out.trans (hb2.mono b1.out.size)
  have z2 := b2.out.size
  clear hb2 s1 b1
  have s3 : Hid (Kn (kal4 w2 (x)) [(w2.heap.size, (c4 (x))), (k1, (bR (an))), (j1, (bR (bn))), (w.heap.size + 1, (c4 (b))), (w.heap.size, (c4 (a)))]) := s2.out.al (c4 (x)) 24 rfl
  have b3 : Hid (Below w.heap.size w (kal4 w2 (x))) := b2.out.alloc b2.out.size _
  have z3 := b2.out.size
  clear s2 b2
  clear Y1
  go_wp2_with fail
  have G3 : Hid _ := s3
  refine wp_region_monoXE 8 6 (.int .i64 0) [MP.eq (.slice (some ⟨k1, 0, none⟩) 32 32), MP.eq (.slice (some ⟨j1, 0, none⟩) 32 32), MP.byF (xs ++ ys), MP.eq (.tuple #[N y, .int .i64 0]), MP.eq (.tuple #[N y, .int .i64 0]), MP.eq (N y), MP.eq (.int .i64 0), MP.made (kal4 w2 x).heap.size zz4] (by kernel_rfl) (by kernel_rfl) rfl (by decide) (by kernel_rfl) (by kernel_rfl) (by decide) (by kernel_rfl) (fun _ _ d _ _ h => by cases d <;> exact h) rfl ?_
  apply Exists.intro
  refine ⟨fun vals => ?_, ?_, fun of hof vals W hW hd => ?_, fun vals4 w4 hb4 hF hO => ?_⟩
  · simp only [putsV, dstL, List.length_cons, List.length_nil, Nat.zero_add, Nat.reduceAdd, List.getElem?_cons_zero, List.getElem?_cons_succ, Option.bind_some, Act.put, List.setIfInBounds_toArray, List.set_cons_succ, List.set_cons_zero]
    rfl
  · refine ⟨?_, ?_, ?_, ?_, ?_, ?_, ?_, ?_, trivial⟩
    · intro vals W hW hw hd
      try simp [Region.binds] at hd
      refine ⟨by first | rfl | simp [Region.wanted, yielded, hd], ?_⟩
      exact yields_all u_b32 u_b32r (by decide) (.tmp 7) rfl k1 0 rfl rfl
    · intro vals W hW hw hd
      try simp [Region.binds] at hd
      refine ⟨by first | rfl | simp [Region.wanted, yielded, hd], ?_⟩
      exact yields_all u_b32 u_b32r (by decide) (.tmp 8) rfl j1 0 rfl rfl
    · intro vals W hW hw hd
      try simp [Region.binds] at hd
      refine ⟨by first | rfl | simp [Region.wanted, yielded, hd], ?_⟩
      exact yields_appF (.tmp 27) (.tmp 28) rfl ⟨k1, 0, none⟩ 32 xs ys _ hd.1 hd.2 (by have := Kn.by32 (G3.out.up hW.out) 1 rfl; rwa [HX.out] at this) LX.out.symm (by have := Kn.by32 (G3.out.up hW.out) 2 rfl; rwa [HY.out] at this) (by rw [LY.out]; decide) (by rw [LX.out, LY.out]; decide)
    · intro vals W hW hw hd
      try simp [Region.binds] at hd
      refine ⟨by first | rfl | simp [Region.wanted, yielded, hd], ?_⟩
      exact yields_call1 cfSOf (.tmp 29) _ rfl _ rfl ((P2.out _ W hd).mono fun e w' ⟨he, hb⟩ => ⟨_, he, rfl, hb⟩)
    · intro vals W hW hw hd
      try simp [Region.binds] at hd
      refine ⟨by first | rfl | simp [Region.wanted, yielded, hd], ?_⟩
      simp [go_sem, hd]
      exact Below.refl _ _
    · intro vals W hW hw hd
      try simp [Region.binds] at hd
      refine ⟨by first | rfl | simp [Region.wanted, yielded, hd], ?_⟩
      simp [go_sem, hd]
      exact Below.refl _ _
    · intro vals W hW hw hd
      try simp [Region.binds] at hd
      refine ⟨by first | rfl | simp [Region.wanted, yielded, hd], ?_⟩
      simp [go_sem, hd]
      exact Below.refl _ _
    · intro vals W hW hw hd
      try simp [Region.binds] at hd
      refine ⟨by first | rfl | simp [Region.wanted, yielded, hd], ?_⟩
      exact yields_mk rfl zero_n4 hW.out.size
  · obtain rfl := Option.some.inj hof
    try simp [Region.binds] at hd
    exact Or.inl ⟨by first | rfl | simp [Region.wanted, yielded, hd], fun w9 => by simp [go_sem, execOp, hd]⟩
  obtain ⟨f0, f1, f2, f3, f4, f5, f6, f7, _⟩ := hF
  simp only [MP.eq_p] at f0 f1 f3 f4 f5 f6
  obtain ⟨g, eg, hg, bg⟩ := f7
  rw [f0, f1, f3, f4, f5, f6, eg]
  simp only [List.drop_succ_cons, List.drop_zero]
  have s4 : Hid (Kn w4 [(g, zz4), (w2.heap.size, c4 x), (k1, bR an), (j1, bR bn), (w.heap.size + 1, c4 b), (w.heap.size, c4 a)]) := s3.out.fresh_of hb4.out hg bg
  have b4 : Hid (Below w.heap.size w w4) := b3.out.trans (hb4.out.mono b3.out.size)
  have gg : w.heap.size ≤ g := Nat.le_trans b3.out.size hg
  have kk : w.heap.size ≤ w2.heap.size := z2
  clear f0 f1 f2 f3 f4 f5 f6 eg hg bg hO hb4 s3 b3 G3 z3
  generalize w2.heap.size = kx at *
  have uyvo_0 : w4.cell? ⟨g, 0, none⟩ = some (.int .u64 0) := Kn.get s4.out 0 0 rfl rfl
  have uyvo_1 : w4.cell? ⟨g, 1, none⟩ = some (.int .u64 0) := Kn.get s4.out 0 1 rfl rfl
  have uyvo_2 : w4.cell? ⟨g, 2, none⟩ = some (.int .u64 0) := Kn.get s4.out 0 2 rfl rfl
  have uyvo_3 : w4.cell? ⟨g, 3, none⟩ = some (.int .u64 0) := Kn.get s4.out 0 3 rfl rfl
  have uyvo_z : ∀ j, w4.frozen? ⟨g, j, none⟩ = false := Kn.fz s4.out 0 rfl
  have s5 : Hid (Kn (st4 w4 g (y)) [(g, (c4 (y))), (kx, (c4 (x))), (k1, (bR (an))), (j1, (bR (bn))), (w.heap.size + 1, (c4 (b))), (w.heap.size, (c4 (a)))]) := Kn.st4 (L := [(kx, (c4 (x))), (k1, (bR (an))), (j1, (bR (bn))), (w.heap.size + 1, (c4 (b))), (w.heap.size, (c4 (a)))]) (s4.out.front 0 rfl) (y)
  have b5 : Hid (Below w.heap.size w (st4 w4 g (y))) := below_st4 b4.out (by omega)
  clear s4 b4
  have Y2 : By (st4 w4 g y) (.slice (some ⟨k1, 0, none⟩) 32 32) xs := by have := Kn.by32 s5.out 2 rfl; rwa [HX.out] at this
  go_wp2_with (first | refine wp_all32 rfl _ rfl k1 rfl ?_ | refine wp_appFZ rfl _ _ rfl ⟨k1, 0, none⟩ 32 xs 33 _ rfl Y2 LX.out.symm rfl rfl (by rw [LX.out]; decide) ?_)
  clear uyvo_0 uyvo_1 uyvo_2 uyvo_3 uyvo_z
  clear Y2
  intro v6 w6 hy6 hb6
  have e4 : (st4 w4 g y).heap.size = w4.heap.size := by simp [st4, World.setCell]
  replace hb6 : Below (st4 w4 g y).heap.size (st4 w4 g y) w6 := by rw [e4]; exact hb6
  have s6 : Hid (Kn w6 [(g, c4 y), (kx, c4 x), (k1, bR an), (j1, bR bn), (w.heap.size + 1, c4 b), (w.heap.size, c4 a)]) := s5.out.up hb6
  have b6 : Hid (Below w.heap.size w w6) := b5.out.trans (hb6.mono b5.out.size)
  have HY6 : Hid _ := hy6
  clear s5 b5 hb6 hy6 e4
  go_wp2_with fail
  refine (P3.out _ _ HY6.out).mono ?_
  rintro e w7 ⟨rfl, hb7⟩
  have s7 : Hid (Kn w7 [(g, (c4 (y))), (kx, (c4 (x))), (k1, (bR (an))), (j1, (bR (bn))), (w.heap.size + 1, (c4 (b))), (w.heap.size, (c4 (a)))]) := s6.out.up hb7
  have b7 : Hid (Below w.heap.size w w7) := b6.out.trans (hb7.mono b6.out.size)
  have z7 := b7.out.size
  clear hb7 s6 b6
  have s8 : Hid (Kn (kal4 w7 ((⟨0,0,0,0⟩:Nm))) [(w7.heap.size, (c4 ((⟨0,0,0,0⟩:Nm)))), (g, (c4 (y))), (kx, (c4 (x))), (k1, (bR (an))), (j1, (bR (bn))), (w.heap.size + 1, (c4 (b))), (w.heap.size, (c4 (a)))]) := s7.out.al (c4 ((⟨0,0,0,0⟩:Nm))) 24 rfl
  have b8 : Hid (Below w.heap.size w (kal4 w7 ((⟨0,0,0,0⟩:Nm)))) := b7.out.alloc b7.out.size _
  have z8 := b7.out.size
  clear s7 b7
  clear HY6
  go_wp2_with fail
  refine wp_region_up (by kernel_rfl) (by kernel_rfl) (fun U hU f hf hcl => ?_)
  have ua_0 := fun nx => (Kn.get (s8.out.up (hf nx).out) 6 0 rfl rfl : (f nx).cell? ⟨w.heap.size, 0, none⟩ = some (.int .u64 (a).a))
  have ua_1 := fun nx => (Kn.get (s8.out.up (hf nx).out) 6 1 rfl rfl : (f nx).cell? ⟨w.heap.size, 1, none⟩ = some (.int .u64 (a).b))
  have ua_2 := fun nx => (Kn.get (s8.out.up (hf nx).out) 6 2 rfl rfl : (f nx).cell? ⟨w.heap.size, 2, none⟩ = some (.int .u64 (a).c))
  have ua_3 := fun nx => (Kn.get (s8.out.up (hf nx).out) 6 3 rfl rfl : (f nx).cell? ⟨w.heap.size, 3, none⟩ = some (.int .u64 (a).d))
  have ub_0 := fun nx => (Kn.get (s8.out.up (hf nx).out) 5 0 rfl rfl : (f nx).cell? ⟨w.heap.size + 1, 0, none⟩ = some (.int .u64 (b).a))
  have ub_1 := fun nx => (Kn.get (s8.out.up (hf nx).out) 5 1 rfl rfl : (f nx).cell? ⟨w.heap.size + 1, 1, none⟩ = some (.int .u64 (b).b))
  have ub_2 := fun nx => (Kn.get (s8.out.up (hf nx).out) 5 2 rfl rfl : (f nx).cell? ⟨w.heap.size + 1, 2, none⟩ = some (.int .u64 (b).c))
  have ub_3 := fun nx => (Kn.get (s8.out.up (hf nx).out) 5 3 rfl rfl : (f nx).cell? ⟨w.heap.size + 1, 3, none⟩ = some (.int .u64 (b).d))
  have uxv_0 := fun nx => (Kn.get (s8.out.up (hf nx).out) 2 0 rfl rfl : (f nx).cell? ⟨kx, 0, none⟩ = some (.int .u64 (x).a))
  have uxv_1 := fun nx => (Kn.get (s8.out.up (hf nx).out) 2 1 rfl rfl : (f nx).cell? ⟨kx, 1, none⟩ = some (.int .u64 (x).b))
  have uxv_2 := fun nx => (Kn.get (s8.out.up (hf nx).out) 2 2 rfl rfl : (f nx).cell? ⟨kx, 2, none⟩ = some (.int .u64 (x).c))
  have uxv_3 := fun nx => (Kn.get (s8.out.up (hf nx).out) 2 3 rfl rfl : (f nx).cell? ⟨kx, 3, none⟩ = some (.int .u64 (x).d))
  have uyv_0 := fun nx => (Kn.get (s8.out.up (hf nx).out) 1 0 rfl rfl : (f nx).cell? ⟨g, 0, none⟩ = some (.int .u64 (y).a))
  have uyv_1 := fun nx => (Kn.get (s8.out.up (hf nx).out) 1 1 rfl rfl : (f nx).cell? ⟨g, 1, none⟩ = some (.int .u64 (y).b))
  have uyv_2 := fun nx => (Kn.get (s8.out.up (hf nx).out) 1 2 rfl rfl : (f nx).cell? ⟨g, 2, none⟩ = some (.int .u64 (y).c))
  have uyv_3 := fun nx => (Kn.get (s8.out.up (hf nx).out) 1 3 rfl rfl : (f nx).cell? ⟨g, 3, none⟩ = some (.int .u64 (y).d))
  have uzv_0 := fun nx => (Kn.get (s8.out.up (hf nx).out) 0 0 rfl rfl : (f nx).cell? ⟨w7.heap.size, 0, none⟩ = some (.int .u64 ((⟨0,0,0,0⟩:Nm)).a))
  have uzv_1 := fun nx => (Kn.get (s8.out.up (hf nx).out) 0 1 rfl rfl : (f nx).cell? ⟨w7.heap.size, 1, none⟩ = some (.int .u64 ((⟨0,0,0,0⟩:Nm)).b))
  have uzv_2 := fun nx => (Kn.get (s8.out.up (hf nx).out) 0 2 rfl rfl : (f nx).cell? ⟨w7.heap.size, 2, none⟩ = some (.int .u64 ((⟨0,0,0,0⟩:Nm)).c))
  have uzv_3 := fun nx => (Kn.get (s8.out.up (hf nx).out) 0 3 rfl rfl : (f nx).cell? ⟨w7.heap.size, 3, none⟩ = some (.int .u64 ((⟨0,0,0,0⟩:Nm)).d))
  try simp only [List.append_eq, List.cons_append, List.nil_append]
  repeat (go_big_quiet_step (first | (go_at_call 12; exact (L1 _).mono fun e w'' ⟨he, hb⟩ => ⟨he, hcl.out _ _ hb⟩) | (go_at_call 24; exact (wideOf_fun a b _).mono fun e w'' ⟨he, hb⟩ => ⟨he, hcl.out _ _ hb⟩) | (go_at_call 23; exact (R1 _).mono fun e w'' ⟨he, hb⟩ => ⟨he, hcl.out _ _ hb⟩)))
  refine wpQuiet_nil ?_
  intro nx
  have hb9 := (hf nx).out
  clear hf hcl ua_0 ua_1 ua_2 ua_3 ub_0 ub_1 ub_2 ub_3 uxv_0 uxv_1 uxv_2 uxv_3 uyv_0 uyv_1 uyv_2 uyv_3 uzv_0 uzv_1 uzv_2 uzv_3
  generalize f nx = w9 at hb9 ⊢
  have s9 : Hid (Kn w9 [(w7.heap.size, (c4 ((⟨0,0,0,0⟩:Nm)))), (g, (c4 (y))), (kx, (c4 (x))), (k1, (bR (an))), (j1, (bR (bn))), (w.heap.size + 1, (c4 (b))), (w.heap.size, (c4 (a)))]) := s8.out.up hb9
  have b9 : Hid (Below w.heap.size w w9) := b8.out.trans (hb9.mono b8.out.size)
  have z9 := b9.out.size
  clear hb9 s8 b8
  by_cases c1 : n < 0
  · have d1 : decide (n < 0) = true := decide_eq_true c1
    go_wp2_with fail
    go_ret
    exact ⟨rfl, b9.out⟩
  · have d1 : decide (n < 0) = false := decide_eq_false c1
    by_cases c2 : n > 32
    · have d2 : decide (n > 32) = true := decide_eq_true c2
      go_wp2_with fail
      go_ret
      exact ⟨rfl, b9.out⟩
    · have d2 : decide (n > 32) = false := decide_eq_false c2
      obtain ⟨m, hm⟩ : ∃ m : Nat, Hid (n = (m : Int)) := ⟨n.toNat, by show n = _; omega⟩
      have hm2 : Hid (m ≤ 32) := by have := hm.out; show m ≤ 32; omega
      have Y9 : By w9 (.slice (some ⟨k1, 0, none⟩) 32 32) xs := by have := Kn.by32 s9.out 3 rfl; rwa [HX.out] at this
      go_wp2_with (first | refine wp_all32 rfl _ rfl k1 rfl ?_ | refine wp_appFZ rfl _ _ rfl ⟨k1, 0, none⟩ 32 xs m _ rfl Y9 LX.out.symm rfl hm.out (by rw [LX.out]; have := hm2.out; omega) ?_)
      intro v10 w10 hy10 hb10
      have s10 : Hid (Kn w10 [(w7.heap.size, c4 (⟨0, 0, 0, 0⟩ : Nm)), (g, c4 y), (kx, c4 x), (k1, bR an), (j1, bR bn), (w.heap.size + 1, c4 b), (w.heap.size, c4 a)]) := s9.out.up hb10
      have b10 : Hid (Below w.heap.size w w10) := b9.out.trans (hb10.mono b9.out.size)
      have HY10 : Hid _ := hy10
      clear s9 b9 hb10 hy10 Y9
      go_wp2_with fail
      refine (P4.out m _ _ hm2.out HY10.out).mono ?_
      rintro e w11 ⟨rfl, hb11⟩
      have s11 : Hid (Kn w11 [(w7.heap.size, (c4 ((⟨0,0,0,0⟩:Nm)))), (g, (c4 (y))), (kx, (c4 (x))), (k1, (bR (an))), (j1, (bR (bn))), (w.heap.size + 1, (c4 (b))), (w.heap.size, (c4 (a)))]) := s10.out.up hb11
      have b11 : Hid (Below w.heap.size w w11) := b10.out.trans (hb11.mono b10.out.size)
      have z11 := b11.out.size
      clear hb11 s10 b10
      have s12 : Hid (Kn (kal4 w11 (x)) [(w11.heap.size, (c4 (x))), (w7.heap.size, (c4 ((⟨0,0,0,0⟩:Nm)))), (g, (c4 (y))), (kx, (c4 (x))), (k1, (bR (an))), (j1, (bR (bn))), (w.heap.size + 1, (c4 (b))), (w.heap.size, (c4 (a)))]) := s11.out.al (c4 (x)) 24 rfl
      have b12 : Hid (Below w.heap.size w (kal4 w11 (x))) := b11.out.alloc b11.out.size _
      have z12 := b11.out.size
      clear s11 b11
      have uwv_0 : (kal4 w11 (x)).cell? ⟨w11.heap.size, 0, none⟩ = some (.int .u64 (x).a) := Kn.get s12.out 0 0 rfl rfl
      have uwv_1 : (kal4 w11 (x)).cell? ⟨w11.heap.size, 1, none⟩ = some (.int .u64 (x).b) := Kn.get s12.out 0 1 rfl rfl
      have uwv_2 : (kal4 w11 (x)).cell? ⟨w11.heap.size, 2, none⟩ = some (.int .u64 (x).c) := Kn.get s12.out 0 2 rfl rfl
      have uwv_3 : (kal4 w11 (x)).cell? ⟨w11.heap.size, 3, none⟩ = some (.int .u64 (x).d) := Kn.get s12.out 0 3 rfl rfl
      have uxv_0 : (kal4 w11 (x)).cell? ⟨kx, 0, none⟩ = some (.int .u64 (x).a) := Kn.get s12.out 3 0 rfl rfl
      have uxv_1 : (kal4 w11 (x)).cell? ⟨kx, 1, none⟩ = some (.int .u64 (x).b) := Kn.get s12.out 3 1 rfl rfl
      have uxv_2 : (kal4 w11 (x)).cell? ⟨kx, 2, none⟩ = some (.int .u64 (x).c) := Kn.get s12.out 3 2 rfl rfl
      have uxv_3 : (kal4 w11 (x)).cell? ⟨kx, 3, none⟩ = some (.int .u64 (x).d) := Kn.get s12.out 3 3 rfl rfl
      go_wp2_with fail
      clear uwv_0 uwv_1 uwv_2 uwv_3 uxv_0 uxv_1 uxv_2 uxv_3
      go_ret
      exact ⟨rfl, b12.out⟩
theorem scalarBytes_of (a b : Nm) (n : Int) (oa : a.ok) (ob : b.ok) (w : World) :
    Calls Try.prog 6 #[N a, N b, .int .i64 n] w fun e w' => e = .returned (.bool true) ∧ Below w.heap.size w w' := by
  have ne : ∀ (x : Nm) w, (binOp .neq 24 (N x) (N x)).run Try.prog w = .ok (.bool false) w := fun x w => by rw [neN, Nm.beq_self]; rfl
  have eq : ∀ (x : Nm) w, (binOp .eql 24 (N x) (N x)).run Try.prog w = .ok (.bool true) w := fun x w => by rw [eqN, Nm.beq_self]
  have la := Nm.nat_lt oa; have lb := Nm.nat_lt ob
  have B1 := bytes_n a.nat la
  rw [← Nm.eq_nm oa rfl] at B1
  have B2 := bytes_n b.nat lb
  rw [← Nm.eq_nm ob rfl] at B2
  have e1 := S.le_by la
  have e2 : S.le (S.by a.nat ++ S.by b.nat) = a.nat + 2 ^ 256 * b.nat := by
    rw [S.le_append, S.by_length, S.le_by la, S.le_by lb, show (256 : Nat) ^ 32 = 2 ^ 256 by decide]
  have e3 : ∀ m, S.le (S.by a.nat ++ List.replicate m 0) = a.nat := fun m => by
    rw [S.le_append, S.le_zeros, Nat.mul_zero, Nat.add_zero, S.le_by la]
  refine scBytes_walk a b _ _ a.nat b.nat n _ _ rfl rfl (S.by_length _) (S.by_length _) (ne _) ne eq B1 B2 (sLowC a oa) (sRed_fun a b oa ob) (fun v w h => ?_) (fun v w h => ?_) (fun v w h => ?_) (fun m v w hm h => ?_) w
  · have := sOf_fun _ (by rw [S.by_length]; decide) (S.by_low _) v w h
    rw [e1] at this
    exact this
  · have := sOf_fun _ (by rw [List.length_append, S.by_length, S.by_length]; decide) (low_app (S.by_low _) (S.by_low _)) v w h
    rw [e2] at this
    exact this
  · exact sOf_bad _ (by rw [List.length_append, S.by_length, List.length_replicate]; decide) v w h
  · have := sOf_fun _ (by rw [List.length_append, S.by_length, List.length_replicate]; omega) (low_app (S.by_low _) (low_rep _)) v w h
    rw [e3] at this
    exact this
end Go.Proofs.Ytjcnfffmciahiaa
