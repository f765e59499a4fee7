/- LimbBytes returns true for every two numbers, thirty-two bytes, number of eight words and word: bytes, halves and a pick come back as they were. No condition. -/
import Derived.Test.YtfnpjadfedmjiabBytes
import Derived.Test.YtfnpjadfedmjiabOf
import Derived.Test.YtfnpjadfedmjiabPick
import Derived.Test.YtfnpjadfedmjiabHalf
import Derived.Test.YtfnpjadfedmjiabStore
import Derived.Test.YtfnpjadfedmjiabArr
import Derived.Test.YtfnpjadfedmjiabOwn
import Derived.Deep.RegionHeld
namespace Go.Proofs.Ytfnpjadfedmjiab
open Go.RowKit
open Go.ChangeShapes Go.WideShapes Go.ChangeAt
attribute [local go_sem] World.cell?_alloc_some

theorem list32 (l : List Int) (h : l.length = 32) : l = (List.range 32).map fun j => l.getD j 0 := by
  apply List.ext_getElem?
  intro j
  rcases Nat.lt_or_ge j 32 with hj | hj
  · simp [hj, List.getElem?_eq_getElem (by omega : j < l.length)]
  · rw [List.getElem?_eq_none (by omega), List.getElem?_eq_none (by simpa using hj)]
def octAt (xs : List Int) (j : Nat) : Oct := ⟨xs.getD (8 * j) 0, xs.getD (8 * j + 1) 0, xs.getD (8 * j + 2) 0, xs.getD (8 * j + 3) 0, xs.getD (8 * j + 4) 0, xs.getD (8 * j + 5) 0, xs.getD (8 * j + 6) 0, xs.getD (8 * j + 7) 0⟩
theorem acc_oct (xs : List Int) : acc xs 32 0 = (octAt xs 0).val ∧ acc xs 32 1 = (octAt xs 1).val ∧ acc xs 32 2 = (octAt xs 2).val ∧ acc xs 32 3 = (octAt xs 3).val := by
  refine ⟨?_, ?_, ?_, ?_⟩ <;> (simp [acc, octAt, Oct.val]; omega)
theorem octAt_ok {xs : List Int} (hx : ∀ x ∈ xs, 0 ≤ x ∧ x < 256) (j : Nat) : (octAt xs j).ok := by
  have h : ∀ k, 0 ≤ xs.getD k 0 ∧ xs.getD k 0 < 256 := fun k => by
    rcases Nat.lt_or_ge k xs.length with h | h
    · have e : xs.getD k 0 = xs[k] := by simp [h]
      rw [e]; exact hx _ (List.getElem_mem h)
    · have e : xs.getD k 0 = 0 := by simp [h]
      rw [e]; exact ⟨by decide, by decide⟩
  exact ⟨h _, h _, h _, h _, h _, h _, h _, h _⟩
theorem bytes_getD (x : Nm) (j : Nat) (h : j < 32) : (bytesOf x).getD j 0 = byteAt x j := by simp [bytesOf, h]
theorem octAt_bytes (x : Nm) : octAt (bytesOf x) 0 = Oct.of x.a ∧ octAt (bytesOf x) 1 = Oct.of x.b ∧ octAt (bytesOf x) 2 = Oct.of x.c ∧ octAt (bytesOf x) 3 = Oct.of x.d := by
  refine ⟨?_, ?_, ?_, ?_⟩ <;> simp [octAt, bytesOf, byteAt, Nm.get, Oct.of]
theorem of_bytes {x : Nm} (hx : x.ok) : (⟨acc (bytesOf x) 32 0, acc (bytesOf x) 32 1, acc (bytesOf x) 32 2, acc (bytesOf x) 32 3⟩ : Nm) = x := by
  obtain ⟨h0, h1, h2, h3⟩ := acc_oct (bytesOf x)
  obtain ⟨g0, g1, g2, g3⟩ := octAt_bytes x
  rw [h0, h1, h2, h3, g0, g1, g2, g3, Oct.of_val hx.a, Oct.of_val hx.b, Oct.of_val hx.c, Oct.of_val hx.d]
theorem bytes_ok {x : Nm} : ∀ b ∈ bytesOf x, 0 ≤ b ∧ b < 256 := by
  intro b hb
  obtain ⟨j, _, rfl⟩ := List.mem_map.1 hb
  unfold byteAt
  omega
theorem bytes_of {xs : List Int} (hl : xs.length = 32) (hx : ∀ x ∈ xs, 0 ≤ x ∧ x < 256) : bytesOf ⟨acc xs 32 0, acc xs 32 1, acc xs 32 2, acc xs 32 3⟩ = xs := by
  obtain ⟨h0, h1, h2, h3⟩ := acc_oct xs
  obtain ⟨g0, g1, g2, g3⟩ := octAt_bytes ⟨acc xs 32 0, acc xs 32 1, acc xs 32 2, acc xs 32 3⟩
  have e0 : octAt (bytesOf ⟨acc xs 32 0, acc xs 32 1, acc xs 32 2, acc xs 32 3⟩) 0 = octAt xs 0 := by rw [g0]; simp only [h0]; exact Oct.val_of (octAt_ok hx _)
  have e1 : octAt (bytesOf ⟨acc xs 32 0, acc xs 32 1, acc xs 32 2, acc xs 32 3⟩) 1 = octAt xs 1 := by rw [g1]; simp only [h1]; exact Oct.val_of (octAt_ok hx _)
  have e2 : octAt (bytesOf ⟨acc xs 32 0, acc xs 32 1, acc xs 32 2, acc xs 32 3⟩) 2 = octAt xs 2 := by rw [g2]; simp only [h2]; exact Oct.val_of (octAt_ok hx _)
  have e3 : octAt (bytesOf ⟨acc xs 32 0, acc xs 32 1, acc xs 32 2, acc xs 32 3⟩) 3 = octAt xs 3 := by rw [g3]; simp only [h3]; exact Oct.val_of (octAt_ok hx _)
  generalize hb : bytesOf ⟨acc xs 32 0, acc xs 32 1, acc xs 32 2, acc xs 32 3⟩ = ys at *
  have hly : ys.length = 32 := by rw [← hb]; exact bytesOf_length _
  unfold octAt at e0 e1 e2 e3
  rw [Oct.mk.injEq] at e0 e1 e2 e3
  have key : ∀ j, j < 32 → ys.getD j 0 = xs.getD j 0 := by
    intro j hj
    match j, hj with
    | 0, _ => exact e0.1
    | 1, _ => exact e0.2.1
    | 2, _ => exact e0.2.2.1
    | 3, _ => exact e0.2.2.2.1
    | 4, _ => exact e0.2.2.2.2.1
    | 5, _ => exact e0.2.2.2.2.2.1
    | 6, _ => exact e0.2.2.2.2.2.2.1
    | 7, _ => exact e0.2.2.2.2.2.2.2
    | 8, _ => exact e1.1
    | 9, _ => exact e1.2.1
    | 10, _ => exact e1.2.2.1
    | 11, _ => exact e1.2.2.2.1
    | 12, _ => exact e1.2.2.2.2.1
    | 13, _ => exact e1.2.2.2.2.2.1
    | 14, _ => exact e1.2.2.2.2.2.2.1
    | 15, _ => exact e1.2.2.2.2.2.2.2
    | 16, _ => exact e2.1
    | 17, _ => exact e2.2.1
    | 18, _ => exact e2.2.2.1
    | 19, _ => exact e2.2.2.2.1
    | 20, _ => exact e2.2.2.2.2.1
    | 21, _ => exact e2.2.2.2.2.2.1
    | 22, _ => exact e2.2.2.2.2.2.2.1
    | 23, _ => exact e2.2.2.2.2.2.2.2
    | 24, _ => exact e3.1
    | 25, _ => exact e3.2.1
    | 26, _ => exact e3.2.2.1
    | 27, _ => exact e3.2.2.2.1
    | 28, _ => exact e3.2.2.2.2.1
    | 29, _ => exact e3.2.2.2.2.2.1
    | 30, _ => exact e3.2.2.2.2.2.2.1
    | 31, _ => exact e3.2.2.2.2.2.2.2
    | n + 32, h => exact absurd h (by omega)
  rw [list32 xs hl, list32 ys hly]
  exact List.map_congr_left fun j hj => key j (List.mem_range.1 hj)

theorem pick_next {c : Int} (hc : Word c) : IntKind.u64.wrap (c + 1) % 2 = (c + 1) % 2 ∧ Word (IntKind.u64.wrap (c + 1)) := by
  rw [IntKind.wrap_u64]
  obtain ⟨_, _⟩ := hc
  exact ⟨by omega, by omega, by omega⟩
theorem eqN_self (x : Nm) (w : World) : (binOp .eql 24 (N x) (N x)).run Try.prog w = .ok (.bool true) w := by rw [eqN, Nm.beq_self]
theorem eqN_ne {x y : Nm} (h : x ≠ y) (w : World) : (binOp .eql 24 (N x) (N y)).run Try.prog w = .ok (.bool false) w := by rw [eqN, Nm.beq_ne h]
theorem eqW_self (l h : Nm) (w : World) : (binOp .eql 35 (Wv l h) (Wv l h)).run Try.prog w = .ok (.bool true) w := by
  rw [eqW, Nm.beq_self, Nm.beq_self]; rfl
theorem of_to {xs : List Int} {y : Nm} (hl : xs.length = 32) (hx : ∀ x ∈ xs, 0 ≤ x ∧ x < 256) (e : (⟨acc xs 32 0, acc xs 32 1, acc xs 32 2, acc xs 32 3⟩ : Nm) = y) (w : World) :
    Calls Try.prog 16 #[Bs xs] w fun e w' => e = .returned (N y) ∧ Below w.heap.size w w' := by
  rw [← e]; exact of_fun xs hl hx w
theorem bytes_to {y : Nm} {xs : List Int} (e : bytesOf y = xs) (w : World) :
    Calls Try.prog 17 #[N y] w fun e w' => e = .returned (Bs xs) ∧ Below w.heap.size w w' := by
  rw [← e]; exact bytes_fun y w
theorem pick_to {c : Int} {x y z : Nm} (hc : Word c) (hx : x.ok) (hy : y.ok) (e : pick c x y = z) (w : World) :
    Calls Try.prog 15 #[.int .u64 c, N x, N y] w fun e w' => e = .returned (N z) ∧ Below w.heap.size w w' := by
  rw [← e]; exact pick_fun c x y hc hx hy w

set_option maxHeartbeats 2000000 in
theorem bytes_core (x y : Nm) (xs : List Int) (l h : Nm) (c : Int) (hx : x.ok) (hy : y.ok) (hl : xs.length = 32) (hxs : ∀ x ∈ xs, 0 ≤ x ∧ x < 256) (hc : Word c) (one other : Nm)
    (e1 : pick c x y = one) (e2 : pick (IntKind.u64.wrap (c + 1)) x y = other) (b1 b2 b3 b4 : Bool)
    (q1 : ∀ w, (binOp .eql 24 (N one) (N x)).run Try.prog w = .ok (.bool b1) w) (q2 : ∀ w, (binOp .eql 24 (N other) (N y)).run Try.prog w = .ok (.bool b2) w)
    (q3 : ∀ w, (binOp .eql 24 (N one) (N y)).run Try.prog w = .ok (.bool b3) w) (q4 : ∀ w, (binOp .eql 24 (N other) (N x)).run Try.prog w = .ok (.bool b4) w)
    (hb : (b1 = true ∧ b2 = true) ∨ (b1 = false ∧ b3 = true ∧ b4 = true)) (w : World) :
    Calls Try.prog 6 #[N x, N y, Bs xs, Wv l h, .int .u64 c] w fun e w' => e = .returned (.bool true) ∧ Below w.heap.size w w' := by
  have HXS : Hid _ := hxs
  have E1 : Hid _ := e1
  have E2 : Hid _ := e2
  have HC : Hid _ := hc
  have s1 := eqN_self x
  have s2 := eqB_self xs hl
  have s3 := eqW_self l h
  clear hxs e1 e2 hc
  go_enter Try.func6, Try.ntmps6
  go_wp2_with fail
  refine (pick_to (pick_next HC.out).2 hx hy E2.out _).mono ?_
  rintro e w1 ⟨rfl, hb1⟩
  have Lx : Hid (Lies w1 w.heap.size x) := Lies.up (by constructor <;> simp [go_sem]) hb1
  have Ly : Hid (Lies w1 (w.heap.size + 1) y) := Lies.up (by constructor <;> simp [go_sem]) hb1
  have Ls : Hid (LiesB w1 (w.heap.size + 1 + 1) xs) := LiesB.up (LiesB.of_block (C := (xs.map (Value.int .u8)).toArray) (t := 38) (by
    rw [Below.heap_alloc _ _ _ (by simp)]
    have := (MapKept.heap_alloc ((w.alloc (.cells #[.int .u64 x.a, .int .u64 x.b, .int .u64 x.c, .int .u64 x.d] 24)).alloc (.cells #[.int .u64 y.a, .int .u64 y.b, .int .u64 y.c, .int .u64 y.d] 24)) (.cells (xs.map (Value.int .u8)).toArray 38)).1
    simpa using this) (by simp)) hb1
  have Lw : Hid (Lies8 w1 (w.heap.size + 1 + 1 + 1) l h) := Lies8.up (by constructor <;> simp [go_sem]) hb1
  have b1 : Hid (Below w.heap.size w w1) := by
    refine Below.trans ?_ (hb1.mono (by simp <;> omega))
    repeat (first | exact Below.refl _ _ | refine Below.alloc ?_ (by simp <;> omega) _)
  clear hb1
  obtain ⟨x0, x1, x2, x3⟩ := Lx.out
  obtain ⟨y0, y1, y2, y3⟩ := Ly.out
  go_wp2_with fail
  clear x0 x1 x2 x3 y0 y1 y2 y3
  refine (pick_to HC.out hx hy E1.out _).mono ?_
  rintro e w2 ⟨rfl, hb2⟩
  have Lx2 : Hid _ := (Lx.out.alloc (.cells #[.int .u64 other.a, .int .u64 other.b, .int .u64 other.c, .int .u64 other.d] 24)).up hb2
  have Ly2 : Hid _ := (Ly.out.alloc (.cells #[.int .u64 other.a, .int .u64 other.b, .int .u64 other.c, .int .u64 other.d] 24)).up hb2
  have Ls2 : Hid _ := (LiesB.up Ls.out ((Below.refl _ _).alloc (Nat.le_refl _) (.cells #[.int .u64 other.a, .int .u64 other.b, .int .u64 other.c, .int .u64 other.d] 24))).up hb2
  have Lw2 : Hid _ := (Lw.out.alloc (.cells #[.int .u64 other.a, .int .u64 other.b, .int .u64 other.c, .int .u64 other.d] 24)).up hb2
  have Lo2 : Hid _ := (Lies.new w1 other 24).up hb2
  have b2' : Hid (Below w.heap.size w w2) := (b1.out.alloc b1.out.size _).trans (hb2.mono (by have := b1.out.size; simp; omega))
  clear hb2 Lx Ly Ls Lw b1
  go_wp2_with fail
  rcases hb with ⟨rfl, rfl⟩ | ⟨rfl, rfl, rfl⟩
  all_goals
    refine wp_region_up (by kernel_rfl) (by kernel_rfl) (fun U hU f hf hcl => ?_)
    have q := fun n => Lies.up (x := x) (k := w.heap.size) (Lx2.out.alloc _) (hf n).out
    have q_a := fun n => (q n).a
    have q_b := fun n => (q n).b
    have q_c := fun n => (q n).c
    have q_d := fun n => (q n).d
    clear q
    have p := fun n => Lies.up (x := y) (k := w.heap.size + 1) (Ly2.out.alloc _) (hf n).out
    have p_a := fun n => (p n).a
    have p_b := fun n => (p n).b
    have p_c := fun n => (p n).c
    have p_d := fun n => (p n).d
    clear p
    have t := fun n => Lies8.up (l := l) (h := h) (k := w.heap.size + 1 + 1 + 1) (Lw2.out.alloc _) (hf n).out
    have t_a := fun n => (t n).a
    have t_b := fun n => (t n).b
    have t_c := fun n => (t n).c
    have t_d := fun n => (t n).d
    have t_e := fun n => (t n).e
    have t_f := fun n => (t n).f
    have t_g := fun n => (t n).g
    have t_i := fun n => (t n).i
    clear t
    have r := fun n => Lies.up (x := other) (k := w1.heap.size) (Lo2.out.alloc _) (hf n).out
    have r_a := fun n => (r n).a
    have r_b := fun n => (r n).b
    have r_c := fun n => (r n).c
    have r_d := fun n => (r n).d
    clear r
    have v := fun n => Lies.up (x := one) (k := w2.heap.size) (Lies.new w2 one 24) (hf n).out
    have v_a := fun n => (v n).a
    have v_b := fun n => (v n).b
    have v_c := fun n => (v n).c
    have v_d := fun n => (v n).d
    clear v
    repeat (go_big_quiet_step (fail))
    go_big_quiet_step ((exact (bytes_to rfl _).mono fun e w'' ⟨he, hb⟩ => ⟨he, hcl.out _ _ hb⟩))
    repeat (go_big_quiet_step (fail))
    go_big_quiet_step ((exact (of_to (bytesOf_length x) bytes_ok (of_bytes hx) _).mono fun e w'' ⟨he, hb⟩ => ⟨he, hcl.out _ _ hb⟩))
    repeat (go_big_quiet_step (fail))
    refine quiet_load rfl 38 (.tmp 7) rfl (w.heap.size + 1 + 1) rfl (xs.map (Value.int .u8)) _ (fun w' hw' => by obtain ⟨n, rfl⟩ := hw'; exact LiesB.up (xs := xs) (LiesB.up (xs := xs) (k := w.heap.size + 1 + 1) Ls2.out ((Below.refl _ _).alloc (Nat.le_refl _) _)) (hf n).out) Try.underlying38 rfl (info_len hl) ?_
    simp only [Act.put, List.setIfInBounds_toArray, List.set_cons_succ, List.set_cons_zero]
    repeat (go_big_quiet_step (fail))
    go_big_quiet_step ((exact (of_fun xs hl HXS.out _).mono fun e w'' ⟨he, hb⟩ => ⟨he, hcl.out _ _ hb⟩))
    repeat (go_big_quiet_step (fail))
    go_big_quiet_step ((exact (bytes_to (bytes_of hl HXS.out) _).mono fun e w'' ⟨he, hb⟩ => ⟨he, hcl.out _ _ hb⟩))
    repeat (go_big_quiet_step (fail))
    refine quiet_load rfl 38 (.tmp 7) rfl (w.heap.size + 1 + 1) rfl (xs.map (Value.int .u8)) _ (fun w' hw' => by obtain ⟨n, rfl⟩ := hw'; exact LiesB.up (xs := xs) (LiesB.up (xs := xs) (k := w.heap.size + 1 + 1) Ls2.out ((Below.refl _ _).alloc (Nat.le_refl _) _)) (hf n).out) Try.underlying38 rfl (info_len hl) ?_
    simp only [Act.put, List.setIfInBounds_toArray, List.set_cons_succ, List.set_cons_zero]
    repeat (go_big_quiet_step (fail))
    go_big_quiet_step ((exact (low_fun l h _).mono fun e w'' ⟨he, hb⟩ => ⟨he, hcl.out _ _ hb⟩))
    repeat (go_big_quiet_step (fail))
    go_big_quiet_step ((exact (high_fun l h _).mono fun e w'' ⟨he, hb⟩ => ⟨he, hcl.out _ _ hb⟩))
    repeat (go_big_quiet_step (fail))
    go_big_quiet_step ((exact (wideOf_fun l h _).mono fun e w'' ⟨he, hb⟩ => ⟨he, hcl.out _ _ hb⟩))
    repeat (go_big_quiet_step (fail))
    refine wpQuiet_nil ?_
    intro n
    have hb5 := (hf n).out
    generalize f n = w5 at hb5 ⊢
    have b5 : Hid (Below w.heap.size w w5) := (b2'.out.alloc b2'.out.size _).trans (hb5.mono (by have := b2'.out.size; simp; omega))
    clear hb5 hf hcl
    go_wp2_with fail
    go_ret
    exact ⟨rfl, b5.out⟩

theorem bytes_law (x y : Nm) (xs : List Int) (l h : Nm) (c : Int) (hx : x.ok) (hy : y.ok) (hl : xs.length = 32) (hxs : ∀ x ∈ xs, 0 ≤ x ∧ x < 256) (_ol : l.ok) (_oh : h.ok) (hc : Word c) (w : World) :
    Calls Try.prog 6 #[N x, N y, Bs xs, Wv l h, .int .u64 c] w fun e w' => e = .returned (.bool true) ∧ Below w.heap.size w w' := by
  have hn := (pick_next hc).1
  by_cases e : c % 2 = 0
  · exact bytes_core x y xs l h c hx hy hl hxs hc x y (by unfold pick; rw [if_pos e]) (by unfold pick; rw [if_neg (by omega)]) true true _ _ (eqN_self x) (eqN_self y) (eqN x y) (eqN y x) (.inl ⟨rfl, rfl⟩) w
  · by_cases exy : y = x
    · subst exy
      exact bytes_core y y xs l h c hx hy hl hxs hc y y (by unfold pick; split <;> rfl) (by unfold pick; split <;> rfl) true true true true (eqN_self y) (eqN_self y) (eqN_self y) (eqN_self y) (.inl ⟨rfl, rfl⟩) w
    · exact bytes_core x y xs l h c hx hy hl hxs hc y x (by unfold pick; rw [if_neg e]) (by unfold pick; rw [if_pos (by omega)]) false _ true true (eqN_ne exy) (eqN x y) (eqN_self y) (eqN_self x) (.inr ⟨rfl, rfl, rfl⟩) w

set_option maxRecDepth 100000 in
theorem limbBytes_lifted (os : Os) (started : os.Started) (H : Type) (enc : TypeId × Value → H) :
    ReturnsInHanded {} Try.checked os 6 .any (Rows.limbBytesSpec.pre6 enc Try.prog Try.f6 Rows.limbBytesRow.domain false) (Rows.limbBytesSpec.post enc Try.prog Try.f6 false true false false) := by
  refine returnsInHanded_of_change (C := Try.checked) Try.own started (by kernel_rfl) Try.func6
    (ChangeSpec.witness6 (enc := enc) (C := Try.checked) false ⟨#[], #[.agg #[.int .u64 0, .int .u64 0, .int .u64 0, .int .u64 0], .agg #[.int .u64 0, .int .u64 0, .int .u64 0, .int .u64 0], .agg #[.int .u8 0, .int .u8 0, .int .u8 0, .int .u8 0, .int .u8 0, .int .u8 0, .int .u8 0, .int .u8 0, .int .u8 0, .int .u8 0, .int .u8 0, .int .u8 0, .int .u8 0, .int .u8 0, .int .u8 0, .int .u8 0, .int .u8 0, .int .u8 0, .int .u8 0, .int .u8 0, .int .u8 0, .int .u8 0, .int .u8 0, .int .u8 0, .int .u8 0, .int .u8 0, .int .u8 0, .int .u8 0, .int .u8 0, .int .u8 0, .int .u8 0, .int .u8 0], .agg #[.int .u64 0, .int .u64 0, .int .u64 0, .int .u64 0, .int .u64 0, .int .u64 0, .int .u64 0, .int .u64 0], .int .u64 0], []⟩ 8 (by kernel_rfl) (by kernel_rfl) (by kernel_rfl) (by kernel_rfl)) ?_
  intro W base args ds gs before hval0 hW hcnd _
  have hval : ∀ (j : Nat) t v, Try.f6.params[j]? = some t → args[j]? = some v → Value.okWide Try.prog W .any base t v := hval0
  have hW' := hW
  obtain ⟨p, q, hA0, hV, rfl, hfz, hnd⟩ := hW
  have hA : DataW.TrodAll enc Try.prog W 0 (fun _ => true) true Try.f6.params.toList args.toList ds p := hA0
  rw [Try.params6] at hA hval
  obtain ⟨v0, vs0, d0, ds0, p0, q0, hargs, rfl, rfl, h0, r0⟩ := trodAll_cons hA
  obtain ⟨v1, vs1, d1, ds1, p1, q1, rfl, rfl, rfl, h1, r1⟩ := trodAll_cons r0
  obtain ⟨v2, vs2, d2, ds2, p2, q2, rfl, rfl, rfl, h2, r2⟩ := trodAll_cons r1
  obtain ⟨v3, vs3, d3, ds3, p3, q3, rfl, rfl, rfl, h3, r3⟩ := trodAll_cons r2
  obtain ⟨v4, vs4, d4, ds4, p4, q4, rfl, rfl, rfl, h4, r4⟩ := trodAll_cons r3
  obtain ⟨rfl, rfl, rfl⟩ := trodAll_nil r4
  obtain ⟨rfl, rfl⟩ := trodVars_none hV
  have eargs : args = #[v0, v1, v2, v3, v4] := by
    obtain ⟨l⟩ := args
    simp at hargs
    simp [hargs]
  subst eargs
  obtain ⟨xs0, l0, rfl, rfl, rfl, w0⟩ := open_arr Try.underlying24 Try.underlying22 Try.cellsU64 Try.cellsNum (hval 0 24 v0 rfl rfl) h0
  obtain ⟨xs1, l1, rfl, rfl, rfl, w1⟩ := open_arr Try.underlying24 Try.underlying22 Try.cellsU64 Try.cellsNum (hval 1 24 v1 rfl rfl) h1
  obtain ⟨xs2, l2, rfl, rfl, rfl, w2⟩ := open_arr Try.underlying38 Try.underlying5 Try.cellsU8 Try.cellsB32 (hval 2 38 v2 rfl rfl) h2
  obtain ⟨xs3, l3, rfl, rfl, rfl, w3⟩ := open_arr Try.underlying35 Try.underlying22 Try.cellsU64 Try.cellsWide (hval 3 35 v3 rfl rfl) h3
  obtain ⟨x4, rfl, rfl, rfl, w4⟩ := open_int Try.underlying22 (hval 4 22 v4 rfl rfl) h4
  clear hA0 hval0 hval hA h0 h1 h2 h3 h4 hargs r0 r1 r2 r3
  obtain ⟨a0, b0, c0, d0, rfl⟩ := list4 xs0 l0
  have ok0 : (⟨a0, b0, c0, d0⟩ : Nm).ok := ⟨word_of_wf (w0 _ (by simp)), word_of_wf (w0 _ (by simp)), word_of_wf (w0 _ (by simp)), word_of_wf (w0 _ (by simp))⟩
  obtain ⟨a1, b1, c1, d1, rfl⟩ := list4 xs1 l1
  have ok1 : (⟨a1, b1, c1, d1⟩ : Nm).ok := ⟨word_of_wf (w1 _ (by simp)), word_of_wf (w1 _ (by simp)), word_of_wf (w1 _ (by simp)), word_of_wf (w1 _ (by simp))⟩
  obtain ⟨a3, b3, c3, d3, e3, f3, g3, i3, rfl⟩ := list8 xs3 l3
  have ok3 : (⟨a3, b3, c3, d3⟩ : Nm).ok := ⟨word_of_wf (w3 _ (by simp)), word_of_wf (w3 _ (by simp)), word_of_wf (w3 _ (by simp)), word_of_wf (w3 _ (by simp))⟩
  have okk3 : (⟨e3, f3, g3, i3⟩ : Nm).ok := ⟨word_of_wf (w3 _ (by simp)), word_of_wf (w3 _ (by simp)), word_of_wf (w3 _ (by simp)), word_of_wf (w3 _ (by simp))⟩
  simp only [List.append_nil] at hW'
  refine (bytes_law ⟨a0, b0, c0, d0⟩ ⟨a1, b1, c1, d1⟩ xs2 ⟨a3, b3, c3, d3⟩ ⟨e3, f3, g3, i3⟩ x4 ok0 ok1 l2 (fun z hz => byte_of_wf (w2 z hz)) ok3 okk3 (word_of_wf w4) W).mono fun e W' ⟨he, hg⟩ => ?_
  subst he
  exact ⟨_, rfl, _, _, _, [], [], [], hW', trodAll_mk1 (shut_bool Try.underlying4 _), trodAll_cons_mk (shut_arr Try.underlying24 Try.underlying22 Try.cellsU64 Try.cellsNum l0 w0) (trodAll_cons_mk (shut_arr Try.underlying24 Try.underlying22 Try.cellsU64 Try.cellsNum l1 w1) (trodAll_cons_mk (shut_arr Try.underlying38 Try.underlying5 Try.cellsU8 Try.cellsB32 l2 w2) (trodAll_cons_mk (shut_arr Try.underlying35 Try.underlying22 Try.cellsU64 Try.cellsWide l3 w3) (trodAll_cons_mk (shut_int Try.underlying22 w4) (trodAll_mk0))))), rfl, hg.frame _, fun h => by cases h⟩

theorem limbBytes_holds : Rows.LimbBytesSaid :=
  OpenClaim.holds_of_wide 6 Try.f6 rfl rfl rfl rfl rfl rfl rfl ⟨rfl, rfl, rfl, rfl, rfl⟩ rfl rfl rfl rfl rfl (by kernel_rfl) Try.func6 (by kernel_rfl)
    (of_decide_eq_true (by kernel_rfl)) (by unfold Func.isWrapper; first | (rw [if_pos (by decide +kernel)]; kernel_rfl) | (rw [if_neg (by decide +kernel)]; exact ⟨rfl, rfl⟩))
    (fun os started H enc _ => limbBytes_lifted os started H enc)
#print axioms limbBytes_holds
end Go.Proofs.Ytfnpjadfedmjiab
