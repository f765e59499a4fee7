/- DerNumbers returns true for every number, every slice of bytes and every text: numbers and signs are told and read as the document says. -/
import Derived.Test.YtkgfeacednomfaaNumRL
import Derived.Test.YtkgfeacednomfaaEq
import Derived.Test.YtkgfeacednomfaaOpenI
import Derived.SizedLaws
import Derived.ShutString
import Derived.ChangeMaps5
namespace Go.Proofs.Ytkgfeacednomfaa
open Go.RowKit
open Go.ChangeShapes Go.WideShapes Go.ChangeAt Go.ChangeMaps
set_option linter.unusedSimpArgs false
attribute [local go_sem] YieldsP execOp cell_al
attribute [local simp] MP.eq_p
def MP.by (xs : List Nat) : MP := ⟨fun v w => By w v xs, fun h hb => h.up hb (Nat.le_refl _)⟩
theorem MP.by_p (xs : List Nat) (v : Value) (w : World) : (MP.by xs).p v w = By w v xs := rfl
attribute [local simp] MP.by_p
theorem Try.cellsNum : Try.prog.cellsOf 24 = 4 := by kernel_rfl
theorem Try.cellsU64 : Try.prog.cellsOf 22 = 1 := by kernel_rfl
theorem Try.bytesU8 : Try.prog.bytesOf 5 = 1 := by kernel_rfl
theorem len_of_trod {H : Type} {enc : TypeId × Value → H} {w : World} {base : Nat} {spare : Nat → Bool} {held : Bool} {fuel n c : Nat} {a : Option Addr} {x : DataW H × List MemPlace} (h : DataW.trod enc Try.prog w base spare held fuel 57 [.slice a n c] = some x) : (x.1 = .nil ∧ n = 0) ∨ ∃ es sp, x.1 = .slice es sp ∧ es.length = n := by
  rcases open_ints Try.uBytes Try.uU8 Try.cellsU8 h with ⟨hcs, hx⟩ | ⟨a', len, cap, zs, hcs, _, hl, hm, hz, hx, hcell, hwz⟩
  · left
    simp only [List.cons.injEq, Value.slice.injEq, and_true] at hcs
    exact ⟨by rw [hx], hcs.2.1⟩
  · right
    simp only [List.cons.injEq, Value.slice.injEq, and_true] at hcs
    obtain ⟨_, rfl, rfl⟩ := hcs
    refine ⟨_, _, by rw [hx], ?_⟩
    simp only [lits, List.length_map, List.length_take, hz]
    split <;> omega
theorem numIs_one {b : List Nat} {e : Ending} (h : NumIs b e) : ∃ r n, e = .returned (.tuple #[N r, i64 n]) ∧ ∀ e', NumIs b e' → e' = .returned (.tuple #[N r, i64 n]) := by
  rcases h with ⟨n, hn, he⟩ | ⟨X, hX, he⟩
  · refine ⟨_, _, he, ?_⟩
    rintro e' (⟨n', hn', he'⟩ | ⟨X', hX', _⟩)
    · rw [hn] at hn'
      rw [he', Sum.inl.inj hn']
    · rw [hn] at hX'; cases hX'
  · refine ⟨_, _, he, ?_⟩
    rintro e' (⟨n', hn', _⟩ | ⟨X', hX', he'⟩)
    · rw [hX] at hn'; cases hn'
    · rw [hX] at hX'
      rw [he', Sum.inr.inj hX']
theorem hex_one {cs : List Nat} {e : Ending} {w' : World} (h : (∃ u bs, e = .returned (.tuple #[u, .int .i64 0]) ∧ By w' u bs ∧ (∀ y ∈ bs, y < 256) ∧ hexS bs = cs) ∨ ((¬ ∃ bs, (∀ y ∈ bs, y < 256) ∧ hexS bs = cs) ∧ e = .returned (.tuple #[.slice none 0 0, .int .i64 4]))) :
    ∃ u bs, ∃ m : Int, e = .returned (.tuple #[u, .int .i64 m]) ∧ By w' u bs ∧ ∀ e', RHt cs e' → e' = .returned (.tuple #[.string (sOf bs), .int .i64 m]) := by
  rcases h with ⟨u, bs, he, hu, lo, hh⟩ | ⟨hno, he⟩
  · refine ⟨u, bs, 0, he, hu, ?_⟩
    rintro e' (⟨bs', he', lo', hh'⟩ | ⟨hno, _⟩)
    · rw [he', hexS_inj lo lo' (hh.trans hh'.symm)]
    · exact absurd ⟨bs, lo, hh⟩ hno
  · refine ⟨_, [], 4, he, By.nil _, ?_⟩
    rintro e' (⟨bs', _, lo', hh'⟩ | ⟨_, he'⟩)
    · exact absurd ⟨bs', lo', hh'⟩ hno
    · exact he'
set_option maxRecDepth 20000 in
set_option maxHeartbeats 4000000 in
theorem derNumbers_law (a : Nm) (oa : a.ok) (v : Value) (b : List Nat) (lo : lowB b) (hl : b.length ≤ 140737488351232) (s : ByteArray) (hs : s.size ≤ 140737488351232) (w : World) (h : By w v b) :
    Calls Try.prog 7 #[N a, v, .string s] w fun e w' => e = .returned (.bool true) ∧ Below w.heap.size w w' := by
  obtain ⟨cs, lc, rfl⟩ := sOf_all s
  rw [sOf_size] at hs
  have NA : Hid (∀ W, Calls Try.prog 51 #[N a] W fun e w' => (∃ u, e = .returned u ∧ By w' u (numT a.nat)) ∧ Below W.heap.size W w') := fun W => number_fun a oa W
  have NT : Hid _ := numberText_fun a oa
  have HF : Hid (∀ W, By W v b → _) := fun W => hex_fun v b lo hl W
  have HT : Hid (∀ W, By W v b → _) := fun W => hexText_fun v b lo hl W
  have RH : Hid _ := readHex_fun cs lc (by omega)
  have RT : Hid _ := rReadHex_fun cs lc (by omega)
  have RN : Hid (∀ W, By W v b → _) := fun W => readNumber_fun v b lo W
  have RR : Hid _ := rReadNumber_fun b lo
  have H : Hid (By w v b) := h
  generalize a.nat = X at *
  obtain ⟨sT, hsT⟩ : ∃ sT, sT = sOf cs := ⟨_, rfl⟩
  rw [← hsT] at RH RT ⊢
  clear h lo lc hl hs oa hsT
  go_enter Try.func7, Try.ntmps7
  go_wp2_with fail
  refine (RN.out _ (H.out.up ((Below.refl _ _).alloc (Nat.le_refl _) _) (Nat.le_refl _))).mono ?_
  rintro e w1 ⟨he, hb⟩
  obtain ⟨r, n, rfl, hr⟩ := numIs_one he
  have HR : Hid (∀ e', NumIs b e' → e' = .returned (.tuple #[N r, i64 n])) := hr
  have A1 : Hid (w1.heap[w.heap.size]? = some (.cells #[.int .u64 a.a, .int .u64 a.b, .int .u64 a.c, .int .u64 a.d] 24 (0, 0))) := (hb.block _ (by simp)).trans (heap_alloc_new w _)
  have B1 : Hid (Below w.heap.size w w1) := ((Below.refl _ _).alloc (Nat.le_refl _) _).trans (hb.mono (by simp))
  have V1 : Hid (∀ o, By (w1.alloc o) v b) := (fun o => H.out.up (B1.out.alloc B1.out.size _) (Nat.le_refl _) : ∀ o, By (w1.alloc o) v b)
  clear hb he hr RN
  go_wp2_with (refine wp_conv rfl (.tmp 21) rfl v b rfl (V1.out _) ?_)
  refine (RR.out _).mono ?_
  rintro e w2 ⟨he, hb⟩
  have he2 := HR.out e he
  subst he2
  have A2 : Hid (w2.heap[w.heap.size]? = _) := (hb.block _ (Nat.lt_of_lt_of_le (Array.getElem?_eq_some_iff.1 A1.out).1 (by simp))).trans ((heap_alloc_old w1 _ (Array.getElem?_eq_some_iff.1 A1.out).1).trans A1.out)
  have X2 : Hid (w2.heap[w1.heap.size]? = some (.cells #[.int .u64 r.a, .int .u64 r.b, .int .u64 r.c, .int .u64 r.d] 24 (0, 0))) := (hb.block _ (by simp)).trans (heap_alloc_new w1 _)
  have B2 : Hid (Below w.heap.size w w2) := (B1.out.alloc B1.out.size _).trans (hb.mono (by have := B1.out.size; simp; omega))
  clear hb he HR RR A1 V1
  go_wp2_with fail
  refine (RH.out _).mono ?_
  rintro e w3 ⟨he, hb⟩
  obtain ⟨u, bs, m, rfl, hu, hr⟩ := hex_one he
  have HR : Hid (∀ e', RHt cs e' → e' = .returned (.tuple #[.string (sOf bs), .int .i64 m])) := hr
  have U3 : Hid (By w3 u bs) := hu
  have A3 : Hid (w3.heap[w.heap.size]? = _) := (hb.block _ (Nat.lt_of_lt_of_le (Array.getElem?_eq_some_iff.1 A2.out).1 (by simp))).trans ((heap_alloc_old w2 _ (Array.getElem?_eq_some_iff.1 A2.out).1).trans A2.out)
  have X3 : Hid (w3.heap[w1.heap.size]? = _) := (hb.block _ (Nat.lt_of_lt_of_le (Array.getElem?_eq_some_iff.1 X2.out).1 (by simp))).trans ((heap_alloc_old w2 _ (Array.getElem?_eq_some_iff.1 X2.out).1).trans X2.out)
  have Y3 : Hid (w3.heap[w2.heap.size]? = some (.cells #[.int .u64 r.a, .int .u64 r.b, .int .u64 r.c, .int .u64 r.d] 24 (0, 0))) := (hb.block _ (by simp)).trans (heap_alloc_new w2 _)
  have B3 : Hid (Below w.heap.size w w3) := (B2.out.alloc B2.out.size _).trans (hb.mono (by have := B2.out.size; simp; omega))
  clear hb he hr hu RH A2 X2 B1 B2
  go_wp2_with fail
  refine (RT.out _).mono ?_
  rintro e w4 ⟨he, hb⟩
  have he2 := HR.out e he
  subst he2
  have U4 : Hid (∀ W, Below w4.heap.size w4 W → (convert 57 9 u).run Try.prog W = .ok (.string (sOf bs)) W) := (fun W hW => bytes_conv ((U3.out.up hb (Nat.le_refl _)).up hW (Nat.le_refl _)) : ∀ W, Below w4.heap.size w4 W → (convert 57 9 u).run Try.prog W = .ok (.string (sOf bs)) W)
  have A4 : Hid (w4.heap[w.heap.size]? = _) := (hb.block _ (Array.getElem?_eq_some_iff.1 A3.out).1).trans A3.out
  have X4 : Hid (w4.heap[w1.heap.size]? = _) := (hb.block _ (Array.getElem?_eq_some_iff.1 X3.out).1).trans X3.out
  have Y4 : Hid (w4.heap[w2.heap.size]? = _) := (hb.block _ (Array.getElem?_eq_some_iff.1 Y3.out).1).trans Y3.out
  have B4 : Hid (Below w.heap.size w w4) := B3.out.trans (hb.mono B3.out.size)
  have V4 : Hid (∀ W, Below w4.heap.size w4 W → By W v b) := (fun W hW => (H.out.up B4.out (Nat.le_refl _)).up hW (Nat.le_refl _) : ∀ W, Below w4.heap.size w4 W → By W v b)
  have ez := eqN r r
  rw [Nm.beq_self] at ez
  clear hb he HR RT A3 X3 Y3 B3 U3
  generalize sOf bs = tb at *
  generalize hth : sOf (hexS b) = th at *
  clear hth
  go_wp2_with fail
  refine wp_region_monoE [MP.eq (N a), MP.by (numT X), MP.eq (.string (sOf (numT X))), MP.eq (N a), MP.eq (.string (sOf (numT X))), MP.eq (.bool true), MP.eq (.bool true), MP.eq (N r), MP.eq (N r), MP.eq (.bool true), MP.eq (.bool true), MP.eq (.bool true), MP.eq (i64 n), MP.eq (i64 n), MP.eq (.bool true), MP.eq (.bool true), MP.eq (.bool true), MP.eq (v), MP.eq (.string th), MP.eq (v), MP.eq (.string th), MP.eq (.bool true), MP.eq (.bool true), MP.eq (.bool true), MP.eq (u), MP.eq (.string tb), MP.eq (.string tb), MP.eq (.bool true), MP.eq (.bool true), MP.eq (.bool true), MP.eq (.int .i64 m), MP.eq (.int .i64 m), MP.eq (.bool true), MP.eq (.bool true), MP.eq (.bool true)] (by kernel_rfl) (by kernel_rfl) rfl ?_
  apply Exists.intro
  refine ⟨fun vals => ?_, ?_, fun vals5 w5 hb5 hF => ?_⟩
  · simp only [putsV, dstL, List.length_cons, List.length_nil, Nat.zero_add, Nat.reduceAdd, List.getElem?_cons_zero, List.getElem?_cons_succ, Option.bind_some, Act.put, List.setIfInBounds_toArray, List.set_cons_succ, List.set_cons_zero]
    rfl
  · refine ⟨?_, ?_, ?_, ?_, ?_, ?_, ?_, ?_, ?_, ?_, ?_, ?_, ?_, ?_, ?_, ?_, ?_, ?_, ?_, ?_, ?_, ?_, ?_, ?_, ?_, ?_, ?_, ?_, ?_, ?_, ?_, ?_, ?_, ?_, ?_, trivial⟩
    · intro vals W hW hw hd
      try simp [Region.binds] at hd
      refine ⟨by first | rfl | simp [Region.wanted, yielded, hd], ?_⟩
      obtain ⟨u0, u1, u2, u3⟩ := num_cells ((hW.out.block _ (Array.getElem?_eq_some_iff.1 A4.out).1).trans A4.out)
      simp [go_sem, u0, u1, u2, u3]
      exact Below.refl _ _
    · intro vals W hW hw hd
      try simp [Region.binds] at hd
      refine ⟨by first | rfl | simp [Region.wanted, yielded, hd], ?_⟩
      simp [go_sem, hd]
      exact (NA.out W).mono fun e w' ⟨⟨v', he, hs⟩, hb⟩ => ⟨v', he, hs, hb⟩
    · intro vals W hW hw hd
      try simp [Region.binds] at hd
      refine ⟨by first | rfl | simp [Region.wanted, yielded, hd], ?_⟩
      have cv := bytes_conv hd
      simp [go_sem, cv]
      exact Below.refl _ _
    · intro vals W hW hw hd
      try simp [Region.binds] at hd
      refine ⟨by first | rfl | simp [Region.wanted, yielded, hd], ?_⟩
      obtain ⟨u0, u1, u2, u3⟩ := num_cells ((hW.out.block _ (Array.getElem?_eq_some_iff.1 A4.out).1).trans A4.out)
      simp [go_sem, u0, u1, u2, u3]
      exact Below.refl _ _
    · intro vals W hW hw hd
      try simp [Region.binds] at hd
      refine ⟨by first | rfl | simp [Region.wanted, yielded, hd], ?_⟩
      simp [go_sem, hd]
      exact (NT.out W).mono fun e w' ⟨he, hb⟩ => ⟨_, he, rfl, hb⟩
    · intro vals W hW hw hd
      try simp [Region.binds] at hd
      refine ⟨by first | rfl | simp [Region.wanted, yielded, hd], ?_⟩
      simp [go_sem, hd]
      exact Below.refl _ _
    · intro vals W hW hw hd
      try simp [Region.binds] at hd
      refine ⟨by first | rfl | simp [Region.wanted, yielded, hd], ?_⟩
      simp [go_sem, hd]
      exact Below.refl _ _
    · intro vals W hW hw hd
      try simp [Region.binds] at hd
      refine ⟨by first | rfl | simp [Region.wanted, yielded, hd], ?_⟩
      obtain ⟨u0, u1, u2, u3⟩ := num_cells ((hW.out.block _ (Array.getElem?_eq_some_iff.1 X4.out).1).trans X4.out)
      simp [go_sem, hd, u0, u1, u2, u3]
      exact Below.refl _ _
    · intro vals W hW hw hd
      try simp [Region.binds] at hd
      refine ⟨by first | rfl | simp [Region.wanted, yielded, hd], ?_⟩
      obtain ⟨u0, u1, u2, u3⟩ := num_cells ((hW.out.block _ (Array.getElem?_eq_some_iff.1 Y4.out).1).trans Y4.out)
      simp [go_sem, hd, u0, u1, u2, u3]
      exact Below.refl _ _
    · intro vals W hW hw hd
      try simp [Region.binds] at hd
      refine ⟨by first | rfl | simp [Region.wanted, yielded, hd], ?_⟩
      simp [go_sem, hd, ez]
      exact Below.refl _ _
    · intro vals W hW hw hd
      try simp [Region.binds] at hd
      refine ⟨by first | rfl | simp [Region.wanted, yielded, hd], ?_⟩
      simp [go_sem, hd]
      exact Below.refl _ _
    · intro vals W hW hw hd
      try simp [Region.binds] at hd
      refine ⟨by first | rfl | simp [Region.wanted, yielded, hd], ?_⟩
      simp [go_sem, hd]
      exact Below.refl _ _
    · intro vals W hW hw hd
      try simp [Region.binds] at hd
      refine ⟨by first | rfl | simp [Region.wanted, yielded, hd], ?_⟩
      simp [go_sem, hd]
      exact Below.refl _ _
    · intro vals W hW hw hd
      try simp [Region.binds] at hd
      refine ⟨by first | rfl | simp [Region.wanted, yielded, hd], ?_⟩
      simp [go_sem, hd]
      exact Below.refl _ _
    · intro vals W hW hw hd
      try simp [Region.binds] at hd
      refine ⟨by first | rfl | simp [Region.wanted, yielded, hd], ?_⟩
      simp [go_sem, hd]
      exact Below.refl _ _
    · intro vals W hW hw hd
      try simp [Region.binds] at hd
      refine ⟨by first | rfl | simp [Region.wanted, yielded, hd], ?_⟩
      simp [go_sem, hd]
      exact Below.refl _ _
    · intro vals W hW hw hd
      try simp [Region.binds] at hd
      refine ⟨by first | rfl | simp [Region.wanted, yielded, hd], ?_⟩
      simp [go_sem, hd]
      exact Below.refl _ _
    · intro vals W hW hw hd
      try simp [Region.binds] at hd
      refine ⟨by first | rfl | simp [Region.wanted, yielded, hd], ?_⟩
      simp [go_sem, hd]
      exact Below.refl _ _
    · intro vals W hW hw hd
      try simp [Region.binds] at hd
      refine ⟨by first | rfl | simp [Region.wanted, yielded, hd], ?_⟩
      simp [go_sem, hd]
      exact (HF.out W (V4.out W hW.out)).mono fun e w' ⟨he, hb⟩ => ⟨_, he, rfl, hb⟩
    · intro vals W hW hw hd
      try simp [Region.binds] at hd
      refine ⟨by first | rfl | simp [Region.wanted, yielded, hd], ?_⟩
      simp [go_sem, hd]
      exact Below.refl _ _
    · intro vals W hW hw hd
      try simp [Region.binds] at hd
      refine ⟨by first | rfl | simp [Region.wanted, yielded, hd], ?_⟩
      simp [go_sem, hd]
      exact (HT.out W (V4.out W hW.out)).mono fun e w' ⟨he, hb⟩ => ⟨_, he, rfl, hb⟩
    · intro vals W hW hw hd
      try simp [Region.binds] at hd
      refine ⟨by first | rfl | simp [Region.wanted, yielded, hd], ?_⟩
      simp [go_sem, hd]
      exact Below.refl _ _
    · intro vals W hW hw hd
      try simp [Region.binds] at hd
      refine ⟨by first | rfl | simp [Region.wanted, yielded, hd], ?_⟩
      simp [go_sem, hd]
      exact Below.refl _ _
    · intro vals W hW hw hd
      try simp [Region.binds] at hd
      refine ⟨by first | rfl | simp [Region.wanted, yielded, hd], ?_⟩
      simp [go_sem, hd]
      exact Below.refl _ _
    · intro vals W hW hw hd
      try simp [Region.binds] at hd
      refine ⟨by first | rfl | simp [Region.wanted, yielded, hd], ?_⟩
      simp [go_sem, hd]
      exact Below.refl _ _
    · intro vals W hW hw hd
      try simp [Region.binds] at hd
      refine ⟨by first | rfl | simp [Region.wanted, yielded, hd], ?_⟩
      have cv := U4.out W hW.out
      simp [go_sem, hd, cv]
      exact Below.refl _ _
    · intro vals W hW hw hd
      try simp [Region.binds] at hd
      refine ⟨by first | rfl | simp [Region.wanted, yielded, hd], ?_⟩
      simp [go_sem, hd]
      exact Below.refl _ _
    · intro vals W hW hw hd
      try simp [Region.binds] at hd
      refine ⟨by first | rfl | simp [Region.wanted, yielded, hd], ?_⟩
      simp [go_sem, hd]
      exact Below.refl _ _
    · intro vals W hW hw hd
      try simp [Region.binds] at hd
      refine ⟨by first | rfl | simp [Region.wanted, yielded, hd], ?_⟩
      simp [go_sem, hd]
      exact Below.refl _ _
    · intro vals W hW hw hd
      try simp [Region.binds] at hd
      refine ⟨by first | rfl | simp [Region.wanted, yielded, hd], ?_⟩
      simp [go_sem, hd]
      exact Below.refl _ _
    · intro vals W hW hw hd
      try simp [Region.binds] at hd
      refine ⟨by first | rfl | simp [Region.wanted, yielded, hd], ?_⟩
      simp [go_sem, hd]
      exact Below.refl _ _
    · intro vals W hW hw hd
      try simp [Region.binds] at hd
      refine ⟨by first | rfl | simp [Region.wanted, yielded, hd], ?_⟩
      simp [go_sem, hd]
      exact Below.refl _ _
    · intro vals W hW hw hd
      try simp [Region.binds] at hd
      refine ⟨by first | rfl | simp [Region.wanted, yielded, hd], ?_⟩
      simp [go_sem, hd]
      exact Below.refl _ _
    · intro vals W hW hw hd
      try simp [Region.binds] at hd
      refine ⟨by first | rfl | simp [Region.wanted, yielded, hd], ?_⟩
      simp [go_sem, hd]
      exact Below.refl _ _
    · intro vals W hW hw hd
      try simp [Region.binds] at hd
      refine ⟨by first | rfl | simp [Region.wanted, yielded, hd], ?_⟩
      simp [go_sem, hd]
      exact Below.refl _ _
  obtain ⟨f0, f1, f2, f3, f4, f5, f6, f7, f8, f9, f10, f11, f12, f13, f14, f15, f16, f17, f18, f19, f20, f21, f22, f23, f24, f25, f26, f27, f28, f29, f30, f31, f32, f33, f34, _⟩ := hF
  simp only [MP.eq_p] at f0 f2 f3 f4 f5 f6 f7 f8 f9 f10 f11 f12 f13 f14 f15 f16 f17 f18 f19 f20 f21 f22 f23 f24 f25 f26 f27 f28 f29 f30 f31 f32 f33 f34
  rw [f34]
  have B5 : Hid (Below w.heap.size w w5) := B4.out.trans (hb5.out.mono B4.out.size)
  clear f0 f1 f2 f3 f4 f5 f6 f7 f8 f9 f10 f11 f12 f13 f14 f15 f16 f17 f18 f19 f20 f21 f22 f23 f24 f25 f26 f27 f28 f29 f30 f31 f32 f33 f34 hb5
  go_wp2_with fail
  go_ret
  exact ⟨rfl, B5.out⟩
set_option maxRecDepth 100000 in
theorem derNumbers_lifted (os : Os) (started : os.Started) (H : Type) (enc : TypeId × Value → H) :
    ReturnsInHanded {} Try.checked os 7 .any (Rows.derNumbersSpec.pre6 enc Try.prog Try.f7 Rows.derNumbersRow.domain false) (Rows.derNumbersSpec.post enc Try.prog Try.f7 false true false false) := by
  refine returnsInHanded_of_change_sized (C := Try.checked) Try.own started (by kernel_rfl) Try.func7
    (ChangeSpec.witness6 (enc := enc) (C := Try.checked) false ⟨#[], #[.agg #[.int .u64 0, .int .u64 0, .int .u64 0, .int .u64 0], .slice none 0 0, .string ByteArray.empty], []⟩ 8 (by kernel_rfl) (by kernel_rfl) (by kernel_rfl) (by kernel_rfl)) ?_
  intro W base args ds gs before hval0 hW hcnd hsz0 _
  have hsz : (DataW.weightsEach Try.prog (Try.f7.params.toList ++ Rows.derNumbersSpec.plain.varTypes Try.prog) (ds ++ gs)).all (· ≤ reachBytes) = true := hsz0
  have hval : ∀ (j : Nat) t v, Try.f7.params[j]? = some t → args[j]? = some v → Value.okWide Try.prog W .any base t v := hval0
  have hW' := hW
  obtain ⟨p, q, hA0, hV, rfl, hfz, hnd⟩ := hW
  have hA : DataW.TrodAll enc Try.prog W 0 (fun _ => true) true Try.f7.params.toList args.toList ds p := hA0
  rw [Try.params7] at hA hval hsz
  obtain ⟨v0, v1, v2, d0, d1, d2, p0, p1, p2, rfl, rfl, rfl, h0, h1, h2⟩ := trodAll_three hA
  obtain ⟨rfl, rfl⟩ := trodVars_none hV
  simp only [List.append_nil] at hW'
  have hlt : ∀ x ∈ p0 ++ p1 ++ p2, x.block < W.heap.size := fun x hx => by simpa using hW'.lt x (by simpa using hx)
  obtain ⟨xs0, l0, rfl, rfl, rfl, w0⟩ := open_arr Try.underlying24 Try.underlying22 Try.cellsU64 Try.cellsNum (hval 0 24 v0 rfl rfl) h0
  obtain ⟨a0, b0, c0, d0, rfl⟩ := list4 xs0 l0
  have ok0 : (⟨a0, b0, c0, d0⟩ : Nm).ok := ⟨word_of_wf (w0 _ (by simp)), word_of_wf (w0 _ (by simp)), word_of_wf (w0 _ (by simp)), word_of_wf (w0 _ (by simp))⟩
  have hk1 : ∀ W' : World, Below W.heap.size W W' → DataW.Trod enc Try.prog W' 0 (fun b => decide (b < W.heap.size)) true 57 v1 d1 p1 := fun W' hn => Below.trod Try.laidOut (by kernel_rfl) (of_decide_eq_true (by kernel_rfl)) h1 hn (fun x hx => hlt x (by simp [hx]))
  obtain ⟨a1, n1, c1, rfl⟩ := okWide_slice Try.uBytes (hval 1 57 v1 rfl rfl)
  obtain ⟨fuel1, hf1⟩ := h1
  obtain ⟨l1, low1, hI1, len1⟩ := by_of_trod (u := .slice a1 n1 c1) (by simpa [Value.cells] using hf1)
  have z1 : l1.length ≤ 140737488351232 := by
    obtain ⟨a', c', e, _⟩ := hI1
    have en : n1 = l1.length := by cases e; rfl
    rw [← en]
    rcases len_of_trod (by simpa [Value.cells] using hf1) with ⟨_, h⟩ | ⟨es, sp, hd, h⟩
    · omega
    · simp only at hd
      subst hd
      have := sized_slice hsz (j := 1) (t := 57) (e := 5) rfl rfl Try.uBytes
      rw [Try.bytesU8] at this
      simp only [reachBytes] at this
      omega
  obtain ⟨s2, rfl, rfl, rfl, w2⟩ := open_string Try.uStr (hval 2 9 v2 rfl rfl) h2
  have z2 : s2.size ≤ 140737488351232 := by
    have := sized_string hsz (j := 2) (t := 9) rfl rfl
    simp only [reachBytes, Array.length_toList] at this
    exact this
  refine (derNumbers_law ⟨a0, b0, c0, d0⟩ ok0 _ l1 low1 z1 s2 z2 W hI1).mono fun e W' ⟨he, hg⟩ => ?_
  subst he
  exact ⟨_, rfl, _, _, _, [], _, [], hW', trodAll_mk1 (shut_bool Try.underlying4 _), trodAll_mk3 (shut_arr Try.underlying24 Try.underlying22 Try.cellsU64 Try.cellsNum l0 w0) (hk1 _ hg) (shut_string Try.uStr w2), rfl, hg.frame _, fun h => by cases h⟩

theorem derNumbers_holds : Rows.DerNumbersSaid :=
  OpenClaim.holds_of_wide 7 Try.f7 rfl rfl rfl rfl rfl rfl rfl ⟨rfl, rfl, rfl, rfl, rfl⟩ rfl rfl rfl rfl rfl (by kernel_rfl) Try.func7 (by kernel_rfl)
    (of_decide_eq_true (by kernel_rfl)) (by unfold Func.isWrapper; first | (rw [if_pos (by decide +kernel)]; kernel_rfl) | (rw [if_neg (by decide +kernel)]; exact ⟨rfl, rfl⟩))
    (fun os started H enc _ => derNumbers_lifted os started H enc)
#print axioms derNumbers_holds
end Go.Proofs.Ytkgfeacednomfaa
