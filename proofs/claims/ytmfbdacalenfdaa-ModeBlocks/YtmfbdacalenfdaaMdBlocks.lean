/- ModeBlocks out of the contracts of packages aes and mode. -/
import Derived.Test.YtmfbdacalenfdaaMdTwice
import Derived.Test.YtmfbdacalenfdaaSlA
namespace Go.Proofs.Ytmfbdacalenfdaa
open Go.RowKit
set_option linter.unusedSimpArgs false
attribute [local go_sem] YieldsP execOp
attribute [local simp] MP.eq_p
namespace A
theorem set_last {iv : List Nat} (h : iv.length = 16) (x : Nat) : iv.set 15 x = iv.take 15 ++ [x] := by
  rw [List.set_eq_take_append_cons_drop, if_pos (by omega), List.drop_of_length_le (by omega)]
theorem set_ok {iv : List Nat} (h : ok 16 iv) {x : Nat} (hx : x < 256) : ok 16 (iv.set 15 x) := ⟨by rw [List.length_set]; exact h.1, fun y hy => (List.mem_or_eq_of_mem_set hy).elim (h.2 y) (fun e => by rw [e]; exact hx)⟩
/-- Block n of the stream, where the last byte of the iv is 0. -/
theorem ctr_last {iv : List Nat} (h : ok 16 iv) {n : Nat} (hn : n < 256) : ctr (iv.set 15 0) n = iv.set 15 n := by
  unfold ctr
  rw [be16_mod, set_last h.1 0, beV_snoc, Nat.add_zero, ← beV_snoc, ← set_last h.1 n]
  exact be16_beV (set_ok h hn)
theorem stream_block {ws : List (List Nat)} (hw : okW ws) {iv : List Nat} (h : ok 16 iv) {n : Nat} (hn : n < 256) : streamS ws (iv.set 15 0) (16 * n) (List.replicate 16 0) = encS ws (iv.set 15 n) := by
  have ho := encS_ok hw (set_ok h hn)
  unfold streamS
  rw [List.length_replicate]
  refine Eq.trans (by_congr fun i hi => ?_) (by_self ho.1)
  unfold strB padB
  rw [show (16 * n + i) % 18446744073709551616 = 16 * n + i by omega, show (16 * n + i) / 16 = n by omega, show (16 * n + i) % 16 = i by omega, ctr_last h hn, List.getD_eq_getElem?_getD (l := List.replicate 16 0), List.getElem?_replicate, if_pos hi]
  show 0 ^^^ _ = _
  rw [Nat.zero_xor]
end A
theorem blk_byte {w : World} {k : Nat} {l : List Nat} (h : Blk w k (l.map b8)) (j : Nat) (hj : j < l.length) : w.cell? ⟨k, j, none⟩ = some (b8 (l.getD j 0)) := h.cell j _ (by simp [List.getD_eq_getElem?_getD, hj])
theorem binfo_b1 : (Try.prog.info? 5).map (·.size) = some 1 := by kernel_rfl
def zB16 : List Value := (List.replicate 16 0).map b8
theorem bzero_a16 (w : World) : (zeroValue 23).run Try.prog w = .ok (.agg (zB16).toArray) w := by
  have : (Try.prog.info? 23).map (·.zero) = some (some (.agg zB16.toArray)) := by kernel_rfl
  cases h : Try.prog.info? 23 with
  | none => simp [h] at this
  | some d =>
    have hz : d.zero = some (.agg zB16.toArray) := by simpa [h] using this
    simp [zeroValue, typeInfo, h, hz]
set_option maxRecDepth 20000 in
set_option maxHeartbeats 1000000 in
theorem modeBlocks_of {Tb : World → Prop} {zk : List Value} {Ky : World → List Value → List Nat → Prop} (C : AesC Tb zk Ky) (M : StreamC Tb Ky) (v : Value) (key : List Nat) (lk : ∀ x ∈ key, x < 256) (iv : List Nat) (hi : A.ok 16 iv) (n : Nat) (hn8 : n < 256) (w : World) (ht : Tb w) (hk : By w v key) :
    Calls Try.prog 7 #[v, aB iv, .int .u8 (n : Int)] w fun e w' => e = .returned (.bool true) ∧ Below w.heap.size w w' := by
  obtain ⟨x0, x1⟩ := al1 w (iv.map b8).toArray 23
  have X0 : Hid (Blk _ w.heap.size (iv.map b8)) := x0
  have X1 : Hid (Below w.heap.size w _) := x1
  have HI : Hid (A.ok 16 iv) := hi
  have HK : Hid (∀ W, Below w.heap.size w W → By W v key) := fun W hW => hk.up hW (Nat.le_refl _)
  by_cases hn : KeyN key.length
  · have KB : KeyB key := ⟨hn, lk⟩
    have EX : Hid _ := C.expand key v KB _ (C.tb ht x1) (hk.up x1 (Nat.le_refl _))
    obtain ⟨ws, hws⟩ : ∃ ws, ws = A.keyW key := ⟨_, rfl⟩
    have OKW : Hid (A.okW ws) := by rw [hws]; exact KB.ws
    have A0 := A.set_ok hi (x := 0) (by decide)
    have A1 := A.set_ok hi hn8
    have SM : Hid (∀ cs W x, Below w.heap.size w W → Ky W cs key → By W x (List.replicate 16 0) → Calls Try.prog 11 #[.agg cs.toArray, aB (iv.set 15 0), .int .u64 ((16 * n : Nat) : Int), x] W fun e w' => ∃ u, e = .returned u ∧ By w' u (A.encS ws (iv.set 15 n)) ∧ Below W.heap.size W w') := fun cs W x hW hK hx => by
      have := M.stream key cs (iv.set 15 0) (16 * n) (List.replicate 16 0) x KB A0 (by omega) (fun y hy => by rw [(List.mem_replicate.1 hy).2]; decide) (by rw [List.length_replicate]; omega) W (C.tb ht hW) hK hx
      rw [← hws, A.stream_block OKW.out hi hn8] at this
      exact this
    have EN : Hid (∀ cs W, Below w.heap.size w W → Ky W cs key → Calls Try.prog 20 #[.agg cs.toArray, aB (iv.set 15 n)] W fun e w' => e = .returned (aB (A.encS ws (iv.set 15 n))) ∧ Below W.heap.size W w') := fun cs W hW hK => by rw [hws]; exact C.enc key cs _ KB A1 W (C.tb ht hW) hK
    have EL : Hid (A.ok 16 (A.encS ws (iv.set 15 n))) := A.encS_ok OKW.out A1
    have S0 : Hid ((iv.map b8).set 15 (b8 0) = (iv.set 15 0).map b8) := by rw [List.map_set]; exact rfl
    have S1 : Hid (((iv.set 15 0).map b8).set 15 (b8 n) = (iv.set 15 n).map b8) := by rw [List.map_set, List.map_set, List.set_set]; exact rfl
    generalize A.encS ws (iv.set 15 n) = en at *
    have L0 : Hid ((iv.set 15 0).length = 16) := A0.1
    have L1 : Hid ((iv.set 15 n).length = 16) := A1.1
    generalize iv.set 15 0 = i0 at *
    generalize iv.set 15 n = i1 at *
    have EQ : Hid (∀ x y W, By W x en → By W y en → Calls Try.prog 17 #[x, y] W fun e w' => e = .returned (.bool true) ∧ Below W.heap.size W w') := fun x y W hx hy => by
      have := equal_fun x y en en EL.out.2 EL.out.2 W hx hy
      rw [decide_eq_true rfl] at this
      exact this
    have wn : IntKind.u64.wrap (n : Int) = (n : Int) := by rw [IntKind.wrap_u64]; omega
    obtain ⟨n16, hn16⟩ : ∃ m, m = 16 * n := ⟨_, rfl⟩
    have wm : IntKind.u64.wrap (16 * (n : Int)) = (n16 : Int) := by rw [IntKind.wrap_u64]; omega
    rw [← hn16] at SM
    clear hws x0 x1 A0 A1 hn16
    go_enter Try.func7, Try.ntmps7
    go_wp2_with fail
    refine Calls.mono EX.out ?_
    rintro e w1 ⟨cs, rfl, hky, hb1⟩
    have KY : Hid (Ky w1 cs key) := hky
    have D1 : Hid (Below w.heap.size w w1) := X1.out.trans (hb1.mono X1.out.size)
    have Y1 : Hid (Blk w1 w.heap.size (iv.map b8)) := X0.out.up hb1 X0.out.lt
    have CL : Hid (cs.length = zk.length) := C.size hky
    have CO : Hid (∀ v ∈ cs, v.oneCell' = true) := C.one hky
    clear X0 X1 EX hky hb1
    go_wp2_with (refine C.make rfl rfl 7 (.tmp 15) rfl rfl rfl rfl cs CL.out CO.out rfl rfl ?_)
    intro w2 k2 hb2
    obtain ⟨kk, hkk⟩ : ∃ kk, kk = w1.heap.size := ⟨_, rfl⟩
    rw [← hkk] at k2 ⊢
    have K2 : Hid (Blk w2 kk cs) := k2
    have KY2 : Hid (Ky w2 cs key) := C.up KY.out hb2
    have D2 : Hid (Below w.heap.size w w2) := D1.out.trans (hb2.mono D1.out.size)
    have Y2 : Hid (Blk w2 w.heap.size (iv.map b8)) := Y1.out.up hb2 Y1.out.lt
    clear k2 hb2 hkk KY D1 Y1
    have IB : Hid _ := info_n binfo_a16 iv HI.out.1
    obtain ⟨y0, y1⟩ := al1 w2 zB16.toArray 23
    have B0 : Hid (Blk (w2.alloc (.cells zB16.toArray 23)) w2.heap.size zB16) := y0
    have C0 : Hid (Below w2.heap.size w2 (w2.alloc (.cells zB16.toArray 23))) := y1
    have T0 : Hid ((w2.alloc (.cells zB16.toArray 23)).there w2.heap.size 0 (iv.map b8).length) := B0.out.there (by rw [List.length_map, HI.out.1]; decide)
    clear y0 y1
    go_wp2_with (first | simp only [bzero_a16] | refine wpList_load_mid rfl 23 (.tmp 4) rfl w.heap.size 0 rfl (iv.map b8) _ Y2.out.all bu_a16 rfl IB.out ?_ | refine wp_store_eq rfl 23 (.tmp 9) (.tmp 19) rfl w2.heap.size 0 (iv.map b8) rfl rfl T0.out IB.out (one_b8 _) ?_)
    intro w3 hw3
    obtain ⟨ka, hka⟩ : ∃ ka, ka = w2.heap.size := ⟨_, rfl⟩
    rw [← hka] at B0 hw3 ⊢
    have KA : Hid (w.heap.size < ka ∧ kk < ka) := by rw [hka]; exact ⟨Y2.out.lt, K2.out.lt⟩
    have A3 : Hid (Blk w3 ka (iv.map b8)) := by rw [hw3.out]; exact B0.out.put (by rw [List.length_map, HI.out.1]; rfl)
    have K3 : Hid (Blk w3 kk cs) := by rw [hw3.out]; exact (K2.out.up C0.out K2.out.lt).apart (by have := KA.out; omega)
    have B3 : Hid (Below w2.heap.size w2 w3) := by rw [hw3.out]; exact below_setCells _ _ _ C0.out (by rw [hka]; exact Nat.le_refl _)
    have KY3 : Hid (Ky w3 cs key) := C.up KY2.out B3.out
    have D3 : Hid (Below w.heap.size w w3) := D2.out.trans (B3.out.mono D2.out.size)
    have c3 := blk_byte A3.out 15 (by rw [HI.out.1]; decide)
    have z3 := A3.out.fz 15
    have A4' : Blk (w3.setCell ⟨ka, 15, none⟩ (.int .u8 0)) ka (i0.map b8) := by
      have := A3.out.set 15 (b8 0) (by rw [List.length_map, HI.out.1]; decide)
      rw [S0.out] at this
      exact this
    have K4' : Blk (w3.setCell ⟨ka, 15, none⟩ (.int .u8 0)) kk cs := K3.out.apart1 (by have := KA.out; omega)
    have B4' : Below w2.heap.size w2 (w3.setCell ⟨ka, 15, none⟩ (.int .u8 0)) := B3.out.setCell (p := ⟨ka, 15, none⟩) (by rw [hka]; exact Nat.le_refl _) _
    have A4 : Hid _ := A4'
    have K4 : Hid _ := K4'
    have B4 : Hid _ := B4'
    clear hw3 B0 C0 T0 A4' K4' B4' hka A3 K3 KY3 D3 B3 Y2
    go_wp2_with (refine wp_named 23 (.tmp 9) rfl ?_)
    intro w4 hw4
    rw [← hw4.out] at A4 K4 B4
    clear hw4
    have KY4 : Hid (Ky w4 cs key) := C.up KY2.out B4.out
    have D4 : Hid (Below w.heap.size w w4) := D2.out.trans (B4.out.mono D2.out.size)
    clear B4 K2 KY2 D2 c3 z3
    have I0 : Hid _ := info_n binfo_a16 i0 L0.out
    obtain ⟨y0, y1⟩ := al1 w4 zB16.toArray 23
    have B0 : Hid (Blk (w4.alloc (.cells zB16.toArray 23)) w4.heap.size zB16) := y0
    have C0 : Hid (Below w4.heap.size w4 (w4.alloc (.cells zB16.toArray 23))) := y1
    have T0 : Hid ((w4.alloc (.cells zB16.toArray 23)).there w4.heap.size 0 (i0.map b8).length) := B0.out.there (by rw [List.length_map, L0.out]; decide)
    clear y0 y1
    go_wp2_with (first | simp only [bzero_a16] | refine wpList_load_mid rfl 23 (.tmp 9) rfl ka 0 rfl (i0.map b8) _ A4.out.all bu_a16 rfl I0.out ?_ | refine wp_store_eq rfl 23 (.tmp 10) (.tmp 21) rfl w4.heap.size 0 (i0.map b8) rfl rfl T0.out I0.out (one_b8 _) ?_)
    intro w5 hw5
    obtain ⟨kw, hkw⟩ : ∃ kw, kw = w4.heap.size := ⟨_, rfl⟩
    rw [← hkw] at B0 hw5 ⊢
    have KW : Hid (ka < kw ∧ kk < kw) := by rw [hkw]; exact ⟨A4.out.lt, K4.out.lt⟩
    have G5 : Hid (Blk w5 kw (i0.map b8)) := by rw [hw5.out]; exact B0.out.put (by rw [List.length_map, L0.out]; rfl)
    have A5 : Hid (Blk w5 ka (i0.map b8)) := by rw [hw5.out]; exact (A4.out.up C0.out A4.out.lt).apart (by have := KW.out; omega)
    have K5 : Hid (Blk w5 kk cs) := by rw [hw5.out]; exact (K4.out.up C0.out K4.out.lt).apart (by have := KW.out; omega)
    have B5 : Hid (Below w4.heap.size w4 w5) := by rw [hw5.out]; exact below_setCells _ _ _ C0.out (by rw [hkw]; exact Nat.le_refl _)
    have c5 := blk_byte G5.out 15 (by rw [L0.out]; decide)
    have z5 := G5.out.fz 15
    have G6' : Blk (w5.setCell ⟨kw, 15, none⟩ (.int .u8 (n : Int))) kw (i1.map b8) := by
      have := G5.out.set 15 (b8 n) (by rw [List.length_map, L0.out]; decide)
      rw [S1.out] at this
      exact this
    have A6' : Blk (w5.setCell ⟨kw, 15, none⟩ (.int .u8 (n : Int))) ka (i0.map b8) := A5.out.apart1 (by have := KW.out; omega)
    have K6' : Blk (w5.setCell ⟨kw, 15, none⟩ (.int .u8 (n : Int))) kk cs := K5.out.apart1 (by have := KW.out; omega)
    have B6' : Below w4.heap.size w4 (w5.setCell ⟨kw, 15, none⟩ (.int .u8 (n : Int))) := B5.out.setCell (p := ⟨kw, 15, none⟩) (by rw [hkw]; exact Nat.le_refl _) _
    have G6 : Hid _ := G6'
    have A6 : Hid _ := A6'
    have K6 : Hid _ := K6'
    have B6 : Hid _ := B6'
    clear hw5 B0 C0 T0 G6' A6' K6' B6' hkw G5 A5 K5 B5 A4 K4
    go_wp2_with (refine wp_named 28 (.tmp 7) rfl ?_)
    intro w6 hw6
    rw [← hw6.out] at G6 A6 K6 B6
    clear hw6
    have KY6 : Hid (Ky w6 cs key) := C.up KY4.out B6.out
    have D6 : Hid (Below w.heap.size w w6) := D4.out.trans (B6.out.mono D4.out.size)
    have I1 : Hid _ := info_n binfo_a16 i1 L1.out
    obtain ⟨dk, huk, hrk⟩ := C.row
    have IK : Hid _ := C.info.trans (congrArg some CL.out.symm)
    clear B6 KY4 D4 c5 z5
    go_wp2_with (first | refine wpList_load_mid rfl 28 (.tmp 7) rfl kk 0 rfl cs dk K6.out.all huk hrk IK.out ?_ | refine wpList_load_mid rfl 23 (.tmp 10) rfl kw 0 rfl (i1.map b8) _ G6.out.all bu_a16 rfl I1.out ?_)
    refine Calls.mono (EN.out cs w6 D6.out KY6.out) ?_
    rintro e w7 ⟨rfl, hb7⟩
    have K7 : Hid (Blk w7 kk cs) := K6.out.up hb7 K6.out.lt
    have A7 : Hid (Blk w7 ka (i0.map b8)) := A6.out.up hb7 A6.out.lt
    have KY7 : Hid (Ky w7 cs key) := C.up KY6.out hb7
    have D7 : Hid (Below w.heap.size w w7) := D6.out.trans (hb7.mono D6.out.size)
    have IE : Hid _ := info_n binfo_a16 en EL.out.1
    clear hb7 K6 A6 G6 KY6 D6 EN
    obtain ⟨y0, y1⟩ := al1 w7 zB16.toArray 23
    have B0 : Hid (Blk (w7.alloc (.cells zB16.toArray 23)) w7.heap.size zB16) := y0
    have C0 : Hid (Below w7.heap.size w7 (w7.alloc (.cells zB16.toArray 23))) := y1
    have T0 : Hid ((w7.alloc (.cells zB16.toArray 23)).there w7.heap.size 0 (en.map b8).length) := B0.out.there (by rw [List.length_map, EL.out.1]; decide)
    clear y0 y1
    go_wp2_with (first | simp only [bzero_a16] | refine wp_store_eq rfl 23 (.tmp 11) (.tmp 26) rfl w7.heap.size 0 (en.map b8) rfl rfl T0.out IE.out (one_b8 _) ?_)
    intro w8 hw8
    obtain ⟨ke, hke⟩ : ∃ ke, ke = w7.heap.size := ⟨_, rfl⟩
    rw [← hke] at B0 hw8 ⊢
    have KE : Hid (ka < ke ∧ kk < ke) := by rw [hke]; exact ⟨A7.out.lt, K7.out.lt⟩
    have E8 : Hid (Blk w8 ke (en.map b8)) := by rw [hw8.out]; exact B0.out.put (by rw [List.length_map, EL.out.1]; rfl)
    have A8 : Hid (Blk w8 ka (i0.map b8)) := by rw [hw8.out]; exact (A7.out.up C0.out A7.out.lt).apart (by have := KE.out; omega)
    have K8 : Hid (Blk w8 kk cs) := by rw [hw8.out]; exact (K7.out.up C0.out K7.out.lt).apart (by have := KE.out; omega)
    have B8 : Hid (Below w7.heap.size w7 w8) := by rw [hw8.out]; exact below_setCells _ _ _ C0.out (by rw [hke]; exact Nat.le_refl _)
    have KY8 : Hid (Ky w8 cs key) := C.up KY7.out B8.out
    have D8 : Hid (Below w.heap.size w w8) := D7.out.trans (B8.out.mono D7.out.size)
    have RK : Hid (∀ W, Below w8.heap.size w8 W → W.rangeAt kk 0 cs) := fun W hW => (K8.out.up hW K8.out.lt).all
    have RB : Hid (∀ W, Below w8.heap.size w8 W → W.rangeAt ka 0 (i0.map b8)) := fun W hW => (A8.out.up hW A8.out.lt).all
    have KU : Hid (∀ W, Below w8.heap.size w8 W → Ky W cs key ∧ Below w.heap.size w W) := fun W hW => ⟨C.up KY8.out hW, D8.out.trans (hW.mono D8.out.size)⟩
    have BE : Hid (∀ W, Below w8.heap.size w8 W → By W (.slice (some ⟨ke, 0, none⟩) 16 16) en) := fun W hW => By.of_blk (E8.out.up hW E8.out.lt) EL.out.1
    have SD : Hid (∀ W, _) := fun W => slice_all bu_a16 binfo_b1 (by decide) ke 0 W
    clear hw8 B0 C0 T0 hke K7 A7 KY7 D7 B8
    go_wp2_with fail
    refine wp_region_monoE [MP.eq (.agg cs.toArray), MP.eq (aB i0), MP.eq (.int .u8 (n : Int)), MP.eq (.int .u64 (n : Int)), MP.eq (.int .u64 (n16 : Int)), MP.byM (List.replicate 16 0), MP.byM en, MP.eq (.slice (some ⟨ke, 0, none⟩) 16 16), MP.eq (.bool true), MP.eq (.bool true)] (by kernel_rfl) (by kernel_rfl) rfl ?_
    apply Exists.intro
    refine ⟨fun vals => ?_, ?_, fun vals9 w9 hb9 hF => ?_⟩
    · simp only [putsV, dstL, List.length_cons, List.length_nil, Nat.zero_add, Nat.reduceAdd, List.getElem?_cons_zero, List.getElem?_cons_succ, Option.bind_some, Act.put, List.setIfInBounds_toArray, List.set_cons_succ, List.set_cons_zero]
      rfl
    · refine ⟨?_, ?_, ?_, ?_, ?_, ?_, ?_, ?_, ?_, ?_, trivial⟩
      · intro vals W hW hw hd
        try simp [Region.binds] at hd
        refine ⟨by first | rfl | simp [Region.wanted, yielded, hd], ?_⟩
        exact C.ld (.tmp 7) rfl kk rfl cs CL.out (RK.out W hW.out) rfl
      · intro vals W hW hw hd
        try simp [Region.binds] at hd
        refine ⟨by first | rfl | simp [Region.wanted, yielded, hd], ?_⟩
        exact yieldsA_load 23 (.tmp 9) rfl ka 0 rfl (i0.map b8) _ (RB.out W hW.out) bu_a16 rfl I0.out rfl
      · intro vals W hW hw hd
        try simp [Region.binds] at hd
        refine ⟨by first | rfl | simp [Region.wanted, yielded, hd], ?_⟩
        simp [go_sem, hd]
        exact Below.refl _ _
      · intro vals W hW hw hd
        try simp [Region.binds] at hd
        refine ⟨by first | rfl | simp [Region.wanted, yielded, hd], ?_⟩
        simp [go_sem, hd, wn]
        exact Below.refl _ _
      · intro vals W hW hw hd
        try simp [Region.binds] at hd
        refine ⟨by first | rfl | simp [Region.wanted, yielded, hd], ?_⟩
        simp [go_sem, hd, wm]
        exact Below.refl _ _
      · intro vals W hW hw hd
        try simp [Region.binds] at hd
        refine ⟨by first | rfl | simp [Region.wanted, yielded, hd], ?_⟩
        exact yields_mkB (.const (.int .i64 16)) (.const (.int .i64 16)) rfl 16 rfl rfl (by decide)
      · intro vals W hW hw hd
        try simp [Region.binds] at hd
        refine ⟨by first | rfl | simp [Region.wanted, yielded, hd], ?_⟩
        simp [go_sem, hd]
        exact (SM.out cs W _ (KU.out W hW.out).2 (KU.out W hW.out).1 hd.2.2.2).mono fun e w' ⟨v, he, hq, hb⟩ => ⟨v, he, hq, hb⟩
      · intro vals W hW hw hd
        try simp [Region.binds] at hd
        refine ⟨by first | rfl | simp [Region.wanted, yielded, hd], ?_⟩
        simp [go_sem, hd, SD.out W]
        exact Below.refl _ _
      · intro vals W hW hw hd
        try simp [Region.binds] at hd
        refine ⟨by first | rfl | simp [Region.wanted, yielded, hd], ?_⟩
        simp [go_sem, hd]
        exact (EQ.out _ _ W hd.1 (BE.out W hW.out)).mono fun e w' ⟨he, hb⟩ => ⟨_, he, rfl, hb⟩
      · intro vals W hW hw hd
        try simp [Region.binds] at hd
        refine ⟨by first | rfl | simp [Region.wanted, yielded, hd], ?_⟩
        simp [go_sem, hd]
        exact Below.refl _ _
    obtain ⟨f0, f1, f2, f3, f4, f5, f6, f7, f8, f9, _⟩ := hF
    simp only [MP.eq_p] at f0 f1 f2 f3 f4 f7 f8 f9
    rw [f9]
    have D9 : Hid (Below w.heap.size w w9) := D8.out.trans (hb9.out.mono D8.out.size)
    clear hb9
    go_wp2_with fail
    go_ret
    exact ⟨rfl, D9.out⟩
  · have EX : Hid _ := C.bad key v lk hn _ (C.tb ht x1) (hk.up x1 (Nat.le_refl _))
    have CO := C.zone
    clear hi x0 x1
    go_enter Try.func7, Try.ntmps7
    go_wp2_with fail
    refine Calls.mono EX.out ?_
    rintro e w1 ⟨rfl, hb1⟩
    have D1 : Hid (Below w.heap.size w w1) := X1.out.trans (hb1.mono X1.out.size)
    clear hb1 EX X0 X1
    go_wp2_with (refine C.make rfl rfl 7 (.tmp 15) rfl rfl rfl rfl zk rfl CO rfl rfl ?_)
    intro w2 _ hb2
    have D2 : Hid (Below w.heap.size w w2) := D1.out.trans (hb2.mono D1.out.size)
    clear hb2 D1
    go_wp2_with fail
    go_ret
    exact ⟨rfl, D2.out⟩
end Go.Proofs.Ytmfbdacalenfdaa
