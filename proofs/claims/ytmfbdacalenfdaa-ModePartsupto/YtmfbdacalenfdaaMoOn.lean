/- The contracts of mode.onward and mode.padded. -/
import Derived.Test.YtmfbdacalenfdaaMoPad
import Derived.Test.YtmfbdacalenfdaaBsMk
import Derived.Laws.IdiomCopy
namespace Go.Proofs.Ytmfbdacalenfdaa
open Go.RowKit
set_option linter.unusedSimpArgs false
attribute [local go_sem] YieldsP execOp
attribute [local simp] MP.eq_p
namespace A
/-- Of sixteen places the last t are new ones. -/
def endN (old new : Nat → Nat) (t : Nat) : List Nat := by_ 16 fun p => if 16 - t ≤ p then new p else old p
theorem endN_length (old new : Nat → Nat) (t : Nat) : (endN old new t).length = 16 := by_length _ _
theorem endN_zero (old new : Nat → Nat) : endN old new 0 = by_ 16 old := by_congr fun _ hi => if_neg (by omega)
theorem endN_all (old new : Nat → Nat) : endN old new 16 = by_ 16 new := by_congr fun _ _ => if_pos (by omega)
theorem endN_at (old new : Nat → Nat) {t u : Nat} (h : u + t = 15) : (endN old new t).getD u 0 = old u := by
  unfold endN
  rw [by_get (by omega), if_neg (by omega)]
theorem endN_set (old new : Nat → Nat) {t u : Nat} (h : u + t = 15) : (endN old new t).set u (new u) = endN old new (t + 1) := by
  refine (by_self (l := (endN old new t).set u (new u)) (by rw [List.length_set, endN_length])).symm.trans (by_congr fun i hi => ?_)
  rw [getD_set _ _ _ _ (by rw [endN_length]; omega)]
  unfold endN
  rw [by_get hi]
  by_cases e : u = i
  · subst e
    rw [if_pos rfl, if_pos (by omega)]
  · rw [if_neg e]
    by_cases e2 : 16 - t ≤ i
    · rw [if_pos e2, if_pos (by omega)]
    · rw [if_neg e2, if_neg (by omega)]
/-- What is carried when t bytes are done. -/
def carr (iv : List Nat) (q : Nat) : Nat → Nat
  | 0 => q
  | t + 1 => (carr iv q t + iv.getD (15 - t) 0) / 256
theorem carr_lt {iv : List Nat} (hi : ok 16 iv) {q : Nat} (hq : q < 1152921504606846976) : ∀ t, carr iv q t < 1152921504606846976
  | 0 => hq
  | t + 1 => by
    have h1 := carr_lt hi hq t
    have h2 := hi.at (15 - t)
    rw [carr]
    omega
theorem carr_sum {iv : List Nat} (hi : ok 16 iv) (q : Nat) : ∀ t, t ≤ 16 → (beV iv + q) / 256 ^ t = beV (iv.take (16 - t)) + carr iv q t
  | 0, _ => by rw [Nat.pow_zero, Nat.div_one, carr, List.take_of_length_le (by rw [hi.1]; exact Nat.le_refl _)]
  | t + 1, ht => by
    have ih := carr_sum hi q t (by omega)
    have hlt : 15 - t < iv.length := by rw [hi.1]; omega
    rw [Nat.pow_succ, ← Nat.div_div_eq_div_mul, ih, show 16 - t = (15 - t) + 1 by omega, List.take_succ_eq_append_getElem hlt, beV_snoc, carr, List.getD_eq_getElem?_getD, List.getElem?_eq_getElem hlt, show 16 - (t + 1) = 15 - t by omega]
    show (beV (iv.take (15 - t)) * 256 + iv[15 - t] + carr iv q t) / 256 = beV (iv.take (15 - t)) + (carr iv q t + iv[15 - t]) / 256
    omega
theorem carr_byte {iv : List Nat} (hi : ok 16 iv) (q : Nat) {t u : Nat} (h : u + t = 15) : (beV iv + q) / 256 ^ t % 256 = (carr iv q t + iv.getD u 0) % 256 := by
  have hlt : u < iv.length := by rw [hi.1]; omega
  rw [carr_sum hi q t (by omega), show 16 - t = u + 1 by omega, List.take_succ_eq_append_getElem hlt, beV_snoc, List.getD_eq_getElem?_getD, List.getElem?_eq_getElem hlt]
  show (beV (iv.take u) * 256 + iv[u] + carr iv q t) % 256 = (carr iv q t + iv[u]) % 256
  omega
theorem carr_next (iv : List Nat) (q : Nat) {t u : Nat} (h : u + t = 15) : carr iv q (t + 1) = (carr iv q t + iv.getD u 0) / 256 := by
  rw [carr, show 15 - t = u by omega]
/-- A text and its padding, so far as it is in. -/
def padT (p : List Nat) (n t : Nat) : List Nat := p ++ (List.replicate t n ++ List.replicate (n - t) 0)
theorem padT_length (p : List Nat) {n t : Nat} (h : t ≤ n) : (padT p n t).length = p.length + n := by
  unfold padT
  simp only [List.length_append, List.length_replicate]
  omega
theorem padT_set (p : List Nat) {n t : Nat} (h : t < n) : (padT p n t).set (p.length + t) n = padT p n (t + 1) := by
  unfold padT
  rw [List.set_append_right _ _ (by omega), Nat.add_sub_cancel_left, List.set_append_right _ _ (by rw [List.length_replicate]; omega), List.length_replicate, Nat.sub_self, show n - t = n - (t + 1) + 1 by omega, List.replicate_succ, List.set_cons_zero, List.replicate_succ', List.append_assoc]
  rfl
theorem padT_all (p : List Nat) : padT p (padN p) (padN p) = padS p := by
  unfold padT padS
  rw [Nat.sub_self, List.replicate_zero, List.append_nil]
end A
set_option maxRecDepth 20000 in
set_option maxHeartbeats 1000000 in
theorem monw_fun (iv : List Nat) (hi : A.ok 16 iv) (q : Nat) (hq : q < 1152921504606846976) (w : World) : Calls Try.prog 27 #[aB iv, .int .u64 (q : Int)] w fun e w' => e = .returned (aB (A.ctr iv q)) ∧ Below w.heap.size w w' := by
  obtain ⟨old, hold⟩ : ∃ old : Nat → Nat, old = fun p => iv.getD p 0 := ⟨_, rfl⟩
  obtain ⟨new, hnew⟩ : ∃ new : Nat → Nat, new = fun p => (A.beV iv + q) / 256 ^ (15 - p) % 256 := ⟨_, rfl⟩
  obtain ⟨ca, hca⟩ : ∃ ca : Nat → Nat, ca = A.carr iv q := ⟨_, rfl⟩
  have NE : Hid (A.ctr iv q = A.by_ 16 new) := by
    unfold A.ctr
    rw [A.be16_mod, hnew]
    exact rfl
  have C0 : Hid (ca 0 = q) := by rw [hca]; exact rfl
  have CL : Hid (∀ t, ca t < 1152921504606846976) := fun t => by rw [hca]; exact A.carr_lt hi hq t
  have CN : Hid (∀ t u, u + t = 15 → ca (t + 1) = (ca t + old u) / 256 ∧ new u = (ca t + old u) % 256) := fun t u h => by
    rw [hca, hold, hnew]
    refine ⟨A.carr_next iv q h, ?_⟩
    show (A.beV iv + q) / 256 ^ (15 - u) % 256 = _
    rw [show 15 - u = t by omega]
    exact A.carr_byte hi q h
  have OL : Hid (∀ p, old p < 256) := fun p => by rw [hold]; exact hi.at p
  rw [NE.out]
  obtain ⟨x0, x1, x2⟩ := al2 w (iv.map b8).toArray #[Value.int IntKind.u8 0, Value.int IntKind.u8 0, Value.int IntKind.u8 0, Value.int IntKind.u8 0, Value.int IntKind.u8 0, Value.int IntKind.u8 0, Value.int IntKind.u8 0, Value.int IntKind.u8 0, Value.int IntKind.u8 0, Value.int IntKind.u8 0, Value.int IntKind.u8 0, Value.int IntKind.u8 0, Value.int IntKind.u8 0, Value.int IntKind.u8 0, Value.int IntKind.u8 0, Value.int IntKind.u8 0] 23 23
  rw [show (iv.map b8).toArray.toList = (A.endN old new 0).map b8 by rw [A.endN_zero, hold, A.by_self hi.1]] at x0
  have X0 : Hid (Blk _ w.heap.size ((A.endN old new 0).map b8)) := x0
  have X1 : Hid (Blk _ (w.heap.size + 1) (zB 16)) := x1
  have X2 : Hid (Below w.heap.size w _) := x2
  clear x0 x1 x2 hold hnew hca NE hi hq
  go_enter Try.func27, Try.ntmps27
  go_wp2_with (simp only [zero_a16])
  generalize World.alloc (w.alloc _) _ = w1 at *
  go_loopw [5, 1] (fun i c wr => ∃ (t : Nat), t ≤ 16 ∧ i = .int .i64 (15 - (t : Int)) ∧ c = .int .u64 ((ca t : Nat) : Int) ∧ Hid (Blk wr w.heap.size ((A.endN old new t).map b8)) ∧ Hid (Blk wr (w.heap.size + 1) (zB 16)) ∧ Hid (Below w.heap.size w wr)) (fun i _ _ => (intOf i + 1).toNat)
  case atStart => exact ⟨0, by omega, rfl, by rw [C0.out], X0, X1, X2⟩
  case round =>
    clear X0 X1 X2
    obtain ⟨t, ht, rfl, rfl, X0, X1, X2⟩ := hrel
    by_cases ht1 : t < 16
    · obtain ⟨u, hu⟩ : ∃ u, u = 15 - t := ⟨_, rfl⟩
      have eu : (15 : Int) - (t : Int) = (u : Int) := by omega
      rw [eu]
      have u0 : (0 : Int) ≤ (u : Int) := by omega
      have u1 : (u : Int) < 16 := by omega
      have wu : IntKind.i64.wrap ((u : Int) - 1) = (u : Int) - 1 := by rw [IntKind.wrap_i64]; omega
      have UT : Hid (u + t = 15) := by show _ = _; omega
      have cu := X0.out.byte u (by rw [A.endN_length]; omega)
      rw [A.endN_at old new UT.out] at cu
      have fu := X0.out.fz u
      have V0 : Hid (Blk (wr.setCell ⟨w.heap.size, u, none⟩ (b8 (new u))) w.heap.size ((A.endN old new (t + 1)).map b8)) := by
        rw [← A.endN_set old new UT.out]
        exact X0.out.setB _ _ (by rw [A.endN_length]; have := UT.out; omega)
      have V1 : Hid _ := X1.out.apart1 (k' := w.heap.size) (o := u) (v := b8 (new u)) (by omega)
      have V2 : Hid _ := X2.out.setCell (p := ⟨w.heap.size, u, none⟩) (Nat.le_refl _) (b8 (new u))
      have cb := CL.out t
      have ob := OL.out u
      have cn := CN.out t u UT.out
      obtain ⟨s, hs⟩ : ∃ s, s = ca t + old u := ⟨_, rfl⟩
      have wx : IntKind.u64.wrap ((old u : Nat) : Int) = ((old u : Nat) : Int) := by rw [IntKind.wrap_u64]; omega
      have ws : IntKind.u64.wrap (((ca t : Nat) : Int) + ((old u : Nat) : Int)) = (s : Int) := by rw [IntKind.wrap_u64]; omega
      have w8 : IntKind.u8.wrap (s : Int) = ((new u : Nat) : Int) := by rw [IntKind.wrap_u8, cn.2]; omega
      have S8 : Hid (s / 256 = ca (t + 1)) := by rw [cn.1, hs]; exact rfl
      have sh1 : s >>> 8 = s / 256 := by rw [Nat.shiftRight_eq_div_pow]
      have T1 : Hid (t < 16) := ht1
      generalize new u = nu at *
      generalize old u = ou at *
      generalize ca t = ct at *
      clear hs cn cb ob hu ht ht1 X0 X1 X2 eu
      go_wp2_with fail
      go_roundw
      case rel =>
        have h := UT.out
        have e : (u : Int) - 1 = 15 - ((t + 1 : Nat) : Int) := by omega
        rw [e]
        exact ⟨t + 1, T1.out, rfl, by rw [← S8.out]; first | rfl | go_num, V0, V1, V2⟩
      case measure => first | (simp [intOf]; done) | (have := UT.out; simp [intOf]; omega)
    · obtain rfl : t = 16 := by omega
      rw [A.endN_all] at X0
      have LL : Hid ((A.by_ 16 new).length = 16) := A.by_length _ _
      obtain ⟨l, hl⟩ : ∃ l, l = A.by_ 16 new := ⟨_, rfl⟩
      rw [← hl] at X0 LL
      have HE : Hid (l = A.by_ 16 new) := hl
      have n0 : ¬ (0 : Int) ≤ 15 - ((16 : Nat) : Int) := by omega
      clear hl ht ht1
      have T0 : Hid (wr.there (w.heap.size + 1) 0 (l.map b8).length) := X1.out.there (by rw [List.length_map, LL.out, zB_length]; omega)
      go_wp2_with (first | refine wpList_load_mid rfl 23 (.tmp 2) rfl w.heap.size 0 rfl (l.map b8) _ X0.out.all u_a16 rfl (info_n info_a16 l LL.out) ?_ | refine wp_store_eq rfl 23 (.tmp 4) (.tmp 22) rfl (w.heap.size + 1) 0 (l.map b8) rfl rfl T0.out (info_n info_a16 l LL.out) (one_b8 _) ?_)
      intro w9 hw9
      go_wp2_with fail
      refine bodyPost_ret (v := aB l) ?_ rfl ⟨by rw [HE.out], ?_⟩
      · rw [hw9.out]
        exact results_cell (b := w.heap.size + 1) rfl rfl (World.rangeAt_setCells_same _ _ _ _ T0.out) u_a16 rfl (info_n info_a16 l LL.out)
      · rw [hw9.out]
        exact below_setCells _ _ _ X2.out (by omega)
end Go.Proofs.Ytmfbdacalenfdaa
