/- The contract of sealringref.least: digits with carries, brought below the modulus. -/
import Derived.Test.YtpnfopakkaoibaaQFeMathToIB
import Derived.Test.YtpnfopakkaoibaaQUpMToUpS
import Derived.Laws.IdiomCopy
import Derived.Deep.LoopGhost
namespace Go.Proofs.Ytpnfopakkaoibaa.I
open Go.RowKit
set_option linter.unusedSimpArgs false
theorem i64_and16 (n : Nat) (h : n < 9223372036854775808) : bits .and .i64 (n : Int) 65535 = ((n % 65536 : Nat) : Int) := by
  have h1 : (BitVec.ofInt 64 65535).toNat = 2 ^ 16 - 1 := by decide
  have key : (BitVec.ofInt 64 (n : Int) &&& BitVec.ofInt 64 65535).toNat = ((n : Int) % ((2 ^ 64 : Nat) : Int)).toNat % 2 ^ 16 := by
    rw [BitVec.toNat_and, BitVec.toNat_ofInt, h1, Nat.and_two_pow_sub_one_eq_mod]
  show IntKind.i64.wrap ((BitVec.ofInt 64 (n : Int) &&& BitVec.ofInt 64 65535).toNat : Nat) = _
  rw [key, IntKind.wrap_i64]
  omega
theorem gi_int : (Try.prog.info? 3).map (·.size) = some 1 := by kernel_rfl
theorem u_ints : Try.prog.underlying 45 = some (.slice 3) := by kernel_rfl
theorem slice_all {t e : TypeId} {n : Nat} (ht : Try.prog.underlying t = some (.array n e)) (hz : (Try.prog.info? e).map (·.size) = some 1) (hn : 0 < n) (b o : Nat) (w : World) :
    (Instr.sliceAt t (.pointer (some ⟨b, o, none⟩)) none none none).run Try.prog w = .ok (.slice (some ⟨b, o, none⟩) n n) w := by
  have ha : Try.prog.arrayLen t = n := by simp [Program.arrayLen, ht]
  have he : Try.prog.elem t = e := by simp [Program.elem, ht]
  rw [run_sliceAt_array_all w t ⟨b, o, none⟩ (by rw [ha, he]; exact ht), ha, he]
  cases hq : Try.prog.info? e with
  | none => simp [hq] at hz
  | some i =>
    have hi : i.size = 1 := by simpa [hq] using hz
    simp [sizeOf, typeInfo, hq, hi, slicedAt, Addr.add_zero', Nat.ne_of_gt hn]
theorem slice_front {t e : TypeId} {n : Nat} (ht : Try.prog.underlying t = some (.array n e)) (hz : (Try.prog.info? e).map (·.size) = some 1) (k : IntKind) (i : Nat) (h0 : 0 < i) (hi : i ≤ n) (b o : Nat) (w : World) :
    (Instr.sliceAt t (.pointer (some ⟨b, o, none⟩)) none (some (.int k (i : Int))) none).run Try.prog w = .ok (.slice (some ⟨b, o, none⟩) i n) w := by
  have ha : Try.prog.arrayLen t = n := by simp [Program.arrayLen, ht]
  have he : Try.prog.elem t = e := by simp [Program.elem, ht]
  rw [run_sliceAt_array_h w t ⟨b, o, none⟩ (by rw [ha, he]; exact ht) k (i : Int) (by omega) (by rw [ha]; omega), ha, he]
  cases hq : Try.prog.info? e with
  | none => simp [hq] at hz
  | some d =>
    have hs : d.size = 1 := by simpa [hq] using hz
    have hne : ¬ n = 0 := by omega
    simp [sizeOf, typeInfo, hq, hs, slicedAt, Addr.add_zero', hne]
theorem yields_all {o : Oper} {a : Act} {w : World} {φ : Value → World → Prop} {t e : TypeId} {n : Nat} (ht : Try.prog.underlying t = some (.array n e)) (hz : (Try.prog.info? e).map (·.size) = some 1) (hn : 0 < n) (x : Operand) (ho : o.op = .slice t x none none none) (b f : Nat) (hx : a.eval x = .pointer (some ⟨b, f, none⟩))
    (h : φ (.slice (some ⟨b, f, none⟩) n n) w) : YieldsP Try.prog o a w φ := by
  have e1 := slice_all ht hz hn b f w
  have e : (execOp a.eval o).run Try.prog w = .ok (.value (.slice (some ⟨b, f, none⟩) n n)) w := by
    unfold execOp
    simp [ho, hx, e1]
  unfold YieldsP
  rw [e]
  exact ⟨h, Below.refl _ _⟩
theorem yields_front {o : Oper} {a : Act} {w : World} {φ : Value → World → Prop} {t e : TypeId} {n : Nat} (ht : Try.prog.underlying t = some (.array n e)) (hz : (Try.prog.info? e).map (·.size) = some 1) (k : IntKind) (i : Nat) (h0 : 0 < i) (hi : i ≤ n) (x y : Operand) (ho : o.op = .slice t x none (some y) none) (b f : Nat) (hx : a.eval x = .pointer (some ⟨b, f, none⟩)) (hy : a.eval y = .int k (i : Int))
    (h : φ (.slice (some ⟨b, f, none⟩) i n) w) : YieldsP Try.prog o a w φ := by
  have e1 := slice_front ht hz k i h0 hi b f w
  have e : (execOp a.eval o).run Try.prog w = .ok (.value (.slice (some ⟨b, f, none⟩) i n)) w := by
    unfold execOp
    simp [ho, hx, hy, e1]
  unfold YieldsP
  rw [e]
  exact ⟨h, Below.refl _ _⟩
theorem wp_copyI {ops : Array Oper} {rest : List Oper} {o : Oper} {act : Act} {Q : Exit → Act → World → Prop} {w : World} (hgd : o.guard = none) (d s : Operand)
    (ho : o.op = .call { callee := .builtin .copy, args := #[d, s], argTypes := #[45, 45] }) (b f dl dc g q sl sc : Nat) (xs : List Nat) (hd : act.eval d = .slice (some ⟨b, f, none⟩) dl dc) (hs : act.eval s = .slice (some ⟨g, q, none⟩) sl sc) (hn : xs.length = min sl dl) (hr : w.rangeAt g q (xs.map dI))
    (ht : w.there b f xs.length)
    (h : ∀ w2, Hid (w2 = w.setCells b f (xs.map dI)) → wpList Try.prog ops Q rest (act.put o.dst (.int .i64 ((xs.length : Nat) : Int))) w2) : wpList Try.prog ops Q (o :: rest) act w := by
  refine wpList_plain hgd fun K hK => ?_
  have hlen : (xs.map dI).length = min sl dl := by rw [List.length_map]; exact hn
  have hrun := run_copy_cells (P := Try.prog) w 45 45 o.type 3 b f dl dc ⟨g, q, none⟩ sl sc (xs.map dI) u_ints gi_int hlen
    (fun j v hj => by rw [Addr.add_lit]; exact hr j v hj)
    (fun j hj => (ht j (by rw [List.length_map] at hj; exact hj)).1) (fun j hj => (ht j (by rw [List.length_map] at hj; exact hj)).2) (one_dI _)
  rw [List.length_map] at hrun
  unfold Oper.wp
  simp [execOp, ho, resolve, invoke, builtin, hd, hs, hrun, Result.andThen]
  exact hK _ _ (h _ rfl)
/-- What lies there when j digits of a round are done. -/
def mid (g d : Nat → Nat) (j : Nat) : Nat → Nat := fun i => if i < j then d i else if i = 16 then 0 else g i
theorem mid_zero (g d : Nat → Nat) (i : Nat) : upd g 16 0 i = mid g d 0 i := by unfold upd mid; split <;> simp_all
theorem mid_at (g d : Nat → Nat) {j : Nat} (h : j < 16) : mid g d j j = g j := by unfold mid; rw [if_neg (by omega), if_neg (by omega)]
theorem mid_step (g d : Nat → Nat) {j : Nat} (h : j < 16) (i : Nat) : upd (mid g d j) j (d j) i = mid g d (j + 1) i := by
  unfold upd mid
  by_cases h1 : i = j
  · subst h1
    rw [if_pos rfl, if_pos (by omega)]
  · rw [if_neg h1]
    by_cases h2 : i < j
    · rw [if_pos h2, if_pos (by omega)]
    · rw [if_neg h2, if_neg (show ¬ i < j + 1 by omega)]
theorem mid_end (g : Nat → Nat) (i : Nat) (h : i < 17) : upd (mid g (dig g (38 * g 16)) 16) 16 (car g (38 * g 16) 16) i = rnd g i := by
  unfold upd mid rnd
  by_cases h1 : i = 16
  · subst h1
    rw [if_pos rfl, if_neg (by omega)]
  · rw [if_neg h1, if_pos (by omega), if_pos (by omega)]
theorem Ar.front {w : World} {k n m : Nat} {f : Nat → Nat} (h : Ar w k n f) (hm : m ≤ n) : w.rangeAt k 0 ((row m f).map dI) := fun j v hj => by
  rw [Nat.zero_add]
  refine h.cell j v ?_
  by_cases h1 : j < m
  · have h2 : j < n := by omega
    simp [row, h1, h2] at hj ⊢
    exact hj
  · simp [row, h1] at hj
/-- What lies there when j digits of a difference are done. -/
def less (f : Nat → Nat) (j : Nat) : Nat → Nat := fun i => if i < j then f i else 0
theorem less_zero (f : Nat → Nat) (i : Nat) : z0 i = less f 0 i := by unfold z0 less; rw [if_neg (by omega)]
theorem less_step (f : Nat → Nat) (j i : Nat) : upd (less f j) j (f j) i = less f (j + 1) i := by
  unfold upd less
  by_cases h1 : i = j
  · subst h1
    rw [if_pos rfl, if_pos (by omega)]
  · rw [if_neg h1]
    by_cases h2 : i < j
    · rw [if_pos h2, if_pos (by omega)]
    · rw [if_neg h2, if_neg (show ¬ i < j + 1 by omega)]
theorem less_all (f : Nat → Nat) (i : Nat) (h : i < 16) : less f 16 i = f i := by unfold less; rw [if_pos h]
set_option maxRecDepth 20000 in
set_option maxHeartbeats 1000000 in
theorem least_fun (f : Nat → Nat) (hf : Sm f) (w : World) : Calls Try.prog 83 #[aI 17 f] w fun e w' => e = .returned (aI 16 (fd (sm f 17 % F.p))) ∧ Below w.heap.size w w' := by
  obtain ⟨R, hR0, hRs⟩ : ∃ R : Nat → Nat → Nat, R 0 = f ∧ ∀ q, R (q + 1) = rnd (R q) := ⟨fun q => Nat.rec f (fun _ g => rnd g) q, rfl, fun _ => rfl⟩
  have SR : Hid (∀ q, Sm (R q)) := fun q => by
    induction q with
    | zero => rw [hR0]; exact hf
    | succ q ih => rw [hRs]; exact (rnd_Sm ih).1
  have RS : Hid (∀ q i, i < 17 → upd (mid (R q) (dig (R q) (38 * R q 16)) 16) 16 (car (R q) (38 * R q 16) 16) i = R (q + 1) i) := fun q i hi => by rw [hRs]; exact mid_end _ _ hi
  have R3 : Hid (sm (R 3) 16 % F.p = sm f 17 % F.p ∧ ∀ i, i < 16 → R 3 i < 65536) := by
    have e : R 3 = rnd (rnd (rnd f)) := by rw [hRs, hRs, hRs, hR0]
    rw [e]
    exact ⟨(rnd_three hf).2, fun i hi => rnd_lt hi⟩
  obtain ⟨x0, x1, x2⟩ := al2 w ((row 17 f).map dI).toArray #[Value.int IntKind.i64 0, Value.int IntKind.i64 0, Value.int IntKind.i64 0, Value.int IntKind.i64 0, Value.int IntKind.i64 0, Value.int IntKind.i64 0, Value.int IntKind.i64 0, Value.int IntKind.i64 0, Value.int IntKind.i64 0, Value.int IntKind.i64 0, Value.int IntKind.i64 0, Value.int IntKind.i64 0, Value.int IntKind.i64 0, Value.int IntKind.i64 0, Value.int IntKind.i64 0, Value.int IntKind.i64 0] 103 70
  have X0 : Hid (Ar _ w.heap.size 17 f) := x0
  have H0 : Hid (R 0 = f) := hR0
  have X1 : Hid (Ar _ (w.heap.size + 1) 16 z0) := x1
  have X2 : Hid (Below w.heap.size w _) := x2
  clear x0 x1 x2 hf hR0 hRs
  obtain ⟨V, hV⟩ : ∃ V, V = sm f 17 % F.p := ⟨_, rfl⟩
  rw [← hV] at R3 ⊢
  clear hV
  go_enter Try.func83, Try.ntmps83
  go_wp2_with (simp only [zero_fe])
  try rw [show Try.zeroCells70 = #[Value.int IntKind.i64 0, Value.int IntKind.i64 0, Value.int IntKind.i64 0, Value.int IntKind.i64 0, Value.int IntKind.i64 0, Value.int IntKind.i64 0, Value.int IntKind.i64 0, Value.int IntKind.i64 0, Value.int IntKind.i64 0, Value.int IntKind.i64 0, Value.int IntKind.i64 0, Value.int IntKind.i64 0, Value.int IntKind.i64 0, Value.int IntKind.i64 0, Value.int IntKind.i64 0, Value.int IntKind.i64 0] from rfl]
  generalize World.alloc (w.alloc _) _ = w1 at *
  rw [← H0.out] at X0
  go_loopw [11] (fun i wr => ∃ q : Nat, q ≤ 3 ∧ i = .int .i64 (q : Int) ∧ Hid (Ar wr w.heap.size 17 (R q)) ∧ Hid (Ar wr (w.heap.size + 1) 16 z0) ∧ Hid (Below w.heap.size w wr)) (fun i _ => 3 - (intOf i).toNat)
  case atStart => exact ⟨0, by omega, rfl, X0, X1, X2⟩
  case round =>
    clear X0 X1 X2
    obtain ⟨q, hq, rfl, X0, X1, X2⟩ := hrel
    by_cases hq1 : q < 3
    · have q1 : (q : Int) < 3 := by omega
      have wq : IntKind.i64.wrap ((q : Int) + 1) = (q : Int) + 1 := by rw [IntKind.wrap_i64]; omega
      have Q1 : Hid (q < 3) := hq1
      have SG := SR.out q
      have RG : Hid _ := RS.out q
      obtain ⟨g, hg⟩ : ∃ g, g = R q := ⟨_, rfl⟩
      rw [← hg] at X0 RG SG
      obtain ⟨C, hC⟩ : ∃ C, C = car g (38 * g 16) := ⟨_, rfl⟩
      obtain ⟨D, hD⟩ : ∃ D, D = dig g (38 * g 16) := ⟨_, rfl⟩
      have hc0 : 38 * g 16 < 2 ^ 51 := by have := SG 16 (by decide); omega
      have CD : Hid (∀ j, j < 16 → C j < 2 ^ 51 ∧ g j < 2 ^ 45 ∧ (C j + g j) % 65536 = D j ∧ (C j + g j) / 65536 = C (j + 1)) := fun j hj => by
        rw [hC, hD]
        exact ⟨car_le hc0 (fun i hi => by have := SG i (by omega); omega) j (by omega), SG j (by omega), rfl, rfl⟩
      have c16 : wr.cell? ⟨w.heap.size, 16, none⟩ = some (dI (g 16)) := X0.out.at (by decide)
      have z16 := X0.out.fz 16
      have w16 : IntKind.i64.wrap (((g 16 : Nat) : Int) * 38) = ((C 0 : Nat) : Int) := by
        rw [IntKind.wrap_i64, hC, show car g (38 * g 16) 0 = 38 * g 16 from rfl]
        omega
      have Y0 : Hid (Ar (wr.setCell ⟨w.heap.size, 16, none⟩ (.int .i64 0)) w.heap.size 17 (mid g D 0)) := (X0.out.set (j := 16) (by decide) 0).congr fun i _ => mid_zero g D i
      have Y1 : Hid (Ar (wr.setCell ⟨w.heap.size, 16, none⟩ (.int .i64 0)) (w.heap.size + 1) 16 z0) := X1.out.apart1 (by omega)
      have Y2 : Hid (Below w.heap.size w (wr.setCell ⟨w.heap.size, 16, none⟩ (.int .i64 0))) := X2.out.setCell (p := ⟨w.heap.size, 16, none⟩) (Nat.le_refl _) _
      rw [← hC, ← hD] at RG
      have CT : Hid (C 16 = C 16) := rfl
      have C51 : Hid (C 16 < 2 ^ 51) := by rw [hC]; exact car_le hc0 (fun i hi => by have := SG i (by omega); omega) 16 (by decide)
      generalize g 16 = t at *
      clear hg hC hD hq hq1 X0 X1 X2 SG hc0
      go_wp2_with fail
      clear c16 z16 w16
      generalize wr.setCell _ _ = w2 at *
      go_loopw [3, 17] (fun c i wr => ∃ j : Nat, j ≤ 16 ∧ c = .int .i64 ((C j : Nat) : Int) ∧ i = .int .i64 (j : Int) ∧ Hid (Ar wr w.heap.size 17 (mid g D j)) ∧ Hid (Ar wr (w.heap.size + 1) 16 z0) ∧ Hid (Below w.heap.size w wr)) (fun _ i _ => 16 - (intOf i).toNat)
      case atStart => exact ⟨0, by omega, rfl, rfl, Y0, Y1, Y2⟩
      case round =>
        clear Y0 Y1 Y2
        obtain ⟨j, hj, rfl, rfl, X0, X1, X2⟩ := hrel
        by_cases hj1 : j < 16
        · have j1 : (j : Int) < 16 := by omega
          have j2 : (j : Int) < 17 := by omega
          have wj : IntKind.i64.wrap ((j : Int) + 1) = (j : Int) + 1 := by rw [IntKind.wrap_i64]; omega
          have J1 : Hid (j < 16) := hj1
          obtain ⟨c1, c2, c3, c4⟩ := CD.out j hj1
          have cj : wr.cell? ⟨w.heap.size, j, none⟩ = some (dI (g j)) := by
            have := X0.out.at (j := j) (by omega)
            rwa [mid_at g D hj1] at this
          have zj := X0.out.fz j
          obtain ⟨s, hs⟩ : ∃ s, s = C j + g j := ⟨_, rfl⟩
          rw [← hs] at c3 c4
          have a1 : IntKind.i64.wrap (((C j : Nat) : Int) + ((g j : Nat) : Int)) = (s : Int) := by rw [IntKind.wrap_i64]; omega
          have a2 : bits .and .i64 (s : Int) 65535 = ((D j : Nat) : Int) := by rw [i64_and16 s (by omega), c3]
          have a3 : (s : Int) / 65536 = ((C (j + 1) : Nat) : Int) := by omega
          have Y0 : Hid (Ar (wr.setCell ⟨w.heap.size, j, none⟩ (dI (D j))) w.heap.size 17 (mid g D (j + 1))) := (X0.out.set (j := j) (by omega) (D j)).congr fun i _ => mid_step g D hj1 i
          have Y1 : Hid (Ar (wr.setCell ⟨w.heap.size, j, none⟩ (dI (D j))) (w.heap.size + 1) 16 z0) := X1.out.apart1 (by omega)
          have Y2 : Hid (Below w.heap.size w (wr.setCell ⟨w.heap.size, j, none⟩ (dI (D j)))) := X2.out.setCell (p := ⟨w.heap.size, j, none⟩) (Nat.le_refl _) _
          have CN : Hid (C (j + 1) = C (j + 1)) := rfl
          obtain ⟨cn, hcn⟩ : ∃ cn, Hid (cn = C (j + 1)) := ⟨_, rfl⟩
          rw [← hcn.out] at a3
          generalize C j = cv at *
          generalize g j = gv at *
          generalize D j = dv at *
          clear hs c1 c2 c3 c4 hj hj1 X0 X1 X2 CN
          go_wp2_with fail
          go_roundw
          case rel => exact ⟨j + 1, J1.out, by rw [hcn.out], by first | rfl | go_num, Y0, Y1, Y2⟩
          case measure => have := J1.out; simp [intOf]; omega
        · obtain rfl : j = 16 := by omega
          have cj := X0.out.at (j := 16) (by decide)
          have zj := X0.out.fz 16
          have Y0 : Hid (Ar (wr.setCell ⟨w.heap.size, 16, none⟩ (dI (C 16))) w.heap.size 17 (R (q + 1))) := (X0.out.set (j := 16) (by decide) (C 16)).congr fun i hi => RG.out i hi
          have Y1 : Hid (Ar (wr.setCell ⟨w.heap.size, 16, none⟩ (dI (C 16))) (w.heap.size + 1) 16 z0) := X1.out.apart1 (by omega)
          have Y2 : Hid (Below w.heap.size w (wr.setCell ⟨w.heap.size, 16, none⟩ (dI (C 16)))) := X2.out.setCell (p := ⟨w.heap.size, 16, none⟩) (Nat.le_refl _) _
          generalize mid g D 16 16 = mv at *
          generalize C 16 = cv at *
          clear hj hj1 X0 X1 X2
          go_wp2_with fail
          go_roundw
          case rel => exact ⟨q + 1, Q1.out, by first | rfl | go_num, Y0, Y1, Y2⟩
          case measure => have := Q1.out; simp [intOf]; omega
    · obtain rfl : q = 3 := by omega
      have q3 : ¬ (((3 : Nat) : Int) < 3) := by decide
      obtain ⟨G, hG⟩ : ∃ G, G = R 3 := ⟨_, rfl⟩
      rw [← hG] at X0 R3
      have L1 : Hid (w.heap.size + 1 < wr.heap.size) := X1.out.lt
      obtain ⟨k0, k1⟩ := al1 wr #[Value.int IntKind.i64 0, Value.int IntKind.i64 0, Value.int IntKind.i64 0, Value.int IntKind.i64 0, Value.int IntKind.i64 0, Value.int IntKind.i64 0, Value.int IntKind.i64 0, Value.int IntKind.i64 0, Value.int IntKind.i64 0, Value.int IntKind.i64 0, Value.int IntKind.i64 0, Value.int IntKind.i64 0, Value.int IntKind.i64 0, Value.int IntKind.i64 0, Value.int IntKind.i64 0, Value.int IntKind.i64 0] 70
      have XL : Hid (Ar (wr.alloc (.cells #[Value.int IntKind.i64 0, Value.int IntKind.i64 0, Value.int IntKind.i64 0, Value.int IntKind.i64 0, Value.int IntKind.i64 0, Value.int IntKind.i64 0, Value.int IntKind.i64 0, Value.int IntKind.i64 0, Value.int IntKind.i64 0, Value.int IntKind.i64 0, Value.int IntKind.i64 0, Value.int IntKind.i64 0, Value.int IntKind.i64 0, Value.int IntKind.i64 0, Value.int IntKind.i64 0, Value.int IntKind.i64 0] 70)) wr.heap.size 16 z0) := k0
      have Y0 : Hid (Ar (wr.alloc (.cells #[Value.int IntKind.i64 0, Value.int IntKind.i64 0, Value.int IntKind.i64 0, Value.int IntKind.i64 0, Value.int IntKind.i64 0, Value.int IntKind.i64 0, Value.int IntKind.i64 0, Value.int IntKind.i64 0, Value.int IntKind.i64 0, Value.int IntKind.i64 0, Value.int IntKind.i64 0, Value.int IntKind.i64 0, Value.int IntKind.i64 0, Value.int IntKind.i64 0, Value.int IntKind.i64 0, Value.int IntKind.i64 0] 70)) w.heap.size 17 G) := X0.out.up k1 X0.out.lt
      have Y1 : Hid (Ar (wr.alloc (.cells #[Value.int IntKind.i64 0, Value.int IntKind.i64 0, Value.int IntKind.i64 0, Value.int IntKind.i64 0, Value.int IntKind.i64 0, Value.int IntKind.i64 0, Value.int IntKind.i64 0, Value.int IntKind.i64 0, Value.int IntKind.i64 0, Value.int IntKind.i64 0, Value.int IntKind.i64 0, Value.int IntKind.i64 0, Value.int IntKind.i64 0, Value.int IntKind.i64 0, Value.int IntKind.i64 0, Value.int IntKind.i64 0] 70)) (w.heap.size + 1) 16 z0) := X1.out.up k1 X1.out.lt
      have Y2 : Hid (Below w.heap.size w (wr.alloc (.cells #[Value.int IntKind.i64 0, Value.int IntKind.i64 0, Value.int IntKind.i64 0, Value.int IntKind.i64 0, Value.int IntKind.i64 0, Value.int IntKind.i64 0, Value.int IntKind.i64 0, Value.int IntKind.i64 0, Value.int IntKind.i64 0, Value.int IntKind.i64 0, Value.int IntKind.i64 0, Value.int IntKind.i64 0, Value.int IntKind.i64 0, Value.int IntKind.i64 0, Value.int IntKind.i64 0, Value.int IntKind.i64 0] 70))) := X2.out.trans (k1.mono X2.out.size)
      clear k0 k1 hG hq hq1 X0 X1 X2 SR RS H0
      go_wp2_with (simp only [zero_fe])
      try rw [show Try.zeroCells70 = #[Value.int IntKind.i64 0, Value.int IntKind.i64 0, Value.int IntKind.i64 0, Value.int IntKind.i64 0, Value.int IntKind.i64 0, Value.int IntKind.i64 0, Value.int IntKind.i64 0, Value.int IntKind.i64 0, Value.int IntKind.i64 0, Value.int IntKind.i64 0, Value.int IntKind.i64 0, Value.int IntKind.i64 0, Value.int IntKind.i64 0, Value.int IntKind.i64 0, Value.int IntKind.i64 0, Value.int IntKind.i64 0] from rfl]
      generalize wr.alloc _ = w4 at *
      generalize wr.heap.size = ko at *
      clear q3
      refine wp_region_monoSE 2 [MP.eq (.slice (some ⟨ko, 0, none⟩) 16 16), MP.eq (.slice (some ⟨w.heap.size, 0, none⟩) 16 17)] (by kernel_rfl) (by kernel_rfl) rfl (by decide) (by kernel_rfl) ?_
      apply Exists.intro
      refine ⟨fun vals => ?_, ?_, fun vals5 w5 hb5 hF hO => ?_⟩
      · simp only [putsV, dstL, List.length_cons, List.length_nil, Nat.zero_add, Nat.reduceAdd, List.getElem?_cons_zero, List.getElem?_cons_succ, Option.bind_some, Act.put, List.setIfInBounds_toArray, List.set_cons_succ, List.set_cons_zero]
        rfl
      · refine ⟨?_, ?_, trivial⟩
        · intro vals W hW hw hd
          try simp [Region.binds] at hd
          refine ⟨by first | rfl | simp [Region.wanted, yielded, hd], ?_⟩
          exact yields_all u_fe gi_int (by decide) (.tmp 5) rfl ko 0 rfl rfl
        · intro vals W hW hw hd
          try simp [Region.binds] at hd
          refine ⟨by first | rfl | simp [Region.wanted, yielded, hd], ?_⟩
          exact yields_front u_i17 gi_int .i64 16 (by decide) (by decide) (.tmp 1) _ rfl w.heap.size 0 rfl rfl rfl
      obtain ⟨f0, f1, _⟩ := hF
      simp only [MP.eq_p] at f0 f1
      rw [f0, f1]
      simp only [List.drop_succ_cons, List.drop_zero]
      have Z0 : Hid (Ar w5 w.heap.size 17 G) := Y0.out.up hb5.out Y0.out.lt
      have Z1 : Hid (Ar w5 (w.heap.size + 1) 16 z0) := Y1.out.up hb5.out Y1.out.lt
      have Z2 : Hid (Below w.heap.size w w5) := Y2.out.trans (hb5.out.mono Y2.out.size)
      have ZL : Hid (Ar w5 ko 16 z0) := XL.out.up hb5.out XL.out.lt
      have RR : Hid (w5.rangeAt w.heap.size 0 ((row 16 G).map dI)) := Z0.out.front (by decide)
      have TT : Hid (w5.there ko 0 (row 16 G).length) := ZL.out.there (by rw [List.length_map, row_length, row_length]; omega)
      have LG : Hid ((row 16 G).length = min 16 16) := row_length 16 G
      clear f0 f1 hb5 hO Y0 Y1 Y2 XL
      go_wp2_with (refine wp_copyI rfl (.tmp 35) (.tmp 36) rfl ko 0 16 16 w.heap.size 0 16 17 (row 16 G) rfl rfl LG.out RR.out TT.out ?_)
      intro w6 hw6
      have Y1 : Hid (Ar w6 (w.heap.size + 1) 16 z0) := by rw [hw6.out]; exact Z1.out.apart (by have := L1.out; omega)
      have Y0 : Hid (Ar w6 ko 16 G) := by rw [hw6.out]; exact ZL.out.put (by rw [List.length_map, List.length_map, row_length, row_length])
      have Y2 : Hid (Below w.heap.size w w6) := by rw [hw6.out]; exact below_setCells _ _ _ Z2.out (by have := L1.out; omega)
      clear hw6 Z0 Z1 Z2 ZL RR TT LG
      go_wp2_with fail
      go_loopg [] (sm G 16) (fun gk wr => ∃ H : Nat → Nat, gk = sm H 16 ∧ Hid ((∀ i, i < 16 → H i < 65536) ∧ sm H 16 % F.p = V) ∧ Hid (Ar wr ko 16 H) ∧ Hid (Ar wr (w.heap.size + 1) 16 z0) ∧ Hid (Below w.heap.size w wr))
      case atStart => exact ⟨G, rfl, ⟨R3.out.2, R3.out.1⟩, Y0, Y1, Y2⟩
      case round =>
        clear Y0 Y1 Y2 R3
        obtain ⟨H, hgk, HH, X0, X1, X2⟩ := hrel
        have GK : Hid (gk = sm H 16) := hgk
        have L2 : Hid (ko < wr.heap.size) := X0.out.lt
        obtain ⟨k0, k1⟩ := al1 wr #[Value.int IntKind.i64 0, Value.int IntKind.i64 0, Value.int IntKind.i64 0, Value.int IntKind.i64 0, Value.int IntKind.i64 0, Value.int IntKind.i64 0, Value.int IntKind.i64 0, Value.int IntKind.i64 0, Value.int IntKind.i64 0, Value.int IntKind.i64 0, Value.int IntKind.i64 0, Value.int IntKind.i64 0, Value.int IntKind.i64 0, Value.int IntKind.i64 0, Value.int IntKind.i64 0, Value.int IntKind.i64 0] 70
        have XL : Hid (Ar (wr.alloc (.cells #[Value.int IntKind.i64 0, Value.int IntKind.i64 0, Value.int IntKind.i64 0, Value.int IntKind.i64 0, Value.int IntKind.i64 0, Value.int IntKind.i64 0, Value.int IntKind.i64 0, Value.int IntKind.i64 0, Value.int IntKind.i64 0, Value.int IntKind.i64 0, Value.int IntKind.i64 0, Value.int IntKind.i64 0, Value.int IntKind.i64 0, Value.int IntKind.i64 0, Value.int IntKind.i64 0, Value.int IntKind.i64 0] 70)) wr.heap.size 16 (less (sd H) 0)) := (show Ar _ wr.heap.size 16 z0 from k0).congr fun i _ => less_zero _ i
        have Y0 : Hid (Ar (wr.alloc (.cells #[Value.int IntKind.i64 0, Value.int IntKind.i64 0, Value.int IntKind.i64 0, Value.int IntKind.i64 0, Value.int IntKind.i64 0, Value.int IntKind.i64 0, Value.int IntKind.i64 0, Value.int IntKind.i64 0, Value.int IntKind.i64 0, Value.int IntKind.i64 0, Value.int IntKind.i64 0, Value.int IntKind.i64 0, Value.int IntKind.i64 0, Value.int IntKind.i64 0, Value.int IntKind.i64 0, Value.int IntKind.i64 0] 70)) ko 16 H) := X0.out.up k1 X0.out.lt
        have Y1 : Hid (Ar (wr.alloc (.cells #[Value.int IntKind.i64 0, Value.int IntKind.i64 0, Value.int IntKind.i64 0, Value.int IntKind.i64 0, Value.int IntKind.i64 0, Value.int IntKind.i64 0, Value.int IntKind.i64 0, Value.int IntKind.i64 0, Value.int IntKind.i64 0, Value.int IntKind.i64 0, Value.int IntKind.i64 0, Value.int IntKind.i64 0, Value.int IntKind.i64 0, Value.int IntKind.i64 0, Value.int IntKind.i64 0, Value.int IntKind.i64 0] 70)) (w.heap.size + 1) 16 z0) := X1.out.up k1 X1.out.lt
        have Y2 : Hid (Below w.heap.size w (wr.alloc (.cells #[Value.int IntKind.i64 0, Value.int IntKind.i64 0, Value.int IntKind.i64 0, Value.int IntKind.i64 0, Value.int IntKind.i64 0, Value.int IntKind.i64 0, Value.int IntKind.i64 0, Value.int IntKind.i64 0, Value.int IntKind.i64 0, Value.int IntKind.i64 0, Value.int IntKind.i64 0, Value.int IntKind.i64 0, Value.int IntKind.i64 0, Value.int IntKind.i64 0, Value.int IntKind.i64 0, Value.int IntKind.i64 0] 70))) := X2.out.trans (k1.mono X2.out.size)
        clear k0 k1 hgk X0 X1 X2
        go_wp2_with (simp only [zero_fe])
        try rw [show Try.zeroCells70 = #[Value.int IntKind.i64 0, Value.int IntKind.i64 0, Value.int IntKind.i64 0, Value.int IntKind.i64 0, Value.int IntKind.i64 0, Value.int IntKind.i64 0, Value.int IntKind.i64 0, Value.int IntKind.i64 0, Value.int IntKind.i64 0, Value.int IntKind.i64 0, Value.int IntKind.i64 0, Value.int IntKind.i64 0, Value.int IntKind.i64 0, Value.int IntKind.i64 0, Value.int IntKind.i64 0, Value.int IntKind.i64 0] from rfl]
        generalize wr.alloc _ = w4 at *
        generalize wr.heap.size = kl at *
        go_loopw [6, 38] (fun b i wr => ∃ j : Nat, j ≤ 16 ∧ b = .int .i64 ((bor H j : Nat) : Int) ∧ i = .int .i64 (j : Int) ∧ Hid (Ar wr kl 16 (less (sd H) j)) ∧ Hid (Ar wr ko 16 H) ∧ Hid (Ar wr (w.heap.size + 1) 16 z0) ∧ Hid (Below w.heap.size w wr)) (fun _ i _ => 16 - (intOf i).toNat)
        case atStart => exact ⟨0, by omega, rfl, rfl, XL, Y0, Y1, Y2⟩
        case round =>
          clear XL Y0 Y1 Y2
          obtain ⟨j, hj, rfl, rfl, XL, X0, X1, X2⟩ := hrel
          by_cases hj1 : j < 16
          · have j1 : (j : Int) < 16 := by omega
            have wj : IntKind.i64.wrap ((j : Int) + 1) = (j : Int) + 1 := by rw [IntKind.wrap_i64]; omega
            have J1 : Hid (j < 16) := hj1
            have cj : wr.cell? ⟨ko, j, none⟩ = some (dI (H j)) := X0.out.at hj1
            have lj := XL.out.at hj1
            have zj := XL.out.fz j
            have h2 := HH.out.1 j hj1
            have b1 := bor_le H j
            have e0 := sd_eq (f := H) (j := j)
            have e1 : bor H (j + 1) = if H j < mo j + bor H j then 1 else 0 := rfl
            have YL : Hid (Ar (wr.setCell ⟨kl, j, none⟩ (dI (sd H j))) kl 16 (less (sd H) (j + 1))) := (XL.out.set hj1 (sd H j)).congr fun i _ => less_step (sd H) j i
            have Y0 : Hid (Ar (wr.setCell ⟨kl, j, none⟩ (dI (sd H j))) ko 16 H) := X0.out.apart1 (by have := L2.out; omega)
            have Y1 : Hid (Ar (wr.setCell ⟨kl, j, none⟩ (dI (sd H j))) (w.heap.size + 1) 16 z0) := X1.out.apart1 (by have := L2.out; have := L1.out; omega)
            have Y2 : Hid (Below w.heap.size w (wr.setCell ⟨kl, j, none⟩ (dI (sd H j)))) := X2.out.setCell (p := ⟨kl, j, none⟩) (by have := L2.out; have := L1.out; show w.heap.size ≤ kl; omega) _
            generalize less (sd H) j j = lv at *
            by_cases h0 : j = 0
            · subst h0
              have hm : mo 0 = 65517 := by first | exact hmo | rfl
              rw [hm] at e0 e1
              have a1 : IntKind.i64.wrap (((H 0 : Nat) : Int) - 65517) = ((H 0 : Nat) : Int) - 65517 := by rw [IntKind.wrap_i64]; omega
              obtain ⟨y, hy⟩ : ∃ y : Int, y = ((H 0 : Nat) : Int) - 65517 - ((bor H 0 : Nat) : Int) := ⟨_, rfl⟩
              have a2 : IntKind.i64.wrap (((H 0 : Nat) : Int) - 65517 - ((bor H 0 : Nat) : Int)) = y := by rw [IntKind.wrap_i64]; omega
              by_cases h1 : H 0 < 65517 + bor H 0
              · rw [if_pos h1] at e1
                have y0 : y < 0 := by omega
                have a3 : IntKind.i64.wrap (y + 65536) = ((sd H 0 : Nat) : Int) := by rw [IntKind.wrap_i64]; omega
                have BN : Hid (bor H (0 + 1) = 1) := e1
                generalize bor H 0 = bv at *
                generalize H 0 = hv at *
                generalize sd H 0 = sv at *
                try clear hmo
                clear hy e0 e1 h1 hm b1 h2 hj hj1 X0 X1 X2 XL
                go_wp2_with fail
                go_roundw
                case rel => exact ⟨0 + 1, J1.out, by rw [BN.out]; rfl, by first | rfl | go_num, YL, Y0, Y1, Y2⟩
                case measure => have := J1.out; simp [intOf] <;> omega
              · rw [if_neg h1] at e1
                have y0 : ¬ y < 0 := by omega
                have a3 : y = ((sd H 0 : Nat) : Int) := by omega
                have BN : Hid (bor H (0 + 1) = 0) := e1
                rw [a3] at a2 y0
                generalize bor H 0 = bv at *
                generalize H 0 = hv at *
                generalize sd H 0 = sv at *
                try clear hmo
                clear hy e0 e1 h1 hm b1 h2 hj hj1 X0 X1 X2 XL a3
                go_wp2_with fail
                go_roundw
                case rel => exact ⟨0 + 1, J1.out, by rw [BN.out]; rfl, by first | rfl | go_num, YL, Y0, Y1, Y2⟩
                case measure => have := J1.out; simp [intOf] <;> omega
            · by_cases h15 : j = 15
              · subst h15
                clear h0
                have hm : mo 15 = 32767 := by first | exact hmo | rfl
                rw [hm] at e0 e1
                have a1 : IntKind.i64.wrap (((H 15 : Nat) : Int) - 32767) = ((H 15 : Nat) : Int) - 32767 := by rw [IntKind.wrap_i64]; omega
                obtain ⟨y, hy⟩ : ∃ y : Int, y = ((H 15 : Nat) : Int) - 32767 - ((bor H 15 : Nat) : Int) := ⟨_, rfl⟩
                have a2 : IntKind.i64.wrap (((H 15 : Nat) : Int) - 32767 - ((bor H 15 : Nat) : Int)) = y := by rw [IntKind.wrap_i64]; omega
                by_cases h1 : H 15 < 32767 + bor H 15
                · rw [if_pos h1] at e1
                  have y0 : y < 0 := by omega
                  have a3 : IntKind.i64.wrap (y + 65536) = ((sd H 15 : Nat) : Int) := by rw [IntKind.wrap_i64]; omega
                  have BN : Hid (bor H (15 + 1) = 1) := e1
                  generalize bor H 15 = bv at *
                  generalize H 15 = hv at *
                  generalize sd H 15 = sv at *
                  try clear hmo
                  clear hy e0 e1 h1 hm b1 h2 hj hj1 X0 X1 X2 XL
                  go_wp2_with fail
                  go_roundw
                  case rel => exact ⟨15 + 1, J1.out, by rw [BN.out]; rfl, by first | rfl | go_num, YL, Y0, Y1, Y2⟩
                  case measure => have := J1.out; simp [intOf] <;> omega
                · rw [if_neg h1] at e1
                  have y0 : ¬ y < 0 := by omega
                  have a3 : y = ((sd H 15 : Nat) : Int) := by omega
                  have BN : Hid (bor H (15 + 1) = 0) := e1
                  rw [a3] at a2 y0
                  generalize bor H 15 = bv at *
                  generalize H 15 = hv at *
                  generalize sd H 15 = sv at *
                  try clear hmo
                  clear hy e0 e1 h1 hm b1 h2 hj hj1 X0 X1 X2 XL a3
                  go_wp2_with fail
                  go_roundw
                  case rel => exact ⟨15 + 1, J1.out, by rw [BN.out]; rfl, by first | rfl | go_num, YL, Y0, Y1, Y2⟩
                  case measure => have := J1.out; simp [intOf] <;> omega
              · have j0 : ((j : Int) == 0) = false := by simp; omega
                have j15 : ((j : Int) == 15) = false := by simp; omega
                have hmo : mo j = 65535 := by unfold mo; rw [if_neg h0, if_neg h15]
                clear h0 h15
                have hm : mo j = 65535 := by first | exact hmo | rfl
                rw [hm] at e0 e1
                have a1 : IntKind.i64.wrap (((H j : Nat) : Int) - 65535) = ((H j : Nat) : Int) - 65535 := by rw [IntKind.wrap_i64]; omega
                obtain ⟨y, hy⟩ : ∃ y : Int, y = ((H j : Nat) : Int) - 65535 - ((bor H j : Nat) : Int) := ⟨_, rfl⟩
                have a2 : IntKind.i64.wrap (((H j : Nat) : Int) - 65535 - ((bor H j : Nat) : Int)) = y := by rw [IntKind.wrap_i64]; omega
                by_cases h1 : H j < 65535 + bor H j
                · rw [if_pos h1] at e1
                  have y0 : y < 0 := by omega
                  have a3 : IntKind.i64.wrap (y + 65536) = ((sd H j : Nat) : Int) := by rw [IntKind.wrap_i64]; omega
                  have BN : Hid (bor H (j + 1) = 1) := e1
                  generalize bor H j = bv at *
                  generalize H j = hv at *
                  generalize sd H j = sv at *
                  try clear hmo
                  clear hy e0 e1 h1 hm b1 h2 hj hj1 X0 X1 X2 XL
                  go_wp2_with fail
                  go_roundw
                  case rel => exact ⟨j + 1, J1.out, by rw [BN.out]; rfl, by first | rfl | go_num, YL, Y0, Y1, Y2⟩
                  case measure => have := J1.out; simp [intOf] <;> omega
                · rw [if_neg h1] at e1
                  have y0 : ¬ y < 0 := by omega
                  have a3 : y = ((sd H j : Nat) : Int) := by omega
                  have BN : Hid (bor H (j + 1) = 0) := e1
                  rw [a3] at a2 y0
                  generalize bor H j = bv at *
                  generalize H j = hv at *
                  generalize sd H j = sv at *
                  try clear hmo
                  clear hy e0 e1 h1 hm b1 h2 hj hj1 X0 X1 X2 XL a3
                  go_wp2_with fail
                  go_roundw
                  case rel => exact ⟨j + 1, J1.out, by rw [BN.out]; rfl, by first | rfl | go_num, YL, Y0, Y1, Y2⟩
                  case measure => have := J1.out; simp [intOf] <;> omega
          · obtain rfl : j = 16 := by omega
            have j16 : ¬ (((16 : Nat) : Int) < 16) := by decide
            obtain ⟨bv, hbv⟩ : ∃ bv, bv = bor H 16 := ⟨_, rfl⟩
            have BV : Hid (bv = bor H 16) := hbv
            rw [← hbv]
            clear hbv hj hj1
            by_cases hb : bv = 1
            · have b1 : ((bv : Int) == 1) = true := by rw [hb]; rfl
              have HB : Hid (bv = 1) := hb
              have TT : Hid (wr.there (w.heap.size + 1) 0 ((row 16 H).map dI).length) := X1.out.there (by rw [List.length_map, List.length_map, row_length, row_length]; omega)
              clear hb
              go_wp2_with (first | refine wpList_load_mid rfl 70 (.tmp 5) rfl ko 0 rfl ((row 16 H).map dI) _ X0.out.all u_fe rfl (info_row info_fe H) ?_ | refine wp_store_eq rfl 70 (.tmp 2) (.tmp 62) rfl (w.heap.size + 1) 0 ((row 16 H).map dI) rfl rfl TT.out (info_row info_fe H) (one_dI _) ?_)
              intro w9 hw9
              go_wp2_with fail
              refine bodyPost_ret (v := aI 16 H) ?_ rfl ⟨?_, ?_⟩
              · rw [hw9.out]
                exact results_cell (b := w.heap.size + 1) rfl rfl (World.rangeAt_setCells_same _ _ _ _ TT.out) u_fe rfl (info_row info_fe H)
              · have hl := bor_one HH.out.1 (BV.out ▸ HB.out)
                have e : V = sm H 16 := by rw [← HH.out.2, Nat.mod_eq_of_lt hl]
                rw [e, aI_congr (f := fd (sm H 16)) (g := H) fun i hi => fd_sm 16 HH.out.1 i hi]
              · rw [hw9.out]
                exact below_setCells _ _ _ X2.out (by omega)
            · have b1 : ((bv : Int) == 1) = false := by simp; omega
              have HB : Hid (¬ bv = 1) := hb
              have XS : Hid (Ar wr kl 16 (sd H)) := XL.out.congr fun i hi => less_all _ i hi
              have TT : Hid (wr.there ko 0 ((row 16 (sd H)).map dI).length) := X0.out.there (by rw [List.length_map, List.length_map, row_length, row_length]; omega)
              clear hb XL
              go_wp2_with (first | refine wpList_load_mid rfl 70 (.tmp 7) rfl kl 0 rfl ((row 16 (sd H)).map dI) _ XS.out.all u_fe rfl (info_row info_fe (sd H)) ?_ | refine wp_store_eq rfl 70 (.tmp 5) (.tmp 63) rfl ko 0 ((row 16 (sd H)).map dI) rfl rfl TT.out (info_row info_fe (sd H)) (one_dI _) ?_)
              intro w9 hw9
              have Y0 : Hid (Ar w9 ko 16 (sd H)) := by rw [hw9.out]; exact X0.out.put (by rw [List.length_map, List.length_map, row_length, row_length])
              have Y1 : Hid (Ar w9 (w.heap.size + 1) 16 z0) := by rw [hw9.out]; exact X1.out.apart (by have := L1.out; omega)
              have Y2 : Hid (Below w.heap.size w w9) := by rw [hw9.out]; exact below_setCells _ _ _ X2.out (by have := L1.out; omega)
              have MS := bor_zero (f := H) (BV.out ▸ HB.out)
              have EM : Hid (sm (sd H) 16 < gk ∧ sm (sd H) 16 % F.p = V ∧ ∀ i, i < 16 → sd H i < 65536) := by
                refine ⟨by rw [GK.out, ← MS]; exact Nat.lt_add_of_pos_right F.p_pos, ?_, fun i hi => sd_lt (HH.out.1 i hi)⟩
                rw [← HH.out.2, ← MS, Nat.add_mod_right]
              clear MS hw9 X0 X1 X2 XS TT
              go_wp2_with fail
              go_roundg (sm (sd H) 16)
              case measure => exact EM.out.1
              case rel => exact ⟨sd H, rfl, ⟨EM.out.2.2, EM.out.2.1⟩, Y0, Y1, Y2⟩
end Go.Proofs.Ytpnfopakkaoibaa.I
