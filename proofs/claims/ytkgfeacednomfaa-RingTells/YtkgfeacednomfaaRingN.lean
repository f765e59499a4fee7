/- The contract of ring.New. -/
import Derived.Test.YtkgfeacednomfaaRingI
import Derived.Test.YtkgfeacednomfaaMod
import Derived.Test.YtkgfeacednomfaaEq
import Derived.Laws.Bits64
import Derived.Laws.Bits64b
import Derived.Test.YtkgfeacednomfaaUpA
namespace Go.Proofs.Ytkgfeacednomfaa
open Go.RowKit
theorem wp_region_then3 {P : Program} {id : Nat} {Q : Exit → Act → World → Prop} {a : Act} {w : World} (m : Nat) {l : List Oper} (hm : P.follows .mixedOrders = true) (hB : Region.lexB .any (l.take m).toArray = true) (hS : allocB .any l.toArray m m = true) (hN : Region.noSelect l.toArray = true)
    (hmn : m ≤ l.length) (hQp : ∀ c a d v w, Q (.panic c) (a.put d v) w → Q (.panic c) a w)
    (h : ∃ aF, (∀ (U : Type) (_ : Nonempty U) (f : U → World), (∀ n, Hid (Below w.heap.size w (f n))) → Hid (∀ n w', Below (f n).heap.size (f n) w' → ∃ m, w' = f m) →
      wpQuiet P (l.take m).toArray (fun w' => ∃ n : U, w' = f n) (fun a' => a' = aF) (l.take m) a) ∧
    (∀ w', Hid (Below w.heap.size w w') → wpList P l.toArray Q (l.drop m) aF w')) :
    (Code.region id l.toArray true).wp P Q a w := by
  obtain ⟨aF, h1, h2⟩ := h
  refine wp_region_allocs m m (fun _ => .cells #[] 0) hm hB hS hN (Nat.le_refl _) hmn hQp (fun i o hi hi2 _ => absurd hi2 (by omega)) h1 (fun D w' hw' hn hr hc => ?_)
  have : D = [] := by
    cases D with
    | nil => rfl
    | cons p D => have := hr p (by simp); omega
  subst this
  exact h2 w' hw'.1
end Go.Proofs.Ytkgfeacednomfaa
namespace Go.Proofs.Ytkgfeacednomfaa
open Go.RowKit
attribute [local go_sem] World.cell?_alloc_some frozen?_alloc_cells frozen_out
set_option maxHeartbeats 1000000 in
theorem new_even (m : Nm) (h : bits .and .u64 m.a 1 = 0) (w : World) :
    Calls Try.prog 27 #[N m] w fun e w' => e = .returned (.tuple #[.pointer none, .int .i64 1]) ∧ Below w.heap.size w w' := by
  go_enter Try.func27, Try.ntmps27
  have s0 : Hid (Kn (kal4 w (m)) [(w.heap.size, (c4 (m)))]) := ((Kn.nil w).al (c4 (m)) 24 rfl)
  have b0 : Hid (Below w.heap.size w (kal4 w (m))) := ((Below.refl _ _).alloc (Nat.le_refl _) _)
  go_wp2_with fail
  refine bodyPost_ret (v := .tuple #[.pointer none, .int .i64 1]) (by simp [results, Try.results27, go_sem]) rfl ⟨rfl, b0.out⟩
set_option maxHeartbeats 1000000 in
theorem new_one (h : bits .and .u64 1 1 = 1) (w : World) :
    Calls Try.prog 27 #[N ⟨1, 0, 0, 0⟩] w fun e w' => e = .returned (.tuple #[.pointer none, .int .i64 1]) ∧ Below w.heap.size w w' := by
  have e1 := eqN ⟨1, 0, 0, 0⟩ ⟨1, 0, 0, 0⟩
  rw [Nm.beq_self] at e1
  go_enter Try.func27, Try.ntmps27
  have s0 : Hid (Kn (kal4 w (⟨1, 0, 0, 0⟩)) [(w.heap.size, (c4 (⟨1, 0, 0, 0⟩)))]) := ((Kn.nil w).al (c4 (⟨1, 0, 0, 0⟩)) 24 rfl)
  have b0 : Hid (Below w.heap.size w (kal4 w (⟨1, 0, 0, 0⟩))) := ((Below.refl _ _).alloc (Nat.le_refl _) _)
  go_wp2_with fail
  refine bodyPost_ret (v := .tuple #[.pointer none, .int .i64 1]) (by simp [results, Try.results27, go_sem]) rfl ⟨rfl, b0.out⟩
set_option maxHeartbeats 1000000 in
theorem new_walk (m iv on tw pl ph : Nm) (c d : Int) (h : bits .and .u64 m.a 1 = 1) (nz : m ≠ ⟨1, 0, 0, 0⟩)
    (M1 : ∀ w, Calls Try.prog 66 #[Wv ⟨0, 0, 0, 0⟩ ⟨1, 0, 0, 0⟩, N m] w fun e w' => e = .returned (.tuple #[N on, .int .i64 c]) ∧ Below w.heap.size w w')
    (SM : ∀ w, Calls Try.prog 17 #[N on, N on] w fun e w' => e = .returned (Wv pl ph) ∧ Below w.heap.size w w')
    (M2 : ∀ w, Calls Try.prog 66 #[Wv pl ph, N m] w fun e w' => e = .returned (.tuple #[N tw, .int .i64 d]) ∧ Below w.heap.size w w')
    (SI : ∀ w, Calls Try.prog 67 #[N m] w fun e w' => e = .returned (N iv) ∧ Below w.heap.size w w')
    (w : World) :
    Calls Try.prog 27 #[N m] w fun e w' => (∃ k, w.heap.size ≤ k ∧ e = .returned (.tuple #[rp k, .int .i64 0]) ∧ Blk w' k (c16 m iv on tw)) ∧ Below w.heap.size w w' := by
  have e1 := eqN m ⟨1, 0, 0, 0⟩
  rw [Nm.beq_ne nz] at e1
  go_enter Try.func27, Try.ntmps27
  have s0 : Hid (Kn (kal4 w (m)) [(w.heap.size, (c4 (m)))]) := ((Kn.nil w).al (c4 (m)) 24 rfl)
  have b0 : Hid (Below w.heap.size w (kal4 w (m))) := ((Below.refl _ _).alloc (Nat.le_refl _) _)
  go_wp2_with fail
  refine (M1 _).mono ?_
  rintro e w1 ⟨rfl, hb1⟩
  have s1 : Hid (Kn w1 [(w.heap.size, (c4 (m)))]) := s0.out.up hb1
  have b1 : Hid (Below w.heap.size w w1) := b0.out.trans (hb1.mono b0.out.size)
  have z1 := b1.out.size
  clear hb1 s0 b0
  have s2 : Hid (Kn (kal4 w1 (on)) [(w1.heap.size, (c4 (on))), (w.heap.size, (c4 (m)))]) := s1.out.al (c4 (on)) 24 rfl
  have b2 : Hid (Below w.heap.size w (kal4 w1 (on))) := b1.out.alloc b1.out.size _
  have z2 := b1.out.size
  clear s1 b1
  go_wp2_with fail
  refine wp_region_alloc1 8 (.cells #[.int .u64 0, .int .u64 0, .int .u64 0, .int .u64 0] 24) (by kernel_rfl) (by kernel_rfl) (by kernel_rfl) (by kernel_rfl) (by decide) (fun _ _ d _ _ h => by cases d <;> exact h) rfl rfl (fun _ _ => by kernel_rfl) ?_
  apply Exists.intro
  refine ⟨fun U hU f hf hcl => ?_, fun k3 w3 hb3 hk3 hc3 => ?_⟩
  · skip
    have uon_0 := fun nx => (Kn.get (s2.out.up (hf nx).out) 0 0 rfl rfl : (f nx).cell? ⟨w1.heap.size, 0, none⟩ = some (.int .u64 (on).a))
    have uon_1 := fun nx => (Kn.get (s2.out.up (hf nx).out) 0 1 rfl rfl : (f nx).cell? ⟨w1.heap.size, 1, none⟩ = some (.int .u64 (on).b))
    have uon_2 := fun nx => (Kn.get (s2.out.up (hf nx).out) 0 2 rfl rfl : (f nx).cell? ⟨w1.heap.size, 2, none⟩ = some (.int .u64 (on).c))
    have uon_3 := fun nx => (Kn.get (s2.out.up (hf nx).out) 0 3 rfl rfl : (f nx).cell? ⟨w1.heap.size, 3, none⟩ = some (.int .u64 (on).d))
    have um_0 := fun nx => (Kn.get (s2.out.up (hf nx).out) 1 0 rfl rfl : (f nx).cell? ⟨w.heap.size, 0, none⟩ = some (.int .u64 (m).a))
    have um_1 := fun nx => (Kn.get (s2.out.up (hf nx).out) 1 1 rfl rfl : (f nx).cell? ⟨w.heap.size, 1, none⟩ = some (.int .u64 (m).b))
    have um_2 := fun nx => (Kn.get (s2.out.up (hf nx).out) 1 2 rfl rfl : (f nx).cell? ⟨w.heap.size, 2, none⟩ = some (.int .u64 (m).c))
    have um_3 := fun nx => (Kn.get (s2.out.up (hf nx).out) 1 3 rfl rfl : (f nx).cell? ⟨w.heap.size, 3, none⟩ = some (.int .u64 (m).d))
    clear hf
    simp only [List.take_succ_cons, List.take_zero]
    repeat (go_big_quiet_step (first | (go_at_call 17; exact (SM _).mono fun e w'' ⟨he, hb⟩ => ⟨he, hcl.out _ _ hb⟩) | (go_at_call 66; exact (M2 _).mono fun e w'' ⟨he, hb⟩ => ⟨he, hcl.out _ _ hb⟩)))
    exact wpQuiet_nil rfl
  simp only [List.drop_succ_cons, List.drop_zero]
  have z3 := b2.out.size
  have s3x : Hid (Kn w3 [(k3, zz4), (w1.heap.size, (c4 (on))), (w.heap.size, (c4 (m)))]) := s2.out.fresh hb3.out hk3 hc3.out
  have g3 : w.heap.size ≤ k3 := Nat.le_trans b2.out.size hk3
  have cz3_0 : w3.cell? ⟨k3, 0, none⟩ = some (.int .u64 0) := Kn.get s3x.out 0 0 rfl rfl
  have cz3_1 : w3.cell? ⟨k3, 1, none⟩ = some (.int .u64 0) := Kn.get s3x.out 0 1 rfl rfl
  have cz3_2 : w3.cell? ⟨k3, 2, none⟩ = some (.int .u64 0) := Kn.get s3x.out 0 2 rfl rfl
  have cz3_3 : w3.cell? ⟨k3, 3, none⟩ = some (.int .u64 0) := Kn.get s3x.out 0 3 rfl rfl
  have cz3 : ∀ j, w3.frozen? ⟨k3, j, none⟩ = false := Kn.fz s3x.out 0 rfl
  have s3 : Hid (Kn (st4 w3 k3 (tw)) [(k3, (c4 (tw))), (w1.heap.size, (c4 (on))), (w.heap.size, (c4 (m)))]) := s3x.out.st4 (tw)
  have b3 : Hid (Below w.heap.size w (st4 w3 k3 (tw))) := below_st4 (b2.out.trans (hb3.out.mono b2.out.size)) g3
  clear s3x s2 b2 hb3 hc3 hk3
  go_wp2_with fail
  clear cz3_0 cz3_1 cz3_2 cz3_3 cz3
  refine wp_region_then3 6 (by kernel_rfl) (by kernel_rfl) (by kernel_rfl) (by kernel_rfl) (by decide) (fun _ _ d _ _ h => by cases d <;> exact h) ?_
  apply Exists.intro
  refine ⟨fun U hU f hf hcl => ?_, fun w4 hb4 => ?_⟩
  · skip
    have um_0 := fun nx => (Kn.get (s3.out.up (hf nx).out) 2 0 rfl rfl : (f nx).cell? ⟨w.heap.size, 0, none⟩ = some (.int .u64 (m).a))
    have um_1 := fun nx => (Kn.get (s3.out.up (hf nx).out) 2 1 rfl rfl : (f nx).cell? ⟨w.heap.size, 1, none⟩ = some (.int .u64 (m).b))
    have um_2 := fun nx => (Kn.get (s3.out.up (hf nx).out) 2 2 rfl rfl : (f nx).cell? ⟨w.heap.size, 2, none⟩ = some (.int .u64 (m).c))
    have um_3 := fun nx => (Kn.get (s3.out.up (hf nx).out) 2 3 rfl rfl : (f nx).cell? ⟨w.heap.size, 3, none⟩ = some (.int .u64 (m).d))
    have uon_0 := fun nx => (Kn.get (s3.out.up (hf nx).out) 1 0 rfl rfl : (f nx).cell? ⟨w1.heap.size, 0, none⟩ = some (.int .u64 (on).a))
    have uon_1 := fun nx => (Kn.get (s3.out.up (hf nx).out) 1 1 rfl rfl : (f nx).cell? ⟨w1.heap.size, 1, none⟩ = some (.int .u64 (on).b))
    have uon_2 := fun nx => (Kn.get (s3.out.up (hf nx).out) 1 2 rfl rfl : (f nx).cell? ⟨w1.heap.size, 2, none⟩ = some (.int .u64 (on).c))
    have uon_3 := fun nx => (Kn.get (s3.out.up (hf nx).out) 1 3 rfl rfl : (f nx).cell? ⟨w1.heap.size, 3, none⟩ = some (.int .u64 (on).d))
    have utw_0 := fun nx => (Kn.get (s3.out.up (hf nx).out) 0 0 rfl rfl : (f nx).cell? ⟨k3, 0, none⟩ = some (.int .u64 (tw).a))
    have utw_1 := fun nx => (Kn.get (s3.out.up (hf nx).out) 0 1 rfl rfl : (f nx).cell? ⟨k3, 1, none⟩ = some (.int .u64 (tw).b))
    have utw_2 := fun nx => (Kn.get (s3.out.up (hf nx).out) 0 2 rfl rfl : (f nx).cell? ⟨k3, 2, none⟩ = some (.int .u64 (tw).c))
    have utw_3 := fun nx => (Kn.get (s3.out.up (hf nx).out) 0 3 rfl rfl : (f nx).cell? ⟨k3, 3, none⟩ = some (.int .u64 (tw).d))
    clear hf
    simp only [List.take_succ_cons, List.take_zero]
    repeat (go_big_quiet_step (first | (go_at_call 67; exact (SI _).mono fun e w'' ⟨he, hb⟩ => ⟨he, hcl.out _ _ hb⟩)))
    exact wpQuiet_nil rfl
  simp only [List.drop_succ_cons, List.drop_zero]
  have s4 : Hid (Kn w4 [(k3, (c4 (tw))), (w1.heap.size, (c4 (on))), (w.heap.size, (c4 (m)))]) := s3.out.up hb4.out
  have b4 : Hid (Below w.heap.size w w4) := b3.out.trans (hb4.out.mono b3.out.size)
  have z4 := b4.out.size
  clear hb4 s3 b3
  go_wp2_with fail
  refine bodyPost_ret (v := .tuple #[rp w4.heap.size, .int .i64 0]) (by simp [results, Try.results27, go_sem]) rfl ⟨⟨w4.heap.size, b4.out.size, rfl, ?_⟩, b4.out.alloc b4.out.size _⟩
  exact ((Kn.nil w4).al (c16 m iv on tw) _ rfl).all _ List.mem_cons_self
theorem one_ok' : (⟨1, 0, 0, 0⟩ : Nm).ok := ⟨⟨by decide, by decide⟩, ⟨by decide, by decide⟩, ⟨by decide, by decide⟩, ⟨by decide, by decide⟩⟩
theorem and_one {m : Nm} (om : m.ok) : bits .and .u64 m.a 1 = ((m.nat % 2 : Nat) : Int) := by
  rw [and_one_u64 m.a om.a.1 (by have := om.a.2; omega)]
  have := Nm.nat_cast om
  unfold Nm.val at this
  omega
/-- ring.New of a right number. -/
theorem new_good (m : Nm) (om : m.ok) (odd : m.nat % 2 = 1) (big : 1 < m.nat) (w : World) :
    Calls Try.prog 27 #[N m] w fun e w' => (∃ k, w.heap.size ≤ k ∧ e = .returned (.tuple #[rp k, .int .i64 0]) ∧ Blk w' k (c16 m (xk m 7) (nm (2 ^ 256 % m.nat)) (nm (2 ^ 256 * 2 ^ 256 % m.nat)))) ∧ Below w.heap.size w w' := by
  have hm : 0 < m.nat := by omega
  have nz : m ≠ ⟨0, 0, 0, 0⟩ := fun e => by rw [e] at hm; exact absurd hm (by decide)
  have n1 : m ≠ ⟨1, 0, 0, 0⟩ := fun e => by rw [e] at big; exact absurd big (by decide)
  have M1 := mod_fun ⟨0, 0, 0, 0⟩ ⟨1, 0, 0, 0⟩ m zero_ok' one_ok' om nz
  rw [V_nat zero_ok' one_ok', show (⟨0, 0, 0, 0⟩ : Nm).nat = 0 from rfl, show (⟨1, 0, 0, 0⟩ : Nm).nat = 1 from rfl, Nat.mul_one, Nat.zero_add] at M1
  have e1 : (nm (2 ^ 256 % m.nat)).nat = 2 ^ 256 % m.nat := nm_nat (mod_ok om hm _)
  have M2 := mod_fun (WL ((nm (2 ^ 256 % m.nat)).nat * (nm (2 ^ 256 % m.nat)).nat)) (WH ((nm (2 ^ 256 % m.nat)).nat * (nm (2 ^ 256 % m.nat)).nat)) m (WL_ok _) (WH_ok _) om nz
  have e2 : (nm (2 ^ 256 % m.nat)).nat * (nm (2 ^ 256 % m.nat)).nat % m.val.toNat = 2 ^ 256 * 2 ^ 256 % m.nat := by
    rw [e1, show m.val.toNat = m.nat from rfl, ← Nat.mul_mod]
  rw [V_of (mul_lt512 (nm_ok _) (nm_ok _)), e2] at M2
  exact new_walk m (xk m 7) _ _ _ _ _ _ (by rw [and_one om, odd]; rfl) n1 M1 (mul_V _ _ (nm_ok _) (nm_ok _)) M2 (inverse_fun m om) w
theorem new_ok (m : Nm) (om : m.ok) (odd : m.nat % 2 = 1) (big : 1 < m.nat) : RingOK m (xk m 7) := ⟨om, xk_ok om 7, odd, big, xk_inv om odd⟩
/-- ring.New of a wrong number. -/
theorem new_bad (m : Nm) (om : m.ok) (h : m.nat % 2 = 0 ∨ m = ⟨1, 0, 0, 0⟩) (w : World) :
    Calls Try.prog 27 #[N m] w fun e w' => e = .returned (.tuple #[.pointer none, .int .i64 1]) ∧ Below w.heap.size w w' := by
  rcases h with h | rfl
  · exact new_even m (by rw [and_one om, h]; rfl) w
  · exact new_one (by rw [and_one_u64 1 (by decide) (by decide)]; rfl) w
/-- Which m are right. -/
theorem odd_cases (m : Nm) (om : m.ok) : (m.nat % 2 = 0 ∨ m = ⟨1, 0, 0, 0⟩) ∨ (m.nat % 2 = 1 ∧ 1 < m.nat) := by
  rcases Nat.mod_two_eq_zero_or_one m.nat with h | h
  · exact .inl (.inl h)
  · by_cases h1 : 1 < m.nat
    · exact .inr ⟨h, h1⟩
    · exact .inl (.inr (Nm.ext_nat om one_ok' (by rw [show (⟨1, 0, 0, 0⟩ : Nm).nat = 1 from rfl]; omega)))
end Go.Proofs.Ytkgfeacednomfaa
