/- The contract of bytes.Compare. -/
import Derived.Test.YtkgfeacednomfabBs
import Derived.Test.YtkgfeacednomfabNumM
import Derived.Lib.Bytealg
namespace Go.Proofs.Ytkgfeacednomfab
open Go.RowKit
set_option linter.unusedSimpArgs false
theorem loadBytes_run {w : World} : ∀ (xs : List Nat) (b o : Nat) (acc : ByteArray), (∀ j, j < xs.length → w.cell? ⟨b, o + j, none⟩ = some (b8 (xs.getD j 0))) → (Extern.Bytes.loadBytes ⟨b, o, none⟩ xs.length acc).run Try.prog w = .ok (acc ++ sOf xs) w
  | [], b, o, acc, _ => by
    have : acc ++ sOf [] = acc := by apply ByteArray.ext; simp [sOf]
    rw [this]
    rfl
  | x :: xs, b, o, acc, h => by
    have h0 : w.cell? ⟨b, o, none⟩ = some (b8 x) := by simpa using h 0 (by simp)
    have ih := loadBytes_run xs b (o + 1) (acc.push (x : Int).toNat.toUInt8) (fun j hj => by
      have := h (j + 1) (by simpa using hj)
      rw [Nat.add_assoc, Nat.add_comm 1 j]
      simpa using this)
    have e : acc.push (x : Int).toNat.toUInt8 ++ sOf xs = acc ++ sOf (x :: xs) := by
      apply ByteArray.ext
      simp [sOf, ByteArray.push]
    rw [e] at ih
    rw [List.length_cons, Extern.Bytes.loadBytes, Sem.run_bind, run_load, h0]
    simp only [Result.andThen, b8]
    rw [Addr.add_lit]
    exact ih
theorem bytesOf_run {w : World} {v : Value} {xs : List Nat} (h : By w v xs) : (Extern.Bytes.bytesOf v).run Try.prog w = .ok (sOf xs) w := by
  obtain ⟨a, c, rfl, h1, h2, h3⟩ := h
  cases a with
  | none =>
    have : xs = [] := List.length_eq_zero_iff.1 (by have := h2 rfl; omega)
    subst this
    rfl
  | some a =>
    cases xs with
    | nil => rfl
    | cons x xs =>
      obtain ⟨b, o, e, hc⟩ := h3 (by simp)
      obtain rfl : a = ⟨b, o, none⟩ := Option.some.inj e
      have := loadBytes_run (x :: xs) b o .empty hc
      have e2 : ByteArray.empty ++ sOf (x :: xs) = sOf (x :: xs) := by apply ByteArray.ext; simp [sOf]
      rw [e2] at this
      exact this
set_option maxHeartbeats 1000000 in
theorem compare_fun (u v : Value) (xs ys : List Nat) (w : World) (hu : By w u xs) (hv : By w v ys) :
    Calls Try.prog 18 #[u, v] w fun e w' => e = .returned (.int .i64 (Lib.compareBytes (sOf xs).data.toList (sOf ys).data.toList)) ∧ Below w.heap.size w w' := by
  have HU : Hid (By w u xs) := hu
  have HV : Hid (By w v ys) := hv
  clear hu hv
  have HR : Hid ((Extern.BytealgCompare.compare #[u, v]).run Try.prog w = .ok (.int .i64 (Lib.compareBytes (sOf xs).data.toList (sOf ys).data.toList)) w) := by
    have : (Extern.BytealgCompare.compare #[u, v]).run Try.prog w = .ok (.int .i64 (Lib.compareBytes (sOf xs).data.toList (sOf ys).data.toList)) w := by
      change Sem.run Try.prog (do pure (goInt (Extern.BytealgCompare.cmp (← Extern.Bytes.bytesOf u) (← Extern.Bytes.bytesOf v)))) w = _
      rw [Sem.run_bind, bytesOf_run HU.out]
      simp only [Result.andThen]
      rw [Sem.run_bind, bytesOf_run HV.out]
      simp only [Result.andThen]
      rw [Lib.cmp_eq]
      rfl
    exact this
  go_enter Try.func18, Try.ntmps18
  go_wp2_with fail
  rw [run_callFunc_extern Try.func25 (by kernel_rfl) (by kernel_rfl) (by kernel_rfl) (e := Extern.BytealgCompare.compare) (by kernel_rfl), HR.out]
  simp only [Result.andThen]
  rw [Oper.upon_value]
  go_wp2_with fail
  go_ret
  exact ⟨rfl, Below.refl _ _⟩
/-- Of two numbers' bytes of one length, those of the smaller come ahead. -/
theorem compare_lt : ∀ (xs ys : List Nat), (∀ x ∈ xs, x < 256) → (∀ y ∈ ys, y < 256) → xs.length = ys.length → beN xs < beN ys → Lib.compareBytes (xs.map UInt8.ofNat) (ys.map UInt8.ofNat) = -1
  | [], [], _, _, _, h => by simp [beN] at h
  | [], y :: ys, _, _, h, _ => by simp at h
  | x :: xs, [], _, _, h, _ => by simp at h
  | x :: xs, y :: ys, hx, hy, hl, h => by
    have hl' : xs.length = ys.length := by simpa using hl
    have lx := hx x (by simp)
    have ly := hy y (by simp)
    have bx := beN_lt xs (fun z hz => hx z (by simp [hz]))
    have by_ := beN_lt ys (fun z hz => hy z (by simp [hz]))
    rw [beN_cons, beN_cons, hl'] at h
    rw [hl'] at bx
    have lt_iff : ∀ p q : Nat, p < 256 → q < 256 → (UInt8.ofNat p < UInt8.ofNat q ↔ p < q) := by
      intro p q hp hq
      rw [UInt8.lt_iff_toNat_lt, UInt8.toNat_ofNat', UInt8.toNat_ofNat', Nat.mod_eq_of_lt hp, Nat.mod_eq_of_lt hq]
    rw [List.map_cons, List.map_cons, Lib.compareBytes]
    by_cases h1 : x < y
    · rw [if_pos ((lt_iff x y lx ly).2 h1)]
    · rw [if_neg (fun e => h1 ((lt_iff x y lx ly).1 e))]
      by_cases h2 : y < x
      · exfalso
        have : y * 256 ^ ys.length + 256 ^ ys.length ≤ x * 256 ^ ys.length := by
          rw [← Nat.succ_mul]
          exact Nat.mul_le_mul_right _ h2
        omega
      · rw [if_neg (fun e => h2 ((lt_iff y x ly lx).1 e))]
        have e : x = y := by omega
        subst e
        exact compare_lt xs ys (fun z hz => hx z (by simp [hz])) (fun z hz => hy z (by simp [hz])) hl' (by omega)
theorem numT_lt {X Y : Nat} (h : X < Y) : (numT X).length ≤ (numT Y).length ∧ ((numT X).length = (numT Y).length → beN (numT X) < beN (numT Y)) := by
  have hl : lenN X ≤ lenN Y := lenN_le.2 (Nat.lt_trans h (lenN_lt Y))
  have b : ∀ Z, beN (numT Z) = Z := fun Z => by
    rw [numT_dT, beN_dT, Nat.mod_eq_of_lt]
    rw [pow256]
    exact Nat.lt_of_lt_of_le (lenN_lt Z) (Nat.pow_le_pow_right (by decide) (by omega))
  refine ⟨?_, fun _ => by rw [b, b]; exact h⟩
  rw [numT_dT, numT_dT, dT_len, dT_len]
  omega
end Go.Proofs.Ytkgfeacednomfab
