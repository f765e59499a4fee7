/- Texts that were joined: WrC, WrapIs, HEq, WrOne. -/
import Derived.Test.YtejabkmhpiabnaaGrp10
import Derived.Test.YtejabkmhpiabnaaWMath
import Derived.Test.YtejabkmhpiabnaaWaU
import Derived.Test.YtejabkmhpiabnaaGrp53
import Derived.Test.YtejabkmhpiabnaaBs
/- What package wrap must keep, over what package aes keeps: its calls' contracts as one premise. -/
namespace Go.Proofs.Ytejabkmhpiabnaa
open Go.RowKit
set_option linter.unusedSimpArgs false
structure WrapC (Tb : World → Prop) (zk : List Value) (Ky : World → List Value → List Nat → Prop) : Prop where
  wrap : ∀ (key : List Nat) (cs : List Value) (p : List Nat) (v : Value), KeyB key → (∀ x ∈ p, x < 256) → A.canW p.length → ∀ w, Tb w → Ky w cs key → By w v p → Calls Try.prog 9 #[.agg cs.toArray, v] w fun e w' => ∃ u, e = .returned (.tuple #[u, .int .i64 0]) ∧ By w' u (A.wrapS (A.keyW key) p) ∧ Below w.heap.size w w'
  wrapBad : ∀ (key : List Nat) (cs : List Value) (p : List Nat) (v : Value), KeyB key → (∀ x ∈ p, x < 256) → p.length ≤ 140737488351232 → ¬ A.canW p.length → ∀ w, Tb w → Ky w cs key → By w v p → Calls Try.prog 9 #[.agg cs.toArray, v] w fun e w' => ∃ u, e = .returned (.tuple #[u, .int .i64 1]) ∧ By w' u [] ∧ Below w.heap.size w w'
  wrapZero : ∀ (p : List Nat) (v : Value), (∀ x ∈ p, x < 256) → p.length ≤ 140737488351232 → ∀ w, Tb w → By w v p → Calls Try.prog 9 #[.agg zk.toArray, v] w fun e w' => ∃ u z, e = .returned (.tuple #[u, .int .i64 z]) ∧ Below w.heap.size w w'
/-- The same of Unwrap. -/
structure UnwrC (Tb : World → Prop) (Ky : World → List Value → List Nat → Prop) : Prop where
  unwrap : ∀ (key : List Nat) (cs : List Value) (c : List Nat) (v : Value), KeyB key → (∀ x ∈ c, x < 256) → A.canU c.length → ∀ w, Tb w → Ky w cs key → By w v c → Calls Try.prog 11 #[.agg cs.toArray, v] w fun e w' => ∃ u, e = .returned (.tuple #[u, .int .i64 (A.unE (A.unwrapS (A.keyW key) c))]) ∧ By w' u ((A.unwrapS (A.keyW key) c).getD []) ∧ Below w.heap.size w w'
  unwrapBad : ∀ (key : List Nat) (cs : List Value) (c : List Nat) (v : Value), KeyB key → (∀ x ∈ c, x < 256) → c.length ≤ 140737488351240 → ¬ A.canU c.length → ∀ w, Tb w → Ky w cs key → By w v c → Calls Try.prog 11 #[.agg cs.toArray, v] w fun e w' => ∃ u, e = .returned (.tuple #[u, .int .i64 1]) ∧ By w' u [] ∧ Below w.heap.size w w'
end Go.Proofs.Ytejabkmhpiabnaa

/- What package wrap keeps, as it landed. -/
namespace Go.Proofs.Ytejabkmhpiabnaa
open Go.RowKit
theorem wrapIs : WrapC (fun _ => True) (kC (List.replicate 240 0) 0) KyA where
  wrap := fun key cs p v KB hp hc w _ hk hv => by
    have hl : cs.length = 241 := by rw [hk.1]; exact kC_length _ KB.q
    exact wwrap_of cs hl (A.encS (A.keyW key)) (A.encE KB.ws) (fun b W hb => aesIs.enc key cs b KB hb W trivial hk) p v hp hc w hv
  wrapBad := fun key cs p v _ _ zp hc w _ _ hv => wwrap_bad cs p v (by omega) hc w hv
  wrapZero := fun p v hp zp w _ hv => by
    have hl : (List.replicate 240 0).length = 240 := List.length_replicate
    have lf : ∀ x ∈ List.replicate 240 0, x < 256 := fun x hx => by rw [(List.mem_replicate.1 hx).2]; decide
    by_cases hc : A.canW p.length
    · have h := wwrap_of (kC (List.replicate 240 0) 0) (kC_length 0 hl) (A.encR (kf (List.replicate 240 0)) 0) (fun b hb => A.encR_ok (fun j _ => kf_ok lf j) hb) (fun b W hb => aenc_fun _ 0 hl lf (by decide) b hb W) p v hp hc w hv
      exact h.mono fun e w' ⟨u, he, _, hb⟩ => ⟨u, 0, he, hb⟩
    · exact (wwrap_bad _ p v (by omega) hc w hv).mono fun e w' ⟨u, he, _, hb⟩ => ⟨u, 1, he, hb⟩
theorem unwrapIs : UnwrC (fun _ => True) KyA where
  unwrap := fun key cs c v KB hp hc w _ hk hv => by
    have hl : cs.length = 241 := by rw [hk.1]; exact kC_length _ KB.q
    exact wunwrap_of cs hl (A.decS (A.keyW key)) (A.decE KB.ws) (fun b W hb => aesIs.dec key cs b KB hb W trivial hk) c v hp hc w hv
  unwrapBad := fun key cs c v _ _ zc hc w _ _ hv => wunwrap_bad cs c v (by omega) hc w hv
end Go.Proofs.Ytejabkmhpiabnaa

/- The contract of bytes.Equal. -/
namespace Go.Proofs.Ytejabkmhpiabnaa
open Go.RowKit
set_option linter.unusedSimpArgs false
set_option maxHeartbeats 1000000 in
theorem equal_fun (u v : Value) (xs ys : List Nat) (hx : ∀ x ∈ xs, x < 256) (hy : ∀ y ∈ ys, y < 256) (w : World) (hu : By w u xs) (hv : By w v ys) :
    Calls Try.prog 13 #[u, v] w fun e w' => e = .returned (.bool (decide (xs = ys))) ∧ Below w.heap.size w w' := by
  have HU : Hid (By w u xs) := hu
  have HV : Hid (By w v ys) := hv
  have HE : Hid _ := sOf_beq hx hy
  clear hu hv hx hy
  go_enter Try.func13, Try.ntmps13
  go_wp2_with (first | (refine wp_conv rfl (.tmp 5) rfl _ xs rfl HU.out ?_) | (refine wp_conv rfl (.tmp 7) rfl _ ys rfl HV.out ?_))
  rw [HE.out]
  go_ret
  exact ⟨rfl, Below.refl _ _⟩
end Go.Proofs.Ytejabkmhpiabnaa

/- WrapOne out of the contracts of packages aes and wrap. -/
namespace Go.Proofs.Ytejabkmhpiabnaa
open Go.RowKit
set_option linter.unusedSimpArgs false
attribute [local go_sem] YieldsP execOp
attribute [local simp] MP.eq_p
set_option maxRecDepth 20000 in
set_option maxHeartbeats 2000000 in
theorem wrapOne_of {Tb : World → Prop} {zk : List Value} {Ky : World → List Value → List Nat → Prop} (C : AesC Tb zk Ky) (M : WrapC Tb zk Ky) (U : UnwrC Tb Ky) (v : Value) (key : List Nat) (lk : ∀ x ∈ key, x < 256) (u : Value) (c : List Nat) (lc : ∀ x ∈ c, x < 256) (zc : c.length ≤ 140737488351232) (w : World) (ht : Tb w) (hk : By w v key) (hu : By w u c) :
    Calls Try.prog 5 #[v, u] w fun e w' => e = .returned (.bool true) ∧ Below w.heap.size w w' := by
  by_cases hn : KeyN key.length
  · have KB : KeyB key := ⟨hn, lk⟩
    have EX : Hid _ := C.expand key v KB w ht hk
    obtain ⟨ws, hws⟩ : ∃ ws, ws = A.keyW key := ⟨_, rfl⟩
    have OKW : Hid (A.okW ws) := by rw [hws]; exact KB.ws
    have HU : Hid (∀ W, Below w.heap.size w W → By W u c) := fun W hW => hu.up hW (Nat.le_refl _)
    have OUT : (∃ z : Int, ¬ z = 0 ∧ ∀ cs W, Below w.heap.size w W → Ky W cs key → Calls Try.prog 11 #[.agg cs.toArray, u] W fun e w' => ∃ x, e = .returned (.tuple #[x, .int .i64 z]) ∧ By w' x [] ∧ Below W.heap.size W w') ∨
        ∃ p, A.canW p.length ∧ (∀ x ∈ p, x < 256) ∧ A.wrapS ws p = c ∧ ∀ cs W, Below w.heap.size w W → Ky W cs key → Calls Try.prog 11 #[.agg cs.toArray, u] W fun e w' => ∃ x, e = .returned (.tuple #[x, .int .i64 0]) ∧ By w' x p ∧ Below W.heap.size W w' := by
      by_cases hc : A.canU c.length
      · have m1 := fun cs W (hW : Below w.heap.size w W) hK' => U.unwrap key cs c u KB lc hc W (C.tb ht hW) hK' (HU.out W hW)
        rw [← hws] at m1
        cases e : A.unwrapS ws c with
        | some p =>
          have op := A.unwrapS_ok OKW.out hc lc e
          simp only [e, A.unE, Option.getD_some] at m1
          exact .inr ⟨p, by rw [op.1]; unfold A.canU at hc; unfold A.canW; omega, op.2, A.wrap_unwrap OKW.out hc lc e, m1⟩
        | none =>
          simp only [e, A.unE, Option.getD_none] at m1
          exact .inl ⟨5, by decide, m1⟩
      · exact .inl ⟨1, by decide, fun cs W hW hK => U.unwrapBad key cs c u KB lc (by omega) hc W (C.tb ht hW) hK (HU.out W hW)⟩
    rcases OUT with ⟨z, hz, um⟩ | ⟨p, hp, lp, hwp, um⟩
    · have UM : Hid _ := um
      have z1 : (z == 0) = false := by simp [hz]
      have z2 : (z != 0) = true := by simp [hz]
      clear hws hu um zc hz
      go_enter Try.func5, Try.ntmps5
      go_wp2_with fail
      refine Calls.mono EX.out ?_
      rintro e w1 ⟨cs, rfl, hky, hb1⟩
      have KY : Hid (Ky w1 cs key) := hky
      have D1 : Hid (Below w.heap.size w w1) := hb1
      have CL : Hid (cs.length = zk.length) := C.size hky
      have CO : Hid (∀ v ∈ cs, v.oneCell' = true) := C.one hky
      clear EX hky hb1
      go_wp2_with (refine C.make rfl rfl 5 (.tmp 14) rfl rfl rfl rfl cs CL.out CO.out rfl rfl ?_)
      intro w2 k2 hb2
      obtain ⟨kk, hkk⟩ : ∃ kk, kk = w1.heap.size := ⟨_, rfl⟩
      rw [← hkk] at k2 ⊢
      have K2 : Hid (Blk w2 kk cs) := k2
      have KY2 : Hid (Ky w2 cs key) := C.up KY.out hb2
      have D2 : Hid (Below w.heap.size w w2) := D1.out.trans (hb2.mono D1.out.size)
      obtain ⟨dk, huk, hrk⟩ := C.row
      have IK : Hid _ := C.info.trans (congrArg some CL.out.symm)
      have UK : Hid (Try.prog.underlying 26 = some dk ∧ dk.isRow = true) := ⟨huk, hrk⟩
      clear k2 hb2 hkk KY D1 huk hrk
      go_wp2_with (refine wpList_load_mid rfl 26 (.tmp 5) rfl kk 0 rfl cs dk K2.out.all UK.out.1 UK.out.2 IK.out ?_)
      refine Calls.mono (UM.out cs w2 D2.out KY2.out) ?_
      rintro e w3 ⟨x3, rfl, hy3, hb3⟩
      have D3 : Hid (Below w.heap.size w w3) := D2.out.trans (hb3.mono D2.out.size)
      obtain ⟨a3, c3, rfl, _, _, _⟩ := hy3
      clear hb3 K2 KY2 D2 UM
      go_wp2_with fail
      go_ret
      exact ⟨rfl, D3.out⟩
    · have UM : Hid _ := um
      have WM : Hid (∀ cs W x, Below w.heap.size w W → Ky W cs key → By W x p → Calls Try.prog 9 #[.agg cs.toArray, x] W fun e w' => ∃ y, e = .returned (.tuple #[y, .int .i64 0]) ∧ By w' y c ∧ Below W.heap.size W w') := fun cs W x hW hK hx => by
        have := M.wrap key cs p x KB lp hp W (C.tb ht hW) hK hx
        rw [← hws, hwp] at this
        exact this
      have EQ : Hid (∀ x W, Below w.heap.size w W → By W x c → Calls Try.prog 13 #[u, x] W fun e w' => e = .returned (.bool true) ∧ Below W.heap.size W w') := fun x W hW hx => by
        have := equal_fun u x c c lc lc W (HU.out W hW) hx
        rw [decide_eq_true rfl] at this
        exact this
      clear hws hu um zc hp lp hwp
      go_enter Try.func5, Try.ntmps5
      go_wp2_with fail
      refine Calls.mono EX.out ?_
      rintro e w1 ⟨cs, rfl, hky, hb1⟩
      have KY : Hid (Ky w1 cs key) := hky
      have D1 : Hid (Below w.heap.size w w1) := hb1
      have CL : Hid (cs.length = zk.length) := C.size hky
      have CO : Hid (∀ v ∈ cs, v.oneCell' = true) := C.one hky
      clear EX hky hb1
      go_wp2_with (refine C.make rfl rfl 5 (.tmp 14) rfl rfl rfl rfl cs CL.out CO.out rfl rfl ?_)
      intro w2 k2 hb2
      obtain ⟨kk, hkk⟩ : ∃ kk, kk = w1.heap.size := ⟨_, rfl⟩
      rw [← hkk] at k2 ⊢
      have K2 : Hid (Blk w2 kk cs) := k2
      have KY2 : Hid (Ky w2 cs key) := C.up KY.out hb2
      have D2 : Hid (Below w.heap.size w w2) := D1.out.trans (hb2.mono D1.out.size)
      obtain ⟨dk, huk, hrk⟩ := C.row
      have IK : Hid _ := C.info.trans (congrArg some CL.out.symm)
      have UK : Hid (Try.prog.underlying 26 = some dk ∧ dk.isRow = true) := ⟨huk, hrk⟩
      clear k2 hb2 hkk KY D1 huk hrk
      go_wp2_with (refine wpList_load_mid rfl 26 (.tmp 5) rfl kk 0 rfl cs dk K2.out.all UK.out.1 UK.out.2 IK.out ?_)
      refine Calls.mono (UM.out cs w2 D2.out KY2.out) ?_
      rintro e w3 ⟨x3, rfl, hy3, hb3⟩
      have Q3 : Hid (By w3 x3 p) := hy3
      have K3 : Hid (Blk w3 kk cs) := K2.out.up hb3 K2.out.lt
      have KY3 : Hid (Ky w3 cs key) := C.up KY2.out hb3
      have D3 : Hid (Below w.heap.size w w3) := D2.out.trans (hb3.mono D2.out.size)
      clear hb3 hy3 K2 KY2 D2 UM
      go_wp2_with (refine wpList_load_mid rfl 26 (.tmp 5) rfl kk 0 rfl cs dk K3.out.all UK.out.1 UK.out.2 IK.out ?_)
      refine Calls.mono (WM.out cs w3 x3 D3.out KY3.out Q3.out) ?_
      rintro e w5 ⟨x5, rfl, hy5, hb5⟩
      have D5 : Hid (Below w.heap.size w w5) := D3.out.trans (hb5.mono D3.out.size)
      have E5 : Hid _ := EQ.out x5 w5 D5.out hy5
      clear hb5 hy5 K3 KY3 D3 WM Q3 EQ
      go_wp2_with fail
      refine Calls.mono E5.out ?_
      rintro e w6 ⟨rfl, hb6⟩
      have D6 : Hid (Below w.heap.size w w6) := D5.out.trans (hb6.mono D5.out.size)
      clear hb6 E5 D5
      go_wp2_with fail
      go_ret
      exact ⟨rfl, D6.out⟩
  · have EX : Hid _ := C.bad key v lk hn w ht hk
    have CO := C.zone
    go_enter Try.func5, Try.ntmps5
    go_wp2_with fail
    refine Calls.mono EX.out ?_
    rintro e w1 ⟨rfl, hb1⟩
    have D1 : Hid (Below w.heap.size w w1) := hb1
    clear hb1 EX
    go_wp2_with (refine C.make rfl rfl 5 (.tmp 14) rfl rfl rfl rfl zk rfl CO rfl rfl ?_)
    intro w2 _ hb2
    have D2 : Hid (Below w.heap.size w w2) := D1.out.trans (hb2.mono D1.out.size)
    clear hb2 D1
    go_wp2_with fail
    go_ret
    exact ⟨rfl, D2.out⟩
end Go.Proofs.Ytejabkmhpiabnaa
