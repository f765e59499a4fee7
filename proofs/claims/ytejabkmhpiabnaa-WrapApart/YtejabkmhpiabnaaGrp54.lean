/- Texts that were joined: WrC, WrapIs, HEq, WrApart. -/
import Derived.Test.YtejabkmhpiabnaaGrp10
import Derived.Test.YtejabkmhpiabnaaWMath
import Derived.Test.YtejabkmhpiabnaaWaU
import Derived.Test.YtejabkmhpiabnaaGrp53
import Derived.Test.YtejabkmhpiabnaaBs
/- What package wrap must keep, over what package aes keeps: its calls' contracts as one premise. -/
namespace Go.Proofs.Ytejabkmhpiabnaa
open Go.RowKit
set_option linter.unusedSimpArgs false
structure WrapC (Tb : World → Prop) (zk : List Value) (Ky : World → List Value → List Nat → Prop) : Prop where
  wrap : ∀ (key : List Nat) (cs : List Value) (p : List Nat) (v : Value), KeyB key → (∀ x ∈ p, x < 256) → A.canW p.length → ∀ w, Tb w → Ky w cs key → By w v p → Calls Try.prog 9 #[.agg cs.toArray, v] w fun e w' => ∃ u, e = .returned (.tuple #[u, .int .i64 0]) ∧ By w' u (A.wrapS (A.keyW key) p) ∧ Below w.heap.size w w'
  wrapBad : ∀ (key : List Nat) (cs : List Value) (p : List Nat) (v : Value), KeyB key → (∀ x ∈ p, x < 256) → p.length ≤ 140737488351232 → ¬ A.canW p.length → ∀ w, Tb w → Ky w cs key → By w v p → Calls Try.prog 9 #[.agg cs.toArray, v] w fun e w' => ∃ u, e = .returned (.tuple #[u, .int .i64 1]) ∧ By w' u [] ∧ Below w.heap.size w w'
  wrapZero : ∀ (p : List Nat) (v : Value), (∀ x ∈ p, x < 256) → p.length ≤ 140737488351232 → ∀ w, Tb w → By w v p → Calls Try.prog 9 #[.agg zk.toArray, v] w fun e w' => ∃ u z, e = .returned (.tuple #[u, .int .i64 z]) ∧ Below w.heap.size w w'
/-- The same of Unwrap. -/
structure UnwrC (Tb : World → Prop) (Ky : World → List Value → List Nat → Prop) : Prop where
  unwrap : ∀ (key : List Nat) (cs : List Value) (c : List Nat) (v : Value), KeyB key → (∀ x ∈ c, x < 256) → A.canU c.length → ∀ w, Tb w → Ky w cs key → By w v c → Calls Try.prog 11 #[.agg cs.toArray, v] w fun e w' => ∃ u, e = .returned (.tuple #[u, .int .i64 (A.unE (A.unwrapS (A.keyW key) c))]) ∧ By w' u ((A.unwrapS (A.keyW key) c).getD []) ∧ Below w.heap.size w w'
  unwrapBad : ∀ (key : List Nat) (cs : List Value) (c : List Nat) (v : Value), KeyB key → (∀ x ∈ c, x < 256) → c.length ≤ 140737488351240 → ¬ A.canU c.length → ∀ w, Tb w → Ky w cs key → By w v c → Calls Try.prog 11 #[.agg cs.toArray, v] w fun e w' => ∃ u, e = .returned (.tuple #[u, .int .i64 1]) ∧ By w' u [] ∧ Below w.heap.size w w'
end Go.Proofs.Ytejabkmhpiabnaa

/- What package wrap keeps, as it landed. -/
namespace Go.Proofs.Ytejabkmhpiabnaa
open Go.RowKit
theorem wrapIs : WrapC (fun _ => True) (kC (List.replicate 240 0) 0) KyA where
  wrap := fun key cs p v KB hp hc w _ hk hv => by
    have hl : cs.length = 241 := by rw [hk.1]; exact kC_length _ KB.q
    exact wwrap_of cs hl (A.encS (A.keyW key)) (A.encE KB.ws) (fun b W hb => aesIs.enc key cs b KB hb W trivial hk) p v hp hc w hv
  wrapBad := fun key cs p v _ _ zp hc w _ _ hv => wwrap_bad cs p v (by omega) hc w hv
  wrapZero := fun p v hp zp w _ hv => by
    have hl : (List.replicate 240 0).length = 240 := List.length_replicate
    have lf : ∀ x ∈ List.replicate 240 0, x < 256 := fun x hx => by rw [(List.mem_replicate.1 hx).2]; decide
    by_cases hc : A.canW p.length
    · have h := wwrap_of (kC (List.replicate 240 0) 0) (kC_length 0 hl) (A.encR (kf (List.replicate 240 0)) 0) (fun b hb => A.encR_ok (fun j _ => kf_ok lf j) hb) (fun b W hb => aenc_fun _ 0 hl lf (by decide) b hb W) p v hp hc w hv
      exact h.mono fun e w' ⟨u, he, _, hb⟩ => ⟨u, 0, he, hb⟩
    · exact (wwrap_bad _ p v (by omega) hc w hv).mono fun e w' ⟨u, he, _, hb⟩ => ⟨u, 1, he, hb⟩
theorem unwrapIs : UnwrC (fun _ => True) KyA where
  unwrap := fun key cs c v KB hp hc w _ hk hv => by
    have hl : cs.length = 241 := by rw [hk.1]; exact kC_length _ KB.q
    exact wunwrap_of cs hl (A.decS (A.keyW key)) (A.decE KB.ws) (fun b W hb => aesIs.dec key cs b KB hb W trivial hk) c v hp hc w hv
  unwrapBad := fun key cs c v _ _ zc hc w _ _ hv => wunwrap_bad cs c v (by omega) hc w hv
end Go.Proofs.Ytejabkmhpiabnaa

/- The contract of bytes.Equal. -/
namespace Go.Proofs.Ytejabkmhpiabnaa
open Go.RowKit
set_option linter.unusedSimpArgs false
set_option maxHeartbeats 1000000 in
theorem equal_fun (u v : Value) (xs ys : List Nat) (hx : ∀ x ∈ xs, x < 256) (hy : ∀ y ∈ ys, y < 256) (w : World) (hu : By w u xs) (hv : By w v ys) :
    Calls Try.prog 13 #[u, v] w fun e w' => e = .returned (.bool (decide (xs = ys))) ∧ Below w.heap.size w w' := by
  have HU : Hid (By w u xs) := hu
  have HV : Hid (By w v ys) := hv
  have HE : Hid _ := sOf_beq hx hy
  clear hu hv hx hy
  go_enter Try.func13, Try.ntmps13
  go_wp2_with (first | (refine wp_conv rfl (.tmp 5) rfl _ xs rfl HU.out ?_) | (refine wp_conv rfl (.tmp 7) rfl _ ys rfl HV.out ?_))
  rw [HE.out]
  go_ret
  exact ⟨rfl, Below.refl _ _⟩
end Go.Proofs.Ytejabkmhpiabnaa

/- WrapApart out of the contracts of packages aes and wrap. -/
namespace Go.Proofs.Ytejabkmhpiabnaa
open Go.RowKit
set_option linter.unusedSimpArgs false
attribute [local go_sem] YieldsP execOp
attribute [local simp] MP.eq_p
set_option maxRecDepth 20000 in
set_option maxHeartbeats 2000000 in
theorem wrapApart_of {Tb : World → Prop} {zk : List Value} {Ky : World → List Value → List Nat → Prop} (C : AesC Tb zk Ky) (M : WrapC Tb zk Ky) (v : Value) (key : List Nat) (lk : ∀ x ∈ key, x < 256) (u : Value) (p : List Nat) (lp : ∀ x ∈ p, x < 256) (zp : p.length ≤ 140737488351232) (t : Value) (q : List Nat) (lq : ∀ x ∈ q, x < 256) (zq : q.length ≤ 140737488351232) (w : World) (ht : Tb w) (hk : By w v key) (hu : By w u p) (hs : By w t q) :
    Calls Try.prog 6 #[v, u, t] w fun e w' => e = .returned (.bool true) ∧ Below w.heap.size w w' := by
  have HU : Hid (∀ W, Below w.heap.size w W → By W u p) := fun W hW => hu.up hW (Nat.le_refl _)
  have HS : Hid (∀ W, Below w.heap.size w W → By W t q) := fun W hW => hs.up hW (Nat.le_refl _)
  by_cases hn : KeyN key.length
  · have KB : KeyB key := ⟨hn, lk⟩
    have EX : Hid _ := C.expand key v KB w ht hk
    obtain ⟨ws, hws⟩ : ∃ ws, ws = A.keyW key := ⟨_, rfl⟩
    have OKW : Hid (A.okW ws) := by rw [hws]; exact KB.ws
    have GEN : ∀ (p : List Nat) (u : Value), (∀ x ∈ p, x < 256) → p.length ≤ 140737488351232 → By w u p → ∃ (z : Int) (st : List Nat), ((z = 0 ∧ A.canW p.length ∧ st = A.wrapS ws p) ∨ ¬ z = 0) ∧ ∀ cs W, Below w.heap.size w W → Ky W cs key → Calls Try.prog 9 #[.agg cs.toArray, u] W fun e w' => ∃ x, e = .returned (.tuple #[x, .int .i64 z]) ∧ By w' x st ∧ Below W.heap.size W w' := fun p u lp zp hu => by
      by_cases hc : A.canW p.length
      · exact ⟨0, A.wrapS ws p, .inl ⟨rfl, hc, rfl⟩, fun cs W hW hK => by rw [hws]; exact M.wrap key cs p u KB lp hc W (C.tb ht hW) hK (hu.up hW (Nat.le_refl _))⟩
      · exact ⟨1, [], .inr (by decide), fun cs W hW hK => M.wrapBad key cs p u KB lp zp hc W (C.tb ht hW) hK (hu.up hW (Nat.le_refl _))⟩
    obtain ⟨z1, s1, c1, m1⟩ := GEN p u lp zp hu
    obtain ⟨z2, s2, c2, m2⟩ := GEN q t lq zq hs
    have M1 : Hid _ := m1
    have M2 : Hid _ := m2
    clear m1 m2 GEN
    go_enter Try.func6, Try.ntmps6
    go_wp2_with fail
    refine Calls.mono EX.out ?_
    rintro e w1 ⟨cs, rfl, hky, hb1⟩
    have KY : Hid (Ky w1 cs key) := hky
    have D1 : Hid (Below w.heap.size w w1) := hb1
    have CL : Hid (cs.length = zk.length) := C.size hky
    have CO : Hid (∀ v ∈ cs, v.oneCell' = true) := C.one hky
    clear EX hky hb1
    go_wp2_with (refine C.make rfl rfl 7 (.tmp 16) rfl rfl rfl rfl cs CL.out CO.out rfl rfl ?_)
    intro w2 k2 hb2
    obtain ⟨kk, hkk⟩ : ∃ kk, kk = w1.heap.size := ⟨_, rfl⟩
    rw [← hkk] at k2 ⊢
    have K2 : Hid (Blk w2 kk cs) := k2
    have KY2 : Hid (Ky w2 cs key) := C.up KY.out hb2
    have D2 : Hid (Below w.heap.size w w2) := D1.out.trans (hb2.mono D1.out.size)
    obtain ⟨dk, huk, hrk⟩ := C.row
    have IK : Hid _ := C.info.trans (congrArg some CL.out.symm)
    have UK : Hid (Try.prog.underlying 26 = some dk ∧ dk.isRow = true) := ⟨huk, hrk⟩
    clear k2 hb2 hkk KY D1 huk hrk
    go_wp2_with (refine wpList_load_mid rfl 26 (.tmp 7) rfl kk 0 rfl cs dk K2.out.all UK.out.1 UK.out.2 IK.out ?_)
    refine Calls.mono (M1.out cs w2 D2.out KY2.out) ?_
    rintro e w3 ⟨x3, rfl, hy3, hb3⟩
    have Q3 : Hid (By w3 x3 s1) := hy3
    have K3 : Hid (Blk w3 kk cs) := K2.out.up hb3 K2.out.lt
    have KY3 : Hid (Ky w3 cs key) := C.up KY2.out hb3
    have D3 : Hid (Below w.heap.size w w3) := D2.out.trans (hb3.mono D2.out.size)
    clear hb3 hy3 K2 KY2 D2 M1
    go_wp2_with (refine wpList_load_mid rfl 26 (.tmp 7) rfl kk 0 rfl cs dk K3.out.all UK.out.1 UK.out.2 IK.out ?_)
    refine Calls.mono (M2.out cs w3 D3.out KY3.out) ?_
    rintro e w5 ⟨x5, rfl, hy5, hb5⟩
    have Q5 : Hid (By w5 x3 s1) := Q3.out.up hb5 (Nat.le_refl _)
    have R5 : Hid (By w5 x5 s2) := hy5
    have D5 : Hid (Below w.heap.size w w5) := D3.out.trans (hb5.mono D3.out.size)
    clear hb5 hy5 K3 KY3 D3 M2 Q3
    rcases c1 with ⟨h1, g1, e1⟩ | h1
    · rcases c2 with ⟨h2, g2, e2⟩ | h2
      · subst h1 h2
        have L1 : ∀ x ∈ s1, x < 256 := by rw [e1]; exact (A.wrapS_ok OKW.out g1 lp).2
        have L2 : ∀ x ∈ s2, x < 256 := by rw [e2]; exact (A.wrapS_ok OKW.out g2 lq).2
        have DD : decide (s1 = s2) = decide (p = q) := decide_eq_decide.2 ⟨fun h => A.wrap_inj OKW.out g1 lp g2 lq (by rw [← e1, ← e2]; exact h), fun h => by rw [e1, e2, h]⟩
        obtain ⟨bb, hbb⟩ : ∃ bb, bb = decide (p = q) := ⟨_, rfl⟩
        have E1 : Hid (Calls Try.prog 13 #[x3, x5] w5 fun e w' => e = .returned (.bool bb) ∧ Below w5.heap.size w5 w') := by
          have := equal_fun x3 x5 s1 s2 L1 L2 w5 Q5.out R5.out
          rw [DD, ← hbb] at this
          exact this
        have E2 : Hid (∀ W, Below w.heap.size w W → Calls Try.prog 13 #[u, t] W fun e w' => e = .returned (.bool bb) ∧ Below W.heap.size W w') := fun W hW => by
          have := equal_fun u t p q lp lq W (HU.out W hW) (HS.out W hW)
          rw [← hbb] at this
          exact this
        clear hbb DD L1 L2 e1 e2 g1 g2 Q5 R5
        go_wp2_with fail
        refine Calls.mono E1.out ?_
        rintro e w6 ⟨rfl, hb6⟩
        have D6 : Hid (Below w.heap.size w w6) := D5.out.trans (hb6.mono D5.out.size)
        clear hb6 E1 D5
        go_wp2_with fail
        refine Calls.mono (E2.out w6 D6.out) ?_
        rintro e w7 ⟨rfl, hb7⟩
        have D7 : Hid (Below w.heap.size w w7) := D6.out.trans (hb7.mono D6.out.size)
        clear hb7 E2 D6
        cases bb
        · go_wp2_with fail
          go_ret
          exact ⟨rfl, D7.out⟩
        · go_wp2_with fail
          go_ret
          exact ⟨rfl, D7.out⟩
      · subst h1
        have y2 : (z2 != 0) = true := by simp [h2]
        clear h2 e1 g1
        go_wp2_with fail
        go_ret
        exact ⟨rfl, D5.out⟩
    · have y1 : (z1 != 0) = true := by simp [h1]
      clear h1 c2
      go_wp2_with fail
      go_ret
      exact ⟨rfl, D5.out⟩
  · have EX : Hid _ := C.bad key v lk hn w ht hk
    have CO := C.zone
    obtain ⟨dk, huk, hrk⟩ := C.row
    have IK : Hid _ := C.info
    have UK : Hid (Try.prog.underlying 26 = some dk ∧ dk.isRow = true) := ⟨huk, hrk⟩
    have Z1 : Hid (∀ W, Below w.heap.size w W → Calls Try.prog 9 #[.agg zk.toArray, u] W fun e w' => ∃ x z, e = .returned (.tuple #[x, .int .i64 z]) ∧ Below W.heap.size W w') := fun W hW => M.wrapZero p u lp zp W (C.tb ht hW) (HU.out W hW)
    have Z2 : Hid (∀ W, Below w.heap.size w W → Calls Try.prog 9 #[.agg zk.toArray, t] W fun e w' => ∃ x z, e = .returned (.tuple #[x, .int .i64 z]) ∧ Below W.heap.size W w') := fun W hW => M.wrapZero q t lq zq W (C.tb ht hW) (HS.out W hW)
    clear huk hrk
    go_enter Try.func6, Try.ntmps6
    go_wp2_with fail
    refine Calls.mono EX.out ?_
    rintro e w1 ⟨rfl, hb1⟩
    have D1 : Hid (Below w.heap.size w w1) := hb1
    clear hb1 EX
    go_wp2_with (refine C.make rfl rfl 7 (.tmp 16) rfl rfl rfl rfl zk rfl CO rfl rfl ?_)
    intro w2 k2 hb2
    obtain ⟨kk, hkk⟩ : ∃ kk, kk = w1.heap.size := ⟨_, rfl⟩
    rw [← hkk] at k2 ⊢
    have K2 : Hid (Blk w2 kk zk) := k2
    have D2 : Hid (Below w.heap.size w w2) := D1.out.trans (hb2.mono D1.out.size)
    clear hb2 D1 k2 hkk
    go_wp2_with (refine wpList_load_mid rfl 26 (.tmp 7) rfl kk 0 rfl zk dk K2.out.all UK.out.1 UK.out.2 IK.out ?_)
    refine Calls.mono (Z1.out w2 D2.out) ?_
    rintro e w3 ⟨x3, z3, rfl, hb3⟩
    have K3 : Hid (Blk w3 kk zk) := K2.out.up hb3 K2.out.lt
    have D3 : Hid (Below w.heap.size w w3) := D2.out.trans (hb3.mono D2.out.size)
    clear hb3 K2 D2 Z1
    go_wp2_with (refine wpList_load_mid rfl 26 (.tmp 7) rfl kk 0 rfl zk dk K3.out.all UK.out.1 UK.out.2 IK.out ?_)
    refine Calls.mono (Z2.out w3 D3.out) ?_
    rintro e w5 ⟨x5, z5, rfl, hb5⟩
    have D5 : Hid (Below w.heap.size w w5) := D3.out.trans (hb5.mono D3.out.size)
    clear hb5 K3 D3 Z2
    go_wp2_with fail
    go_ret
    exact ⟨rfl, D5.out⟩
end Go.Proofs.Ytejabkmhpiabnaa
