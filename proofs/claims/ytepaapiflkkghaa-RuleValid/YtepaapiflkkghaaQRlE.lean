/- Package rule, as it landed: what may not be done to an element; walk. -/
import Derived.Test.YtepaapiflkkghaaQRlD
namespace Go.Proofs.Ytepaapiflkkghaa
open Go.RowKit
attribute [local go_sem] World.cell?_alloc_some cell_alloc2 cell_alloc3 cell_alloc4 frozen?_alloc_cells frozen_out
set_option linter.unusedSimpArgs false
/-- In block q lies a function that asks whether a kind is among these. -/
def FixAt (w : World) (q : Nat) (ks : List Nat) : Prop := ∃ p, Kn w [(q, [amoV p])] ∧ AmoAt w p ks
theorem FixAt.up {W w1 : World} {q : Nat} {ks : List Nat} (h : FixAt W q ks) (hb : Below W.heap.size W w1) : FixAt w1 q ks := by
  obtain ⟨p, h1, h2⟩ := h
  exact ⟨p, h1.up hb, h2.up hb⟩
set_option maxHeartbeats 1000000 in
theorem den1_walk (k : Int) (u : Value) (p q : Nat) (r : Bool) (w : World) (HK : Hid (Kn w [(q, [amoV p])])) (A1 : ∀ W, Below w.heap.size w W → Calls Try.prog 58 #[.int .i64 k, .pointer (some ⟨p, 0, none⟩)] W fun e w' => e = .returned (.bool r) ∧ Below W.heap.size W w') :
    Calls Try.prog 36 #[.agg #[.int .i64 k, u], .pointer (some ⟨q, 0, none⟩)] w fun e w' => e = .returned (.bool r) ∧ Below w.heap.size w w' := by
  have s1 : Hid (Kn (w.alloc (.cells #[.int .i64 k, u] 64)) [(w.heap.size, [.int .i64 k, u])]) := (Kn.nil w).al [.int .i64 k, u] 64 rfl
  have b1 : Hid (Below w.heap.size w (w.alloc (.cells #[.int .i64 k, u] 64))) := (Below.refl _ _).alloc (Nat.le_refl _) _
  have u0 := Kn.get s1.out 0 0 rfl rfl
  have u1 := Kn.get (HK.out.up b1.out) 0 0 rfl rfl
  have A2 := A1 _ b1.out
  clear A1
  go_enter Try.func36, Try.ntmps36
  go_wp2_with fail
  refine A2.mono ?_
  rintro e w2 ⟨rfl, hb⟩
  have b2 : Hid (Below w.heap.size w w2) := b1.out.trans (hb.mono b1.out.size)
  clear hb A2 b1
  go_wp2_with fail
  go_ret
  exact ⟨rfl, b2.out⟩
theorem den1_fun (ks : List Nat) (kl : ks.length ≤ 1000) (k : Int) (u : Value) (q : Nat) (w : World) (h : FixAt w q ks) : Calls Try.prog 36 #[.agg #[.int .i64 k, u], .pointer (some ⟨q, 0, none⟩)] w fun e w' => e = .returned (.bool (amoA ks k)) ∧ Below w.heap.size w w' := by
  obtain ⟨p, h1, h2⟩ := h
  exact den1_walk k u p q _ w h1 fun W hW => amo_fun ks kl k p W (h2.up hW)
set_option maxHeartbeats 2000000 in
theorem den2_walk (k : Int) (xa : Option Addr) (n xc : Nat) (va : Option Addr) (vn vc : Nat) (p q q2 : Nat) (r s : Bool) (w : World) (HK : Hid (Kn w [(q, [amoV p])])) (HL : Hid (Kn w [(q2, [.slice va vn vc])]))
    (A1 : ∀ W, Below w.heap.size w W → Calls Try.prog 58 #[.int .i64 k, .pointer (some ⟨p, 0, none⟩)] W fun e w' => e = .returned (.bool r) ∧ Below W.heap.size W w')
    (W1 : Hid (∀ W, Below w.heap.size w W → Calls Try.prog 65 #[.slice va vn vc, .agg #[.int .i64 k, .slice xa n xc]] W fun e w' => e = .returned (.bool s) ∧ Below W.heap.size W w')) :
    Calls Try.prog 64 #[.agg #[.int .i64 k, .slice xa n xc], .pointer (some ⟨q, 0, none⟩), .pointer (some ⟨q2, 0, none⟩)] w fun e w' => e = .returned (.bool (r || s)) ∧ Below w.heap.size w w' := by
  have s1 : Hid (Kn (w.alloc (.cells #[.int .i64 k, .slice xa n xc] 64)) [(w.heap.size, [.int .i64 k, .slice xa n xc])]) := (Kn.nil w).al [.int .i64 k, .slice xa n xc] 64 rfl
  have b1 : Hid (Below w.heap.size w (w.alloc (.cells #[.int .i64 k, .slice xa n xc] 64))) := (Below.refl _ _).alloc (Nat.le_refl _) _
  have u0 := Kn.get s1.out 0 0 rfl rfl
  have u1 := Kn.get (HK.out.up b1.out) 0 0 rfl rfl
  have A2 := A1 _ b1.out
  clear A1
  go_enter Try.func64, Try.ntmps64
  go_wp2_with fail
  refine A2.mono ?_
  rintro e w2 ⟨rfl, hb⟩
  have s2 : Hid (Kn w2 [(w.heap.size, [.int .i64 k, .slice xa n xc])]) := s1.out.up hb
  have b2 : Hid (Below w.heap.size w w2) := b1.out.trans (hb.mono b1.out.size)
  clear hb A2 b1 u0 u1 s1
  cases r with
  | true =>
    go_wp2_with fail
    go_ret
    exact ⟨rfl, b2.out⟩
  | false =>
    have u2 := Kn.get (HL.out.up b2.out) 0 0 rfl rfl
    go_wp2_with (refine wp_ldW (by first | rfl | simp [Region.wanted, yielded]) 64 _ rfl w.heap.size 0 rfl [.int .i64 k, .slice xa n xc] _ (Kn.rng s2.out 0 rfl) u_attr rfl (info_attr _ _) ?_)
    refine (W1.out _ b2.out).mono ?_
    rintro e w3 ⟨rfl, hb⟩
    have b3 : Hid (Below w.heap.size w w3) := b2.out.trans (hb.mono b2.out.size)
    clear hb W1 b2 u2 s2
    go_wp2_with fail
    go_ret
    exact ⟨rfl, b3.out⟩
/-- In block q lies a function that asks whether a kind is among these, in block q2 a list. -/
def DenAt (w : World) (q q2 : Nat) (ks : List Nat) (l : List Ar) : Prop := FixAt w q ks ∧ ∃ v, Kn w [(q2, [v])] ∧ Ats w v l
theorem DenAt.up {W w1 : World} {q q2 : Nat} {ks : List Nat} {l : List Ar} (h : DenAt W q q2 ks l) (hb : Below W.heap.size W w1) : DenAt w1 q q2 ks l := by
  obtain ⟨h1, v, h2, h3⟩ := h
  exact ⟨h1.up hb, v, h2.up hb, h3.up hb (Nat.le_refl _)⟩
theorem den2_fun (ks : List Nat) (kl : ks.length ≤ 1000) (l : List Ar) (lo : lowA l) (hs : l.length ≤ 4611686018427387904) (x : Ar) (hx : x.ok) (xa : Option Addr) (n xc : Nat) (q q2 : Nat) (w : World) (h : DenAt w q q2 ks l) (hu : By w (.slice xa n xc) x.v) :
    Calls Try.prog 64 #[.agg #[.int .i64 x.k, .slice xa n xc], .pointer (some ⟨q, 0, none⟩), .pointer (some ⟨q2, 0, none⟩)] w fun e w' => e = .returned (.bool (amoA ks x.k || wkrA l x)) ∧ Below w.heap.size w w' := by
  obtain ⟨⟨p, h1, h2⟩, v, h3, h4⟩ := h
  obtain ⟨a, c, rfl⟩ := ats_parts h4
  exact den2_walk x.k xa n xc a _ c p q q2 _ _ w h1 h3 (fun W hW => amo_fun ks kl x.k p W (h2.up hW)) fun W hW => weaker_fun l lo hs x hx xa n xc _ W (h4.up hW (Nat.le_refl _)) (hu.up hW (Nat.le_refl _))
set_option maxHeartbeats 2000000 in
theorem walk_nil (a : Option Addr) (e c : Nat) (hc : c < 256) (f : Value) (w : World) : Calls Try.prog 37 #[.slice a 0 e, .int .u8 (c : Int), f] w fun e w' => e = .returned (.int .i64 0) ∧ Below w.heap.size w w' := by
  go_enter Try.func37, Try.ntmps37
  go_wp2_with fail
  refine (rlKindsC c w hc).mono ?_
  rintro e w1 ⟨⟨u, rfl, hu⟩, hb⟩
  have b1 : Hid (Below w.heap.size w w1) := hb
  have M1 := among_fun u (kndN c 18) w1 hu
  clear hu hb
  go_wp2_with fail
  refine M1.mono ?_
  rintro e w2 ⟨rfl, -, hb⟩
  have b2 : Hid (Below w.heap.size w w2) := b1.out.trans (hb.mono b1.out.size)
  clear hb b1 M1
  go_wp2_with fail
  refine wp_loop_rounds 1 ?_
  rw [rounds_succ]
  go_wp2_with fail
  go_ret
  exact ⟨rfl, b2.out⟩
set_option maxRecDepth 20000 in
set_option maxHeartbeats 4000000 in
theorem walk1_walk (d : Ar → Bool) (q : Nat) (t : List Ar) (n : Nat) (hn : t.length = n) (hs : n ≤ 24) (c : Nat) (hc : c < 256) (b o m : Nat) (w : World) (HA : Hid (Ats w (.slice (some ⟨b, o, none⟩) n m) t))
    (F1 : Hid (∀ W x xa n xc, Below w.heap.size w W → x ∈ t → By W (.slice xa n xc) x.v → Calls Try.prog 36 #[.agg #[.int .i64 x.k, .slice xa n xc], .pointer (some ⟨q, 0, none⟩)] W fun e w' => e = .returned (.bool (d x)) ∧ Below W.heap.size W w')) :
    Calls Try.prog 37 #[.slice (some ⟨b, o, none⟩) n m, .int .u8 (c : Int), .func (.func 36) #[] #[.pointer (some ⟨q, 0, none⟩)]] w fun e w' => e = .returned (.int .i64 ((wlkE (kndN c 18) d t : Nat) : Int)) ∧ Below w.heap.size w w' := by
  have HN : Hid (t.length = n ∧ (n : Int) ≤ 24) := ⟨hn, by omega⟩
  have HC : Hid (c < 256) := hc
  clear hn hs hc
  go_enter Try.func37, Try.ntmps37
  go_wp2_with fail
  refine (rlKindsC c w HC.out).mono ?_
  rintro e w1 ⟨⟨u, rfl, hu⟩, hb⟩
  have b1 : Hid (Below w.heap.size w w1) := hb
  have M1 := among_fun u (kndN c 18) w1 hu
  clear hu hb
  go_wp2_with fail
  refine M1.mono ?_
  rintro e w2 ⟨rfl, ha, hb⟩
  have a2 : Hid (AmoAt w2 w1.heap.size (kndN c 18)) := ha
  have b2 : Hid (Below w.heap.size w w2) := b1.out.trans (hb.mono b1.out.size)
  obtain ⟨p, hp⟩ : ∃ p, Hid (w1.heap.size = p) := ⟨_, rfl⟩
  rw [hp.out] at a2 ⊢
  clear ha hb b1 M1 hp
  go_wp2_with fail
  go_loopw [15] (fun i wr => ∃ j : Nat, j ≤ n ∧ i = .int .i64 (j : Int) ∧ Hid (wlkE (kndN c 18) d t = wlkE (kndN c 18) d (t.drop j)) ∧ Hid (AmoAt wr p (kndN c 18)) ∧ Hid (Below w.heap.size w wr)) (fun i _ => n - (intOf i).toNat)
  case atStart => exact ⟨0, Nat.zero_le _, rfl, rfl, a2, b2⟩
  case round =>
    clear a2 b2
    obtain ⟨j, hj, rfl, no, ak, bk⟩ := hrel
    by_cases hlt : j < n
    · have i1 : (j : Int) < (n : Int) := by omega
      have i0 : (0 : Int) ≤ (j : Int) := by omega
      have jn : (n : Int) ≤ 24 := HN.out.2
      have HJ : Hid (j < n) := hlt
      have hlt' : j < t.length := by have := HN.out; omega
      obtain ⟨x, hx⟩ : ∃ x, Hid (t[j]? = some x) := ⟨t[j], List.getElem?_eq_getElem _⟩
      have ED : Hid (wlkE (kndN c 18) d t = wlkE (kndN c 18) d (x :: t.drop (j + 1))) := by
        show _ = _
        rw [no.out, List.drop_eq_getElem_cons hlt']
        have := hx.out
        rw [List.getElem?_eq_getElem hlt'] at this
        rw [Option.some.inj this]
      obtain ⟨xa, xc, ex⟩ := (HA.out.up bk.out (Nat.le_refl _)).elem hx.out
      have EX : Hid (AtE wr b (o + j * 2) x xa xc) := ex
      have E1 : Hid (∀ (C : Array Value) ty, AtE (wr.alloc (.cells C ty)) b (o + j * 2) x xa xc) := fun C ty => EX.out.up ((Below.refl _ _).alloc (Nat.le_refl _) _)
      have s2 : Hid (Kn (wr.alloc (.cells #[.int .i64 x.k, .slice xa x.v.length xc] 64)) [(wr.heap.size, [.int .i64 x.k, .slice xa x.v.length xc])]) := (Kn.nil wr).al [.int .i64 x.k, .slice xa x.v.length xc] 64 rfl
      have ba : Below wr.heap.size wr (wr.alloc (.cells #[.int .i64 x.k, .slice xa x.v.length xc] 64)) := (Below.refl _ _).alloc (Nat.le_refl _) _
      have b2 : Hid (Below w.heap.size w (wr.alloc (.cells #[.int .i64 x.k, .slice xa x.v.length xc] 64))) := bk.out.alloc bk.out.size _
      have V2 : Hid (By (wr.alloc (.cells #[.int .i64 x.k, .slice xa x.v.length xc] 64)) (.slice xa x.v.length xc) x.v) := (E1.out _ _).2.2
      have a2 : Hid (AmoAt (wr.alloc (.cells #[.int .i64 x.k, .slice xa x.v.length xc] 64)) p (kndN c 18)) := ak.out.up ba
      have u0 := Kn.get s2.out 0 0 rfl rfl
      have T1 := amo_fun (kndN c 18) (Nat.le_trans (kndN_len c 18) (by decide)) x.k p _ a2.out
      obtain ⟨r1, hr1⟩ : ∃ r, Hid (amoA (kndN c 18) x.k = r) := ⟨_, rfl⟩
      obtain ⟨r2, hr2⟩ : ∃ r, Hid (d x = r) := ⟨_, rfl⟩
      rw [hr1.out] at T1
      clear hlt hlt' hj ex bk ba ak no
      go_wp2_with (first | simp only [zero_attr] | refine wp_ldW rfl 64 _ rfl b (o + j * 2) rfl [.int .i64 x.k, .slice xa x.v.length xc] _ (by first | exact EX.out.rng | exact (E1.out _ _).rng) u_attr rfl (info_attr _ _) ?_)
      refine T1.mono ?_
      rintro e w3 ⟨rfl, hb⟩
      have b3 : Hid (Below w.heap.size w w3) := b2.out.trans (hb.mono b2.out.size)
      have a3 : Hid (AmoAt w3 p (kndN c 18)) := a2.out.up hb
      have s3 : Hid (Kn w3 [(wr.heap.size, [.int .i64 x.k, .slice xa x.v.length xc])]) := s2.out.up hb
      have V3 : Hid (By w3 (.slice xa x.v.length xc) x.v) := V2.out.up hb (Nat.le_refl _)
      clear hb b2 a2 s2 V2 T1 u0 E1 EX
      cases r1 with
      | false =>
        have er : wlkE (kndN c 18) d t = 13 := by rw [ED.out, wlkE, if_pos hr1.out]
        go_wp2_with fail
        go_ret
        exact ⟨by first | rfl | (rw [er]; rfl), b3.out⟩
      | true =>
        have D1 := F1.out w3 x xa x.v.length xc b3.out (List.mem_of_getElem? hx.out) V3.out
        rw [hr2.out] at D1
        go_wp2_with (refine wp_ldW rfl 64 _ rfl wr.heap.size 0 rfl [.int .i64 x.k, .slice xa x.v.length xc] _ (Kn.rng s3.out 0 rfl) u_attr rfl (info_attr _ _) ?_)
        refine D1.mono ?_
        rintro e w4 ⟨rfl, hb⟩
        have b4 : Hid (Below w.heap.size w w4) := b3.out.trans (hb.mono b3.out.size)
        have a4 : Hid (AmoAt w4 p (kndN c 18)) := a3.out.up hb
        clear hb b3 a3 s3 V3 D1
        cases r2 with
        | true =>
          have er : wlkE (kndN c 18) d t = 12 := by rw [ED.out, wlkE, if_neg (by rw [hr1.out]; decide), if_pos hr2.out]
          go_wp2_with fail
          go_ret
          exact ⟨by first | rfl | (rw [er]; rfl), b4.out⟩
        | false =>
          have no' : Hid (wlkE (kndN c 18) d t = wlkE (kndN c 18) d (t.drop (j + 1))) := by
            show _ = _
            rw [ED.out, wlkE, if_neg (by rw [hr1.out]; decide), if_neg (by rw [hr2.out]; decide)]
          go_wp2_with fail
          go_roundw
          case rel => exact ⟨j + 1, HJ.out, by go_num, no', a4, b4⟩
          case measure => simp [intOf]; have := HJ.out; omega
    · have i1 : ¬ (j : Int) < (n : Int) := by omega
      have er : wlkE (kndN c 18) d t = 0 := by
        rw [no.out, List.drop_eq_nil_of_le (by have := HN.out; omega)]
        rfl
      clear hlt hj
      go_wp2_with fail
      go_ret
      exact ⟨by first | rfl | (rw [er]; rfl), bk.out⟩
set_option maxRecDepth 20000 in
set_option maxHeartbeats 4000000 in
theorem walk2_walk (d : Ar → Bool) (q q2 : Nat) (t : List Ar) (n : Nat) (hn : t.length = n) (hs : n ≤ 24) (c : Nat) (hc : c < 256) (b o m : Nat) (w : World) (HA : Hid (Ats w (.slice (some ⟨b, o, none⟩) n m) t))
    (F1 : Hid (∀ W x xa n xc, Below w.heap.size w W → x ∈ t → By W (.slice xa n xc) x.v → Calls Try.prog 64 #[.agg #[.int .i64 x.k, .slice xa n xc], .pointer (some ⟨q, 0, none⟩), .pointer (some ⟨q2, 0, none⟩)] W fun e w' => e = .returned (.bool (d x)) ∧ Below W.heap.size W w')) :
    Calls Try.prog 37 #[.slice (some ⟨b, o, none⟩) n m, .int .u8 (c : Int), .func (.func 64) #[] #[.pointer (some ⟨q, 0, none⟩), .pointer (some ⟨q2, 0, none⟩)]] w fun e w' => e = .returned (.int .i64 ((wlkE (kndN c 18) d t : Nat) : Int)) ∧ Below w.heap.size w w' := by
  have HN : Hid (t.length = n ∧ (n : Int) ≤ 24) := ⟨hn, by omega⟩
  have HC : Hid (c < 256) := hc
  clear hn hs hc
  go_enter Try.func37, Try.ntmps37
  go_wp2_with fail
  refine (rlKindsC c w HC.out).mono ?_
  rintro e w1 ⟨⟨u, rfl, hu⟩, hb⟩
  have b1 : Hid (Below w.heap.size w w1) := hb
  have M1 := among_fun u (kndN c 18) w1 hu
  clear hu hb
  go_wp2_with fail
  refine M1.mono ?_
  rintro e w2 ⟨rfl, ha, hb⟩
  have a2 : Hid (AmoAt w2 w1.heap.size (kndN c 18)) := ha
  have b2 : Hid (Below w.heap.size w w2) := b1.out.trans (hb.mono b1.out.size)
  obtain ⟨p, hp⟩ : ∃ p, Hid (w1.heap.size = p) := ⟨_, rfl⟩
  rw [hp.out] at a2 ⊢
  clear ha hb b1 M1 hp
  go_wp2_with fail
  go_loopw [15] (fun i wr => ∃ j : Nat, j ≤ n ∧ i = .int .i64 (j : Int) ∧ Hid (wlkE (kndN c 18) d t = wlkE (kndN c 18) d (t.drop j)) ∧ Hid (AmoAt wr p (kndN c 18)) ∧ Hid (Below w.heap.size w wr)) (fun i _ => n - (intOf i).toNat)
  case atStart => exact ⟨0, Nat.zero_le _, rfl, rfl, a2, b2⟩
  case round =>
    clear a2 b2
    obtain ⟨j, hj, rfl, no, ak, bk⟩ := hrel
    by_cases hlt : j < n
    · have i1 : (j : Int) < (n : Int) := by omega
      have i0 : (0 : Int) ≤ (j : Int) := by omega
      have jn : (n : Int) ≤ 24 := HN.out.2
      have HJ : Hid (j < n) := hlt
      have hlt' : j < t.length := by have := HN.out; omega
      obtain ⟨x, hx⟩ : ∃ x, Hid (t[j]? = some x) := ⟨t[j], List.getElem?_eq_getElem _⟩
      have ED : Hid (wlkE (kndN c 18) d t = wlkE (kndN c 18) d (x :: t.drop (j + 1))) := by
        show _ = _
        rw [no.out, List.drop_eq_getElem_cons hlt']
        have := hx.out
        rw [List.getElem?_eq_getElem hlt'] at this
        rw [Option.some.inj this]
      obtain ⟨xa, xc, ex⟩ := (HA.out.up bk.out (Nat.le_refl _)).elem hx.out
      have EX : Hid (AtE wr b (o + j * 2) x xa xc) := ex
      have E1 : Hid (∀ (C : Array Value) ty, AtE (wr.alloc (.cells C ty)) b (o + j * 2) x xa xc) := fun C ty => EX.out.up ((Below.refl _ _).alloc (Nat.le_refl _) _)
      have s2 : Hid (Kn (wr.alloc (.cells #[.int .i64 x.k, .slice xa x.v.length xc] 64)) [(wr.heap.size, [.int .i64 x.k, .slice xa x.v.length xc])]) := (Kn.nil wr).al [.int .i64 x.k, .slice xa x.v.length xc] 64 rfl
      have ba : Below wr.heap.size wr (wr.alloc (.cells #[.int .i64 x.k, .slice xa x.v.length xc] 64)) := (Below.refl _ _).alloc (Nat.le_refl _) _
      have b2 : Hid (Below w.heap.size w (wr.alloc (.cells #[.int .i64 x.k, .slice xa x.v.length xc] 64))) := bk.out.alloc bk.out.size _
      have V2 : Hid (By (wr.alloc (.cells #[.int .i64 x.k, .slice xa x.v.length xc] 64)) (.slice xa x.v.length xc) x.v) := (E1.out _ _).2.2
      have a2 : Hid (AmoAt (wr.alloc (.cells #[.int .i64 x.k, .slice xa x.v.length xc] 64)) p (kndN c 18)) := ak.out.up ba
      have u0 := Kn.get s2.out 0 0 rfl rfl
      have T1 := amo_fun (kndN c 18) (Nat.le_trans (kndN_len c 18) (by decide)) x.k p _ a2.out
      obtain ⟨r1, hr1⟩ : ∃ r, Hid (amoA (kndN c 18) x.k = r) := ⟨_, rfl⟩
      obtain ⟨r2, hr2⟩ : ∃ r, Hid (d x = r) := ⟨_, rfl⟩
      rw [hr1.out] at T1
      clear hlt hlt' hj ex bk ba ak no
      go_wp2_with (first | simp only [zero_attr] | refine wp_ldW rfl 64 _ rfl b (o + j * 2) rfl [.int .i64 x.k, .slice xa x.v.length xc] _ (by first | exact EX.out.rng | exact (E1.out _ _).rng) u_attr rfl (info_attr _ _) ?_)
      refine T1.mono ?_
      rintro e w3 ⟨rfl, hb⟩
      have b3 : Hid (Below w.heap.size w w3) := b2.out.trans (hb.mono b2.out.size)
      have a3 : Hid (AmoAt w3 p (kndN c 18)) := a2.out.up hb
      have s3 : Hid (Kn w3 [(wr.heap.size, [.int .i64 x.k, .slice xa x.v.length xc])]) := s2.out.up hb
      have V3 : Hid (By w3 (.slice xa x.v.length xc) x.v) := V2.out.up hb (Nat.le_refl _)
      clear hb b2 a2 s2 V2 T1 u0 E1 EX
      cases r1 with
      | false =>
        have er : wlkE (kndN c 18) d t = 13 := by rw [ED.out, wlkE, if_pos hr1.out]
        go_wp2_with fail
        go_ret
        exact ⟨by first | rfl | (rw [er]; rfl), b3.out⟩
      | true =>
        have D1 := F1.out w3 x xa x.v.length xc b3.out (List.mem_of_getElem? hx.out) V3.out
        rw [hr2.out] at D1
        go_wp2_with (refine wp_ldW rfl 64 _ rfl wr.heap.size 0 rfl [.int .i64 x.k, .slice xa x.v.length xc] _ (Kn.rng s3.out 0 rfl) u_attr rfl (info_attr _ _) ?_)
        refine D1.mono ?_
        rintro e w4 ⟨rfl, hb⟩
        have b4 : Hid (Below w.heap.size w w4) := b3.out.trans (hb.mono b3.out.size)
        have a4 : Hid (AmoAt w4 p (kndN c 18)) := a3.out.up hb
        clear hb b3 a3 s3 V3 D1
        cases r2 with
        | true =>
          have er : wlkE (kndN c 18) d t = 12 := by rw [ED.out, wlkE, if_neg (by rw [hr1.out]; decide), if_pos hr2.out]
          go_wp2_with fail
          go_ret
          exact ⟨by first | rfl | (rw [er]; rfl), b4.out⟩
        | false =>
          have no' : Hid (wlkE (kndN c 18) d t = wlkE (kndN c 18) d (t.drop (j + 1))) := by
            show _ = _
            rw [ED.out, wlkE, if_neg (by rw [hr1.out]; decide), if_neg (by rw [hr2.out]; decide)]
          go_wp2_with fail
          go_roundw
          case rel => exact ⟨j + 1, HJ.out, by go_num, no', a4, b4⟩
          case measure => simp [intOf]; have := HJ.out; omega
    · have i1 : ¬ (j : Int) < (n : Int) := by omega
      have er : wlkE (kndN c 18) d t = 0 := by
        rw [no.out, List.drop_eq_nil_of_le (by have := HN.out; omega)]
        rfl
      clear hlt hj
      go_wp2_with fail
      go_ret
      exact ⟨by first | rfl | (rw [er]; rfl), bk.out⟩
/-- walk, where a template makes an object. -/
theorem walk1_fun (ks : List Nat) (kl : ks.length ≤ 1000) (q : Nat) (t : List Ar) (hs : t.length ≤ 24) (c : Nat) (hc : c < 256) (v : Value) (w : World) (hv : Ats w v t) (h : FixAt w q ks) :
    Calls Try.prog 37 #[v, .int .u8 (c : Int), .func (.func 36) #[] #[.pointer (some ⟨q, 0, none⟩)]] w fun e w' => e = .returned (.int .i64 ((wlkE (kndN c 18) (fun x => amoA ks x.k) t : Nat) : Int)) ∧ Below w.heap.size w w' := by
  obtain ⟨a, m, rfl⟩ := ats_parts hv
  by_cases h0 : t.length = 0
  · have e := List.length_eq_zero_iff.1 h0
    subst e
    exact walk_nil a m c hc _ w
  · obtain ⟨b, o, rfl⟩ := hv.addr (by omega)
    exact walk1_walk _ q t _ rfl hs c hc b o m w hv fun W x xa n xc hW _ _ => den1_fun ks kl x.k _ q W (h.up hW)
/-- walk, where a list changes an object. -/
theorem walk2_fun (ks : List Nat) (kl : ks.length ≤ 1000) (l : List Ar) (lo : lowA l) (ls : l.length ≤ 4611686018427387904) (q q2 : Nat) (t : List Ar) (lt : lowA t) (hs : t.length ≤ 24) (c : Nat) (hc : c < 256) (v : Value) (w : World) (hv : Ats w v t) (h : DenAt w q q2 ks l) :
    Calls Try.prog 37 #[v, .int .u8 (c : Int), .func (.func 64) #[] #[.pointer (some ⟨q, 0, none⟩), .pointer (some ⟨q2, 0, none⟩)]] w fun e w' => e = .returned (.int .i64 ((wlkE (kndN c 18) (fun x => amoA ks x.k || wkrA l x) t : Nat) : Int)) ∧ Below w.heap.size w w' := by
  obtain ⟨a, m, rfl⟩ := ats_parts hv
  by_cases h0 : t.length = 0
  · have e := List.length_eq_zero_iff.1 h0
    subst e
    exact walk_nil a m c hc _ w
  · obtain ⟨b, o, rfl⟩ := hv.addr (by omega)
    exact walk2_walk _ q q2 t _ rfl hs c hc b o m w hv fun W x xa n xc hW hx hu => den2_fun ks kl l lo ls x (lt x hx) xa n xc q q2 W (h.up hW) hu
end Go.Proofs.Ytepaapiflkkghaa
