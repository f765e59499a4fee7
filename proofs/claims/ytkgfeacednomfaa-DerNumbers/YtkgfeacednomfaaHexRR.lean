/- The contract of sealringref.ReadHex. -/
import Derived.Test.YtkgfeacednomfaaHexRef
namespace Go.Proofs.Ytkgfeacednomfaa
open Go.RowKit
set_option linter.unusedSimpArgs false
attribute [local go_sem] sOf_size ByteArray.size_append
set_option maxHeartbeats 1000000 in
theorem hexText_none (a : Option Addr) (c : Nat) (w : World) :
    Calls Try.prog 54 #[.slice a 0 c] w fun e w' => e = .returned (.string (sOf (hexS []))) ∧ Below w.heap.size w w' := by
  go_enter Try.func54, Try.ntmps54
  go_wp2_with fail
  refine wp_loop_rounds 1 ?_
  rw [rounds_succ]
  go_wp2_with fail
  go_ret
  exact ⟨rfl, Below.refl _ _⟩
/-- sealringref.HexText: two signs a byte. -/
theorem hexText_fun (v : Value) (b : List Nat) (low : ∀ x ∈ b, x < 256) (hl : b.length ≤ 140737488351232) (w : World) (h : By w v b) :
    Calls Try.prog 54 #[v] w fun e w' => e = .returned (.string (sOf (hexS b))) ∧ Below w.heap.size w w' := by
  obtain ⟨a, c, rfl, _, _, h3⟩ := h
  by_cases h0 : b.length = 0
  · obtain rfl : b = [] := List.length_eq_zero_iff.1 h0
    exact hexText_none a c w
  · obtain ⟨bk, o, rfl, hc⟩ := h3 (by omega)
    exact hexText_some bk o c b low hl w hc
/-- What sealringref.ReadHex answers. -/
def RHt (cs : List Nat) (e : Ending) : Prop :=
  (∃ bs, e = .returned (.tuple #[.string (sOf bs), .int .i64 0]) ∧ (∀ y ∈ bs, y < 256) ∧ hexS bs = cs) ∨ ((¬ ∃ bs, (∀ y ∈ bs, y < 256) ∧ hexS bs = cs) ∧ e = .returned (.tuple #[.string ⟨#[]⟩, .int .i64 4]))
theorem no_hex {cs : List Nat} {i : Nat} (hi : i < cs.length) (hv : hexV (cs.getD i 0) < 0) : ¬ ∃ bs, (∀ y ∈ bs, y < 256) ∧ hexS bs = cs := by
  rintro ⟨bs, hlo, rfl⟩
  rw [hexS_len] at hi
  have hj : i / 2 < bs.length := by omega
  have e := hexS_get bs (i / 2) _ (List.getElem?_eq_getElem hj)
  have lx := hlo _ (List.getElem_mem hj)
  rcases Nat.mod_two_eq_zero_or_one i with hm | hm
  · rw [show 2 * (i / 2) = i by omega] at e
    rw [List.getD_eq_getElem?_getD, e.1, Option.getD_some, hexV_hexd (by omega)] at hv
    omega
  · rw [show 2 * (i / 2) + 1 = i by omega] at e
    rw [List.getD_eq_getElem?_getD, e.2, Option.getD_some, hexV_hexd (by omega)] at hv
    omega
theorem getD_low {cs : List Nat} (low : ∀ x ∈ cs, x < 256) (j : Nat) : cs.getD j 0 < 256 := by
  by_cases hj : j < cs.length
  · rw [List.getD_eq_getElem?_getD, List.getElem?_eq_getElem hj]
    exact low _ (List.getElem_mem hj)
  · simp [List.getD_eq_getElem?_getD, List.getElem?_eq_none (Nat.le_of_not_lt hj)]
set_option maxRecDepth 20000 in
set_option maxHeartbeats 1000000 in
theorem rReadHex_odd (cs : List Nat) (low : ∀ x ∈ cs, x < 256) (h : cs.length % 2 = 1) (w : World) :
    Calls Try.prog 50 #[.string (sOf cs)] w fun e w' => e = .returned (.tuple #[.string ⟨#[]⟩, .int .i64 4]) ∧ Below w.heap.size w w' := by
  have ss : (sOf cs).size % 2 = 1 := by rw [sOf_size]; exact h
  have g1 := sOf_get low 0
  have l1 := getD_low low 0
  obtain ⟨c1, hc1⟩ : ∃ c1, c1 = cs.getD 0 0 := ⟨_, rfl⟩
  rw [← hc1] at g1 l1
  generalize sOf cs = s at *
  clear hc1 low h
  have z1 : (s.size : Int) % 2 = 1 := by omega
  have y1 : 0 < s.size := by omega
  have y2 : (0 : Int) < (s.size : Int) := by omega
  go_enter Try.func50, Try.ntmps50
  go_wp2_with fail
  refine wp_loop_rounds 1 ?_
  rw [rounds_succ]
  go_wp2_with fail
  refine (hexDigit_fun c1 l1 w).mono ?_
  rintro e w2 ⟨rfl, hw⟩
  have hw2 := hw.symm
  subst hw2
  clear hw
  by_cases v1 : hexV c1 < 0
  · generalize hexV c1 = p at *
    go_wp2_with fail
    go_ret2
    exact ⟨rfl, Below.refl _ _⟩
  · generalize hexV c1 = p at *
    go_wp2_with fail
    go_ret2
    exact ⟨rfl, Below.refl _ _⟩
set_option maxRecDepth 20000 in
set_option maxHeartbeats 2000000 in
theorem rReadHex_even (cs : List Nat) (low : ∀ x ∈ cs, x < 256) (n : Nat) (hn : cs.length = 2 * n) (hl : n ≤ 140737488351232) (w : World) :
    Calls Try.prog 50 #[.string (sOf cs)] w fun e w' => RHt cs e ∧ Below w.heap.size w w' := by
  have ss : (sOf cs).size = 2 * n := by rw [sOf_size]; exact hn
  have SG : Hid (∀ j h, ((sOf cs)[j]'h).toNat = cs.getD j 0) := sOf_get low
  have LO : Hid (∀ j, cs.getD j 0 < 256) := getD_low low
  have HN : Hid (cs.length = 2 * n) := hn
  generalize sOf cs = s at *
  clear hn low
  have z1 : (s.size : Int) % 2 = 0 := by omega
  have s1 : (s.size : Int) ≤ 281474976702464 := by omega
  go_enter Try.func50, Try.ntmps50
  go_wp2_with fail
  go_loopw [4, 5] (fun t i wr => ∃ (k : Nat) (bs : List Nat), k ≤ 2 * n ∧ i = .int .i64 k ∧ t = .string (sOf bs) ∧ bs.length = k / 2 ∧ Hid (∀ y ∈ bs, y < 256) ∧ Hid (∀ j, j < bs.length → hexd (bs.getD j 0 / 16) = cs.getD (2 * j) 0 ∧ hexd (bs.getD j 0 % 16) = cs.getD (2 * j + 1) 0) ∧ Hid (∀ j, j < k → 0 ≤ hexV (cs.getD j 0)) ∧ Hid (Below w.heap.size w wr)) (fun _ i _ => 2 * n - (intOf i).toNat)
  case atStart => exact ⟨0, [], by omega, rfl, rfl, rfl, (fun y hy => absurd hy (by simp) : ∀ y ∈ ([] : List Nat), y < 256), (fun j hj => absurd hj (by simp) : ∀ j, j < ([] : List Nat).length → _), (fun j hj => absurd hj (by omega) : ∀ j, j < 0 → 0 ≤ hexV (cs.getD j 0)), Below.refl _ _⟩
  case round =>
    obtain ⟨k, bs, hk, rfl, rfl, hlen, hlo, hv, hok, hb⟩ := hrel
    by_cases h1 : k < 2 * n
    · have i1 : (k : Int) < (s.size : Int) := by omega
      have y1 : k < s.size := by omega
      have k0 : (0 : Int) ≤ (k : Int) := by omega
      have g1 := SG.out k
      have l1 := LO.out k
      obtain ⟨c1, hc1⟩ : ∃ c1, c1 = cs.getD k 0 := ⟨_, rfl⟩
      rw [← hc1] at g1 l1
      have HC1 : Hid (c1 = cs.getD k 0) := hc1
      clear hc1
      have tz : (sOf bs).size ≤ 140737488351232 := by rw [sOf_size]; omega
      have tz1 : ((sOf bs).size : Int) ≤ 140737488351232 := by omega
      have SB : Hid (∀ r, sOf (bs ++ [r]) = sOf bs ++ sOf [r]) := (fun r => (sOf_append _ _).symm : ∀ r, sOf (bs ++ [r]) = sOf bs ++ sOf [r])
      have HL : Hid (bs.length = k / 2) := hlen
      clear hlen
      obtain ⟨tx, htx⟩ : ∃ tx, tx = sOf bs := ⟨_, rfl⟩
      rw [← htx] at SB tz tz1
      rw [← htx]
      have TX : Hid (tx = sOf bs) := htx
      clear htx
      go_wp2_with fail
      refine (hexDigit_fun c1 l1 wr).mono ?_
      rintro e w2 ⟨rfl, hw⟩
      have hw2 := hw.symm
      subst hw2
      clear hw
      by_cases v1 : hexV c1 < 0
      · have NG : Hid (¬ ∃ bs, (∀ y ∈ bs, y < 256) ∧ hexS bs = cs) := no_hex (i := k) (by have := HN.out; omega) (by rw [← HC1.out]; exact v1)
        generalize hexV c1 = p at *
        go_wp2_with fail
        go_ret2
        exact ⟨.inr ⟨NG.out, rfl⟩, hb.out⟩
      · have V1 : Hid (0 ≤ hexV c1) := by
          have : 0 ≤ hexV c1 := by omega
          exact this
        obtain ⟨q, hq, q16, hq2⟩ := hexd_hexV V1.out
        have HQ : Hid (hexd q = c1) := hq2
        clear hq2
        rw [hq]
        have q0 : (0 : Int) ≤ (q : Int) := by omega
        have q1 : (q : Int) < 16 := by omega
        clear v1
        rcases Nat.mod_two_eq_zero_or_one k with km | km
        · have k2 : (k : Int) % 2 = 0 := by omega
          clear hq g1
          go_wp2_with fail
          go_roundw
          case rel =>
            refine ⟨k + 1, bs, by omega, by go_num, by rw [TX.out], by have := HL.out; omega, hlo, hv, ?_, hb⟩
            refine (fun j hj => ?_ : ∀ j, j < k + 1 → 0 ≤ hexV (cs.getD j 0))
            by_cases e : j = k
            · rw [e, ← HC1.out]; exact V1.out
            · exact hok.out j (by omega)
          case measure => simp [intOf]; omega
        · have k2 : (k : Int) % 2 = 1 := by omega
          obtain ⟨m, hm⟩ : ∃ m, k = m + 1 := ⟨k - 1, by omega⟩
          have HM : Hid (k = m + 1) := hm
          have km1 : (k : Int) - 1 = (m : Int) := by omega
          have m0 : (0 : Int) ≤ (m : Int) := by omega
          have y3 : m < s.size := by omega
          have y4 : (m : Int) < (s.size : Int) := by omega
          have g2 := SG.out m
          have l2 := LO.out m
          have ok2 := hok.out m (by omega)
          obtain ⟨c2, hc2⟩ : ∃ c2, c2 = cs.getD m 0 := ⟨_, rfl⟩
          rw [← hc2] at g2 l2 ok2
          have HC2 : Hid (c2 = cs.getD m 0) := hc2
          obtain ⟨p, hp, p16, hp2⟩ := hexd_hexV ok2
          have HP : Hid (hexd p = c2) := hp2
          have p0 : (0 : Int) ≤ (p : Int) := by omega
          have p1 : (p : Int) < 16 := by omega
          obtain ⟨r, hr⟩ : ∃ r, r = p * 16 + q := ⟨_, rfl⟩
          have HR : Hid (r / 16 = p ∧ r % 16 = q ∧ r < 256) := (⟨by omega, by omega, by omega⟩ : r / 16 = p ∧ r % 16 = q ∧ r < 256)
          have r2 : (p : Int) * 16 + (q : Int) = (r : Int) := by omega
          have r0 : (0 : Int) ≤ (r : Int) := by omega
          have r1 : (r : Int) < 256 := by omega
          clear hc2 hp2 ok2 hr hm hq g1
          go_wp2_with fail
          refine (hexDigit_fun c2 l2 wr).mono ?_
          rintro e w2 ⟨rfl, hw⟩
          have hw2 := hw.symm
          subst hw2
          clear hw
          rw [hp]
          clear hp g2
          go_wp2_with (refine wp_conv rfl (.tmp 38) rfl _ [r] rfl (By.one ((cell_top (by simp)).trans (by simp [b8]))) ?_)
          go_roundw
          case rel =>
            have L := HL.out
            have M := HM.out
            refine ⟨k + 1, bs ++ [r], by omega, by go_num, by rw [SB.out], by rw [List.length_append]; show _ + 1 = _; omega, ?_, ?_, ?_, hb.out.alloc hb.out.size _⟩
            · refine (fun y hy => ?_ : ∀ y ∈ bs ++ [r], y < 256)
              rcases List.mem_append.1 hy with h | h
              · exact hlo.out y h
              · rw [List.mem_singleton.1 h]; exact HR.out.2.2
            · refine (fun j hj => ?_ : ∀ j, j < (bs ++ [r]).length → hexd ((bs ++ [r]).getD j 0 / 16) = cs.getD (2 * j) 0 ∧ hexd ((bs ++ [r]).getD j 0 % 16) = cs.getD (2 * j + 1) 0)
              rw [List.length_append] at hj
              by_cases e : j = bs.length
              · subst e
                rw [List.getD_eq_getElem?_getD, List.getElem?_append_right (Nat.le_refl _), Nat.sub_self]
                show hexd (r / 16) = _ ∧ hexd (r % 16) = _
                rw [HR.out.1, HR.out.2.1, HP.out, HQ.out, show 2 * bs.length = m by omega, show m + 1 = k by omega]
                exact ⟨HC2.out, HC1.out⟩
              · have hj2 : j < bs.length := by
                  have : j < bs.length + 1 := hj
                  omega
                rw [List.getD_eq_getElem?_getD, List.getElem?_append_left hj2, ← List.getD_eq_getElem?_getD]
                exact hv.out j hj2
            · refine (fun j hj => ?_ : ∀ j, j < k + 1 → 0 ≤ hexV (cs.getD j 0))
              by_cases e : j = k
              · rw [e, ← HC1.out]; exact V1.out
              · exact hok.out j (by omega)
          case measure => simp [intOf]; omega
    · have i1 : ¬ (k : Int) < (s.size : Int) := by omega
      have E : Hid (hexS bs = cs) := hexS_of (by rw [HN.out]; omega) (fun j hj => hv.out j hj)
      have tz : (sOf bs).size ≤ 140737488351232 := by rw [sOf_size]; omega
      go_wp2_with fail
      go_ret2
      exact ⟨.inl ⟨bs, rfl, hlo.out, E.out⟩, hb.out⟩
/-- sealringref.ReadHex: the bytes of which the text is, as a text; or none. -/
theorem rReadHex_fun (cs : List Nat) (low : ∀ x ∈ cs, x < 256) (hl : cs.length ≤ 281474976702464) (w : World) :
    Calls Try.prog 50 #[.string (sOf cs)] w fun e w' => RHt cs e ∧ Below w.heap.size w w' := by
  rcases Nat.mod_two_eq_zero_or_one cs.length with h | h
  · exact rReadHex_even cs low (cs.length / 2) (by omega) (by omega) w
  · refine (rReadHex_odd cs low h w).mono ?_
    rintro e w' ⟨rfl, h2⟩
    refine ⟨.inr ⟨?_, rfl⟩, h2⟩
    rintro ⟨bs, _, rfl⟩
    rw [hexS_len] at h
    omega
end Go.Proofs.Ytkgfeacednomfaa
