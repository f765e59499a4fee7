/- HashPads returns true for every two texts. -/
import Derived.Test.YthaipnjnkkdfbaaHPad
import Derived.Test.YthaipnjnkkdfbaaHEq
import Derived.Test.YthaipnjnkkdfbaaHOpen
namespace Go.Proofs.Ythaipnjnkkdfbaa
open Go.RowKit
open Go.ChangeShapes Go.WideShapes Go.ChangeAt
set_option linter.unusedSimpArgs false
theorem By.len {w : World} {v : Value} {xs : List Nat} (h : By w v xs) : ∃ a c, v = .slice a xs.length c := by
  obtain ⟨a, c, e, _⟩ := h
  exact ⟨a, c, e⟩
theorem Ob.form {w : World} {B : Nat} {v : Value} {xs : List Nat} (h : Ob w B v xs) (hp : 0 < xs.length) : ∃ g c, v = .slice (some ⟨g, 0, none⟩) xs.length c ∧ B ≤ g := by
  rcases h.2 with ⟨e, e2⟩ | ⟨g, cap, cur, e, hB, _⟩
  · omega
  · exact ⟨g, cap, e, hB⟩
theorem Try.bytesU8 : Try.prog.bytesOf 5 = 1 := by kernel_rfl
theorem len_of_trod {H : Type} {enc : TypeId × Value → H} {w : World} {base : Nat} {spare : Nat → Bool} {held : Bool} {fuel n c : Nat} {a : Option Addr} {x : DataW H × List MemPlace} (h : DataW.trod enc Try.prog w base spare held fuel 22 [.slice a n c] = some x) : (x.1 = .nil ∧ n = 0) ∨ ∃ es sp, x.1 = .slice es sp ∧ es.length = n := by
  rcases open_ints Try.uBytes Try.uU8 Try.cellsU8 h with ⟨hcs, hx⟩ | ⟨a', len, cap, zs, hcs, _, hl, hm, hz, hx, hcell, hwz⟩
  · left
    simp only [List.cons.injEq, Value.slice.injEq, and_true] at hcs
    exact ⟨by rw [hx], hcs.2.1⟩
  · right
    simp only [List.cons.injEq, Value.slice.injEq, and_true] at hcs
    obtain ⟨_, rfl, rfl⟩ := hcs
    refine ⟨_, _, by rw [hx], ?_⟩
    simp only [lits, List.length_map, List.length_take, hz]
    split <;> omega
theorem hashPads_eq {p q : List Nat} (hp : p.length ≤ 140737488351232) (hq : q.length ≤ 140737488351232) : decide (p ++ padS p.length = q ++ padS q.length) = decide (p = q) := by
  by_cases h : p = q
  · subst h; simp
  · rw [decide_eq_false h, decide_eq_false]
    exact fun e => h (pads_one (by omega) (by omega) e)
set_option maxRecDepth 20000 in
set_option maxHeartbeats 4000000 in
theorem hashPads_law (v1 : Value) (p : List Nat) (lp : lowB p) (zp : p.length ≤ 140737488351232) (v2 : Value) (q : List Nat) (lq : lowB q) (zq : q.length ≤ 140737488351232) (w : World) (h1 : By w v1 p) (h2 : By w v2 q) :
    Calls Try.prog 3 #[v1, v2] w fun e w' => e = .returned (.bool true) ∧ Below w.heap.size w w' := by
  obtain ⟨a1, c1, rfl⟩ := h1.len
  obtain ⟨a2, c2, rfl⟩ := h2.len
  have HP : Hid (By w _ p) := h1
  have HQ : Hid (By w _ q) := h2
  have HE : Hid _ := hashPads_eq zp zq
  have LP : Hid (lowB p) := lp
  have LQ : Hid (lowB q) := lq
  have PA : Hid _ := pad_fun p.length
  have PB : Hid _ := pad_fun q.length
  have F1 : Hid _ := padS_fills p.length
  have L1 : (padS p.length).length = padZ p.length + 9 := padS_length _
  have L2 : (padS q.length).length = padZ q.length + 9 := padS_length _
  have z1 := padZ_lt p.length
  have z2 := padZ_lt q.length
  have H0 : Hid _ := padS_head p.length
  have G1 : Hid _ := padS_low p.length
  have G2 : Hid _ := padS_low q.length
  clear h1 h2 lp lq
  generalize padS p.length = x at *
  generalize padS q.length = y at *
  generalize hm : p.length = m at *
  generalize hn : q.length = n at *
  go_enter Try.func3, Try.ntmps3
  go_wp2_with fail
  refine (PA.out _).mono ?_
  rintro e w1 ⟨⟨v3, rfl, ob1⟩, hb1⟩
  obtain ⟨g1, d1, rfl, _⟩ := ob1.form (by omega)
  obtain ⟨k0, f0⟩ := ob1.cell rfl 0 (by omega)
  rw [H0.out] at k0
  have O1 : Hid (Ob w1 w.heap.size _ x) := ob1
  have B1 : Hid (Below w.heap.size w w1) := hb1
  clear ob1 hb1
  go_wp2_with fail
  refine (PB.out _).mono ?_
  rintro e w2 ⟨⟨v4, rfl, ob2⟩, hb2⟩
  obtain ⟨g2, d2, rfl, _⟩ := ob2.form (by omega)
  have k1 := (hb2.cell (p := ⟨g1, 0, none⟩) (lt_of_cellB k0)).trans k0
  have X2 : Hid (By w2 _ x) := O1.out.by.up hb2 (Nat.le_refl _)
  have Y2 : Hid (By w2 _ y) := ob2.by
  have P2 : Hid (By w2 _ p) := (HP.out.up B1.out (Nat.le_refl _)).up hb2 (Nat.le_refl _)
  have Q2 : Hid (By w2 _ q) := (HQ.out.up B1.out (Nat.le_refl _)).up hb2 (Nat.le_refl _)
  have B2 : Hid (Below w.heap.size w w2) := B1.out.trans (hb2.mono B1.out.size)
  clear ob2 hb2 O1 B1 k0 f0 HP HQ PA PB H0
  have t0 : ((m : Int) + ((padZ m + 9 : Nat) : Int)) % 64 = 0 := by have := F1.out; rw [L1] at this; omega
  have t0' : ((m : Int) + (((padZ m : Nat) : Int) + 9)) % 64 = 0 := by have := F1.out; rw [L1] at this; omega
  have E1 : Hid (x.length = padZ m + 9) := L1
  have E2 : Hid (y.length = padZ n + 9) := L2
  rw [L1] at X2
  rw [L2] at Y2 ⊢
  clear F1 L1 L2
  generalize padZ m = zz at *
  generalize padZ n = zy at *
  have EP : Hid (p.length = m) := hm
  have EQ : Hid (q.length = n) := hn
  clear hm hn
  go_wp2_with (refine wp_appB rfl (.tmp 40) (.tmp 41) rfl w2.heap.size _ _ [] p w2 rfl (Ob.nil _ _) (Below.refl _ _) rfl P2.out (by have := EP.out; simp; omega) (Nat.le_refl _) ?_)
  intro v5 w3 ob3 _ hb3
  have O3 : Hid (Ob w3 w2.heap.size v5 p) := ob3
  have B3 : Hid (Below w2.heap.size w2 w3) := hb3
  clear ob3 hb3
  go_wp2_with (refine wp_appB rfl (.tmp 42) (.tmp 43) rfl w2.heap.size _ _ p x w3 rfl O3.out (Below.refl _ _) rfl (X2.out.up B3.out (Nat.le_refl _)) (by have := EP.out; have := E1.out; omega) B3.out.size ?_)
  intro v6 w4 ob4 _ hb4
  have O4 : Hid (Ob w4 w2.heap.size v6 (p ++ x)) := ob4
  have B4 : Hid (Below w2.heap.size w2 w4) := B3.out.trans hb4
  clear ob4 hb4 O3 B3
  have Q4 : Hid (By w4 _ q) := Q2.out.up B4.out (Nat.le_refl _)
  go_wp2_with (refine wp_appB rfl (.tmp 45) (.tmp 46) rfl w4.heap.size _ _ [] q w4 rfl (Ob.nil _ _) (Below.refl _ _) rfl Q4.out (by have := EQ.out; simp; omega) (Nat.le_refl _) ?_)
  intro v7 w5 ob5 _ hb5
  have O5 : Hid (Ob w5 w4.heap.size v7 q) := ob5
  have B5 : Hid (Below w4.heap.size w4 w5) := hb5
  clear ob5 hb5
  have Y5 : Hid (By w5 _ y) := (Y2.out.up B4.out (Nat.le_refl _)).up B5.out (Nat.le_refl _)
  go_wp2_with (refine wp_appB rfl (.tmp 47) (.tmp 48) rfl w4.heap.size _ _ q y w5 rfl O5.out (Below.refl _ _) rfl Y5.out (by have := EQ.out; have := E2.out; omega) B5.out.size ?_)
  intro v8 w6 ob6 _ hb6
  have B6 : Hid (Below w4.heap.size w4 w6) := B5.out.trans hb6
  have Z6 : Hid (By w6 v8 (q ++ y)) := ob6.by
  have A6 : Hid (By w6 v6 (p ++ x)) := O4.out.by.up B6.out (Nat.le_refl _)
  have P6 : Hid (By w6 _ p) := (P2.out.up B4.out (Nat.le_refl _)).up B6.out (Nat.le_refl _)
  have Q6 : Hid (By w6 _ q) := Q4.out.up B6.out (Nat.le_refl _)
  have C6 : Hid (Below w.heap.size w w6) := (B2.out.trans (B4.out.mono B2.out.size)).trans (B6.out.mono (Nat.le_trans B2.out.size B4.out.size))
  clear ob6 hb6 O5 B5 Y5 O4 B4 B6 Q4 Y2 X2 P2 Q2 B2
  go_wp2_with fail
  refine (equal_fun _ _ _ _ (fun z hz => (List.mem_append.1 hz).elim (LP.out z) (G1.out z)) (fun z hz => (List.mem_append.1 hz).elim (LQ.out z) (G2.out z)) _ A6.out Z6.out).mono ?_
  rintro e w7 ⟨rfl, hb7⟩
  rw [HE.out]
  have P7 : Hid (By w7 _ p) := P6.out.up hb7 (Nat.le_refl _)
  have Q7 : Hid (By w7 _ q) := Q6.out.up hb7 (Nat.le_refl _)
  have C7 : Hid (Below w.heap.size w w7) := C6.out.trans (hb7.mono C6.out.size)
  clear hb7 P6 Q6 C6 A6 Z6 HE
  go_wp2_with fail
  refine (equal_fun _ _ _ _ LP.out LQ.out _ P7.out Q7.out).mono ?_
  rintro e w8 ⟨rfl, hb8⟩
  have C8 : Hid (Below w.heap.size w w8) := C7.out.trans (hb8.mono C7.out.size)
  clear hb8 P7 Q7 C7
  generalize decide (p = q) = b
  cases b
  · go_wp2_with fail
    go_ret
    exact ⟨rfl, C8.out⟩
  · go_wp2_with fail
    go_ret
    exact ⟨rfl, C8.out⟩
set_option maxRecDepth 100000 in
theorem hashPads_lifted (os : Os) (started : os.Started) (H : Type) (enc : TypeId × Value → H) :
    ReturnsInHanded {} Try.checked os 3 .any (Rows.hashPadsSpec.pre6 enc Try.prog Try.f3 Rows.hashPadsRow.domain false) (Rows.hashPadsSpec.post enc Try.prog Try.f3 false true false false) := by
  refine returnsInHanded_of_change_sized (C := Try.checked) Try.own started (by kernel_rfl) Try.func3
    (ChangeSpec.witness6 (enc := enc) (C := Try.checked) false ⟨#[], #[.slice none 0 0, .slice none 0 0], []⟩ 8 (by kernel_rfl) (by kernel_rfl) (by kernel_rfl) (by kernel_rfl)) ?_
  intro W base args ds gs before hval0 hW hcnd hsz0 _
  have hsz : (DataW.weightsEach Try.prog (Try.f3.params.toList ++ Rows.hashPadsSpec.plain.varTypes Try.prog) (ds ++ gs)).all (· ≤ reachBytes) = true := hsz0
  have hval : ∀ (j : Nat) t v, Try.f3.params[j]? = some t → args[j]? = some v → Value.okWide Try.prog W .any base t v := hval0
  have hW' := hW
  obtain ⟨p, q, hA0, hV, rfl, hfz, hnd⟩ := hW
  have hA : DataW.TrodAll enc Try.prog W 0 (fun _ => true) true Try.f3.params.toList args.toList ds p := hA0
  rw [Try.params3] at hA hval hsz
  obtain ⟨v0, v1, d0, d1, p0, p1, rfl, rfl, rfl, h0, h1⟩ := trodAll_two hA
  obtain ⟨rfl, rfl⟩ := trodVars_none hV
  simp only [List.append_nil] at hW'
  have hlt : ∀ x ∈ p0 ++ p1, x.block < W.heap.size := fun x hx => by simpa using hW'.lt x (by simpa using hx)
  have hk0 : ∀ W' : World, Below W.heap.size W W' → DataW.Trod enc Try.prog W' 0 (fun b => decide (b < W.heap.size)) true 22 v0 d0 p0 := fun W' hn => Below.trod Try.laidOut (by kernel_rfl) (of_decide_eq_true (by kernel_rfl)) h0 hn (fun x hx => hlt x (by simp [hx]))
  obtain ⟨a0, n0, c0, rfl⟩ := okWide_slice Try.uBytes (hval 0 22 v0 rfl rfl)
  obtain ⟨fuel0, hf0⟩ := h0
  obtain ⟨l0, low0, hI0, len0⟩ := by_of_trod (u := .slice a0 n0 c0) (by simpa [Value.cells] using hf0)
  have z0 : l0.length ≤ 140737488351232 := by
    obtain ⟨a', c', e, _⟩ := hI0
    have en : n0 = l0.length := by cases e; rfl
    rw [← en]
    rcases len_of_trod (by simpa [Value.cells] using hf0) with ⟨_, h⟩ | ⟨es, sp, hd, h⟩
    · omega
    · simp only at hd
      subst hd
      have := sized_slice hsz (j := 0) (t := 22) (e := 5) rfl rfl Try.uBytes
      rw [Try.bytesU8] at this
      simp only [reachBytes] at this
      omega
  have hk1 : ∀ W' : World, Below W.heap.size W W' → DataW.Trod enc Try.prog W' 0 (fun b => decide (b < W.heap.size)) true 22 v1 d1 p1 := fun W' hn => Below.trod Try.laidOut (by kernel_rfl) (of_decide_eq_true (by kernel_rfl)) h1 hn (fun x hx => hlt x (by simp [hx]))
  obtain ⟨a1, n1, c1, rfl⟩ := okWide_slice Try.uBytes (hval 1 22 v1 rfl rfl)
  obtain ⟨fuel1, hf1⟩ := h1
  obtain ⟨l1, low1, hI1, len1⟩ := by_of_trod (u := .slice a1 n1 c1) (by simpa [Value.cells] using hf1)
  have z1 : l1.length ≤ 140737488351232 := by
    obtain ⟨a', c', e, _⟩ := hI1
    have en : n1 = l1.length := by cases e; rfl
    rw [← en]
    rcases len_of_trod (by simpa [Value.cells] using hf1) with ⟨_, h⟩ | ⟨es, sp, hd, h⟩
    · omega
    · simp only at hd
      subst hd
      have := sized_slice hsz (j := 1) (t := 22) (e := 5) rfl rfl Try.uBytes
      rw [Try.bytesU8] at this
      simp only [reachBytes] at this
      omega
  refine (hashPads_law _ l0 low0 z0 _ l1 low1 z1 W hI0 hI1).mono fun e W' ⟨he, hg⟩ => ?_
  subst he
  exact ⟨_, rfl, _, _, _, [], _, [], hW', trodAll_mk1 (shut_bool Try.underlying4 _), trodAll_mk2 (hk0 _ hg) (hk1 _ hg), rfl, hg.frame _, fun h => by cases h⟩

theorem hashPads_holds : Rows.HashPadsSaid :=
  OpenClaim.holds_of_wide 3 Try.f3 rfl rfl rfl rfl rfl rfl rfl ⟨rfl, rfl, rfl, rfl, rfl⟩ rfl rfl rfl rfl rfl (by kernel_rfl) Try.func3 (by kernel_rfl)
    (of_decide_eq_true (by kernel_rfl)) (by unfold Func.isWrapper; first | (rw [if_pos (by decide +kernel)]; kernel_rfl) | (rw [if_neg (by decide +kernel)]; exact ⟨rfl, rfl⟩))
    (fun os started H enc _ => hashPads_lifted os started H enc)
#print axioms hashPads_holds
end Go.Proofs.Ythaipnjnkkdfbaa
