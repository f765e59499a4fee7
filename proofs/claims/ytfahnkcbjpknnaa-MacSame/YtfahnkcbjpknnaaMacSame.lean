/- MacSame returns true for every two slices of bytes. -/
import Derived.Test.YtfahnkcbjpknnaaMSame
import Derived.Test.YtfahnkcbjpknnaaHOpen
namespace Go.Proofs.Ytfahnkcbjpknnaa
open Go.RowKit
open Go.ChangeShapes Go.WideShapes Go.ChangeAt
set_option linter.unusedSimpArgs false
theorem Try.bytesU8 : Try.prog.bytesOf 5 = 1 := by kernel_rfl
theorem len_of_trod {H : Type} {enc : TypeId × Value → H} {w : World} {base : Nat} {spare : Nat → Bool} {held : Bool} {fuel n c : Nat} {a : Option Addr} {x : DataW H × List MemPlace} (h : DataW.trod enc Try.prog w base spare held fuel 22 [.slice a n c] = some x) : (x.1 = .nil ∧ n = 0) ∨ ∃ es sp, x.1 = .slice es sp ∧ es.length = n := by
  rcases open_ints Try.uBytes Try.uU8 Try.cellsU8 h with ⟨hcs, hx⟩ | ⟨a', len, cap, zs, hcs, _, hl, hm, hz, hx, hcell, hwz⟩
  · left
    simp only [List.cons.injEq, Value.slice.injEq, and_true] at hcs
    exact ⟨by rw [hx], hcs.2.1⟩
  · right
    simp only [List.cons.injEq, Value.slice.injEq, and_true] at hcs
    obtain ⟨_, rfl, rfl⟩ := hcs
    refine ⟨_, _, by rw [hx], ?_⟩
    simp only [lits, List.length_map, List.length_take, hz]
    split <;> omega
/-- Alike so far. -/
def alB (xs ys : List Nat) (k : Nat) : Bool := decide (xs.length = ys.length) && decide (apS xs ys k = 0)
theorem alB_on (xs ys : List Nat) (k : Nat) : alB xs ys (k + 1) = (alB xs ys k && decide (xs.getD k 0 = ys.getD k 0)) := by
  unfold alB
  rw [Bool.and_assoc, apS]
  congr 1
  rw [← Bool.decide_and]
  exact decide_eq_decide.2 (by rw [or_zero, xor_zero])
theorem alB_end (xs ys : List Nat) (m : Nat) (h3 : m = xs.length ∨ m = ys.length) : alB xs ys m = decide (xs = ys) := by
  rw [← same_end xs ys m h3, alB, Bool.and_comm]
set_option maxRecDepth 20000 in
set_option maxHeartbeats 4000000 in
theorem macSame_law (u : Value) (xs : List Nat) (hx : lowB xs) (lx : xs.length ≤ 140737488351232) (v : Value) (ys : List Nat) (hy : lowB ys) (ly : ys.length ≤ 140737488351232) (w : World) (hu : By w u xs) (hv : By w v ys) :
    Calls Try.prog 3 #[u, v] w fun e w' => e = .returned (.bool true) ∧ Below w.heap.size w w' := by
  obtain ⟨a, c, rfl, _, _, h3⟩ := id hu
  obtain ⟨a', c', rfl, _, _, h3'⟩ := id hv
  have HU : Hid (By w _ xs) := hu
  have HV : Hid (By w _ ys) := hv
  have H3 : Hid _ := h3
  have H3' : Hid _ := h3'
  have HX : Hid (∀ x ∈ xs, x < 256) := hx
  have HY : Hid (∀ x ∈ ys, x < 256) := hy
  have A0 : Hid (((xs.length : Int) == (ys.length : Int)) = alB xs ys 0) := by
    show ((xs.length : Int) == (ys.length : Int)) = alB xs ys 0
    rw [int_beq, alB, apS]
    simp
  clear hu hv h3 h3' hx hy
  generalize hn : xs.length = n at *
  generalize hn' : ys.length = n' at *
  go_enter Try.func3, Try.ntmps3
  go_wp2_with fail
  rw [A0.out]
  go_loopw [5, 6] (fun x i wr => ∃ k : Nat, k ≤ n ∧ k ≤ n' ∧ i = .int .i64 k ∧ x = .bool (alB xs ys k) ∧ Hid (Below w.heap.size w wr)) (fun _ i _ => n - (intOf i).toNat)
  case atStart => exact ⟨0, by omega, by omega, rfl, rfl, Below.refl _ _⟩
  case round =>
    obtain ⟨k, hk, hk', rfl, rfl, hb⟩ := hrel
    by_cases hlt : k < n
    · have i1 : (k : Int) < (n : Int) := by omega
      by_cases hlt' : k < n'
      · have i2 : (k : Int) < (n' : Int) := by omega
        obtain ⟨b, o, rfl, hc⟩ := H3.out (by omega)
        obtain ⟨b', o', rfl, hc'⟩ := H3'.out (by omega)
        have q1 := (hb.out.cell (p := ⟨b, o + k, none⟩) (lt_of_cellB (hc k (by omega)))).trans (hc k (by omega))
        have q2 := (hb.out.cell (p := ⟨b', o' + k, none⟩) (lt_of_cellB (hc' k (by omega)))).trans (hc' k (by omega))
        have ON : Hid _ := alB_on xs ys k
        rw [← int_beq] at ON
        clear hc hc' H3 H3' A0
        generalize alB xs ys k = bl at *
        generalize xs.getD k 0 = x1 at *
        generalize ys.getD k 0 = y1 at *
        cases bl
        · rw [Bool.false_and] at ON
          go_wp2_with fail
          go_region
          go_wp2_with fail
          go_roundw
          case rel => exact ⟨k + 1, by omega, by omega, by go_num, by rw [ON.out], hb.out.drew⟩
          case measure => simp [intOf]; omega
        · rw [Bool.true_and] at ON
          go_wp2_with fail
          go_region
          rw [← ON.out]
          go_wp2_with fail
          go_roundw
          case rel => exact ⟨k + 1, by omega, by omega, by go_num, rfl, hb.out.drew⟩
          case measure => simp [intOf]; omega
      · have i2 : ¬ (k : Int) < (n' : Int) := by omega
        have SE : Hid _ := alB_end xs ys k (by omega)
        rw [SE.out]
        go_wp2_with fail
        refine (msame_fun _ _ xs ys HX.out HY.out (by omega) (by omega) wr (HU.out.up hb.out (Nat.le_refl _)) (HV.out.up hb.out (Nat.le_refl _))).mono ?_
        rintro e w1 ⟨rfl, h1⟩
        have D1 : Hid (Below w.heap.size w w1) := hb.out.trans (h1.mono hb.out.size)
        clear h1
        have SC : Hid (decide (ys = xs) = decide (xs = ys)) := decide_eq_decide.2 eq_comm
        have M2 : Hid _ := msame_fun _ _ ys xs HY.out HX.out (by omega) (by omega) w1 (HV.out.up D1.out (Nat.le_refl _)) (HU.out.up D1.out (Nat.le_refl _))
        have M3 : Hid (∀ w2, Below w.heap.size w w2 → _) := fun w2 D2 => msame_fun _ _ xs xs HX.out HX.out (by omega) (by omega) w2 (HU.out.up D2 (Nat.le_refl _)) (HU.out.up D2 (Nat.le_refl _))
        have S1 : Hid (decide (xs = xs) = true) := decide_eq_true rfl
        rw [SC.out] at M2
        rw [S1.out] at M3
        clear HU HV HX HY SE SC S1
        generalize decide (xs = ys) = bl at *
        cases bl
        · go_wp2_with fail
          refine Calls.mono M2.out ?_
          rintro e w2 ⟨rfl, h2⟩
          have D2 : Hid (Below w.heap.size w w2) := D1.out.trans (h2.mono D1.out.size)
          clear h2
          go_wp2_with fail
          refine Calls.mono (M3.out w2 D2.out) ?_
          rintro e w3 ⟨rfl, h3⟩
          have D3 : Hid (Below w.heap.size w w3) := D2.out.trans (h3.mono D2.out.size)
          clear h3
          go_wp2_with fail
          go_ret
          exact ⟨rfl, D3.out⟩
        · go_wp2_with fail
          refine Calls.mono M2.out ?_
          rintro e w2 ⟨rfl, h2⟩
          have D2 : Hid (Below w.heap.size w w2) := D1.out.trans (h2.mono D1.out.size)
          clear h2
          go_wp2_with fail
          refine Calls.mono (M3.out w2 D2.out) ?_
          rintro e w3 ⟨rfl, h3⟩
          have D3 : Hid (Below w.heap.size w w3) := D2.out.trans (h3.mono D2.out.size)
          clear h3
          go_wp2_with fail
          go_ret
          exact ⟨rfl, D3.out⟩
    · have i1 : ¬ (k : Int) < (n : Int) := by omega
      have SE : Hid _ := alB_end xs ys k (by omega)
      rw [SE.out]
      go_wp2_with fail
      refine (msame_fun _ _ xs ys HX.out HY.out (by omega) (by omega) wr (HU.out.up hb.out (Nat.le_refl _)) (HV.out.up hb.out (Nat.le_refl _))).mono ?_
      rintro e w1 ⟨rfl, h1⟩
      have D1 : Hid (Below w.heap.size w w1) := hb.out.trans (h1.mono hb.out.size)
      clear h1
      have SC : Hid (decide (ys = xs) = decide (xs = ys)) := decide_eq_decide.2 eq_comm
      have M2 : Hid _ := msame_fun _ _ ys xs HY.out HX.out (by omega) (by omega) w1 (HV.out.up D1.out (Nat.le_refl _)) (HU.out.up D1.out (Nat.le_refl _))
      have M3 : Hid (∀ w2, Below w.heap.size w w2 → _) := fun w2 D2 => msame_fun _ _ xs xs HX.out HX.out (by omega) (by omega) w2 (HU.out.up D2 (Nat.le_refl _)) (HU.out.up D2 (Nat.le_refl _))
      have S1 : Hid (decide (xs = xs) = true) := decide_eq_true rfl
      rw [SC.out] at M2
      rw [S1.out] at M3
      clear HU HV HX HY SE SC S1
      generalize decide (xs = ys) = bl at *
      cases bl
      · go_wp2_with fail
        refine Calls.mono M2.out ?_
        rintro e w2 ⟨rfl, h2⟩
        have D2 : Hid (Below w.heap.size w w2) := D1.out.trans (h2.mono D1.out.size)
        clear h2
        go_wp2_with fail
        refine Calls.mono (M3.out w2 D2.out) ?_
        rintro e w3 ⟨rfl, h3⟩
        have D3 : Hid (Below w.heap.size w w3) := D2.out.trans (h3.mono D2.out.size)
        clear h3
        go_wp2_with fail
        go_ret
        exact ⟨rfl, D3.out⟩
      · go_wp2_with fail
        refine Calls.mono M2.out ?_
        rintro e w2 ⟨rfl, h2⟩
        have D2 : Hid (Below w.heap.size w w2) := D1.out.trans (h2.mono D1.out.size)
        clear h2
        go_wp2_with fail
        refine Calls.mono (M3.out w2 D2.out) ?_
        rintro e w3 ⟨rfl, h3⟩
        have D3 : Hid (Below w.heap.size w w3) := D2.out.trans (h3.mono D2.out.size)
        clear h3
        go_wp2_with fail
        go_ret
        exact ⟨rfl, D3.out⟩
set_option maxRecDepth 100000 in
theorem macSame_lifted (os : Os) (started : os.Started) (H : Type) (enc : TypeId × Value → H) :
    ReturnsInHanded {} Try.checked os 3 .any (Rows.macSameSpec.pre6 enc Try.prog Try.f3 Rows.macSameRow.domain false) (Rows.macSameSpec.post enc Try.prog Try.f3 false true false false) := by
  refine returnsInHanded_of_change_sized (C := Try.checked) Try.own started (by kernel_rfl) Try.func3
    (ChangeSpec.witness6 (enc := enc) (C := Try.checked) false ⟨#[], #[.slice none 0 0, .slice none 0 0], []⟩ 8 (by kernel_rfl) (by kernel_rfl) (by kernel_rfl) (by kernel_rfl)) ?_
  intro W base args ds gs before hval0 hW hcnd hsz0 _
  have hsz : (DataW.weightsEach Try.prog (Try.f3.params.toList ++ Rows.macSameSpec.plain.varTypes Try.prog) (ds ++ gs)).all (· ≤ reachBytes) = true := hsz0
  have hval : ∀ (j : Nat) t v, Try.f3.params[j]? = some t → args[j]? = some v → Value.okWide Try.prog W .any base t v := hval0
  have hW' := hW
  obtain ⟨p, q, hA0, hV, rfl, hfz, hnd⟩ := hW
  have hA : DataW.TrodAll enc Try.prog W 0 (fun _ => true) true Try.f3.params.toList args.toList ds p := hA0
  rw [Try.params3] at hA hval hsz
  obtain ⟨v0, v1, d0, d1, p0, p1, rfl, rfl, rfl, h0, h1⟩ := trodAll_two hA
  obtain ⟨rfl, rfl⟩ := trodVars_none hV
  simp only [List.append_nil] at hW'
  have hlt : ∀ x ∈ p0 ++ p1, x.block < W.heap.size := fun x hx => by simpa using hW'.lt x (by simpa using hx)
  have hk0 : ∀ W' : World, Below W.heap.size W W' → DataW.Trod enc Try.prog W' 0 (fun b => decide (b < W.heap.size)) true 22 v0 d0 p0 := fun W' hn => Below.trod Try.laidOut (by kernel_rfl) (of_decide_eq_true (by kernel_rfl)) h0 hn (fun x hx => hlt x (by simp [hx]))
  obtain ⟨a0, n0, c0, rfl⟩ := okWide_slice Try.uBytes (hval 0 22 v0 rfl rfl)
  obtain ⟨fuel0, hf0⟩ := h0
  obtain ⟨l0, low0, hI0, len0⟩ := by_of_trod (u := .slice a0 n0 c0) (by simpa [Value.cells] using hf0)
  have z0 : l0.length ≤ 140737488351232 := by
    obtain ⟨a', c', e, _⟩ := hI0
    have en : n0 = l0.length := by cases e; rfl
    rw [← en]
    rcases len_of_trod (by simpa [Value.cells] using hf0) with ⟨_, h⟩ | ⟨es, sp, hd, h⟩
    · omega
    · simp only at hd
      subst hd
      have := sized_slice hsz (j := 0) (t := 22) (e := 5) rfl rfl Try.uBytes
      rw [Try.bytesU8] at this
      simp only [reachBytes] at this
      omega
  have hk1 : ∀ W' : World, Below W.heap.size W W' → DataW.Trod enc Try.prog W' 0 (fun b => decide (b < W.heap.size)) true 22 v1 d1 p1 := fun W' hn => Below.trod Try.laidOut (by kernel_rfl) (of_decide_eq_true (by kernel_rfl)) h1 hn (fun x hx => hlt x (by simp [hx]))
  obtain ⟨a1, n1, c1, rfl⟩ := okWide_slice Try.uBytes (hval 1 22 v1 rfl rfl)
  obtain ⟨fuel1, hf1⟩ := h1
  obtain ⟨l1, low1, hI1, len1⟩ := by_of_trod (u := .slice a1 n1 c1) (by simpa [Value.cells] using hf1)
  have z1 : l1.length ≤ 140737488351232 := by
    obtain ⟨a', c', e, _⟩ := hI1
    have en : n1 = l1.length := by cases e; rfl
    rw [← en]
    rcases len_of_trod (by simpa [Value.cells] using hf1) with ⟨_, h⟩ | ⟨es, sp, hd, h⟩
    · omega
    · simp only at hd
      subst hd
      have := sized_slice hsz (j := 1) (t := 22) (e := 5) rfl rfl Try.uBytes
      rw [Try.bytesU8] at this
      simp only [reachBytes] at this
      omega
  refine (macSame_law _ l0 low0 z0 _ l1 low1 z1 W hI0 hI1).mono fun e W' ⟨he, hg⟩ => ?_
  subst he
  exact ⟨_, rfl, _, _, _, [], _, [], hW', trodAll_mk1 (shut_bool Try.underlying4 _), trodAll_mk2 (hk0 _ hg) (hk1 _ hg), rfl, hg.frame _, fun h => by cases h⟩

theorem macSame_holds : Rows.MacSameSaid :=
  OpenClaim.holds_of_wide 3 Try.f3 rfl rfl rfl rfl rfl rfl rfl ⟨rfl, rfl, rfl, rfl, rfl⟩ rfl rfl rfl rfl rfl (by kernel_rfl) Try.func3 (by kernel_rfl)
    (of_decide_eq_true (by kernel_rfl)) (by unfold Func.isWrapper; first | (rw [if_pos (by decide +kernel)]; kernel_rfl) | (rw [if_neg (by decide +kernel)]; exact ⟨rfl, rfl⟩))
    (fun os started H enc _ => macSame_lifted os started H enc)
#print axioms macSame_holds
end Go.Proofs.Ytfahnkcbjpknnaa
