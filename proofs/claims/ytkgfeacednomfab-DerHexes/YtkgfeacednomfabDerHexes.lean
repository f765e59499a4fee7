/- DerHexes returns true for every slice of bytes and every text: what is told in signs is read as it was, and there is one text of it. -/
import Derived.Test.YtkgfeacednomfabHexR
import Derived.Test.YtkgfeacednomfabSame
import Derived.Test.YtkgfeacednomfabOpenI
import Derived.SizedLaws
import Derived.ShutString
import Derived.ChangeMaps5
namespace Go.Proofs.Ytkgfeacednomfab
open Go.RowKit
open Go.ChangeShapes Go.WideShapes Go.ChangeAt Go.ChangeMaps
set_option linter.unusedSimpArgs false
theorem Try.bytesU8 : Try.prog.bytesOf 5 = 1 := by kernel_rfl
theorem len_of_trod {H : Type} {enc : TypeId × Value → H} {w : World} {base : Nat} {spare : Nat → Bool} {held : Bool} {fuel n c : Nat} {a : Option Addr} {x : DataW H × List MemPlace} (h : DataW.trod enc Try.prog w base spare held fuel 22 [.slice a n c] = some x) : (x.1 = .nil ∧ n = 0) ∨ ∃ es sp, x.1 = .slice es sp ∧ es.length = n := by
  rcases open_ints Try.uBytes Try.uU8 Try.cellsU8 h with ⟨hcs, hx⟩ | ⟨a', len, cap, zs, hcs, _, hl, hm, hz, hx, hcell, hwz⟩
  · left
    simp only [List.cons.injEq, Value.slice.injEq, and_true] at hcs
    exact ⟨by rw [hx], hcs.2.1⟩
  · right
    simp only [List.cons.injEq, Value.slice.injEq, and_true] at hcs
    obtain ⟨_, rfl, rfl⟩ := hcs
    refine ⟨_, _, by rw [hx], ?_⟩
    simp only [lits, List.length_map, List.length_take, hz]
    split <;> omega
set_option maxRecDepth 20000 in
set_option maxHeartbeats 4000000 in
theorem derHexes_law (v : Value) (b : List Nat) (lo : lowB b) (hl : b.length ≤ 140737488351232) (s : ByteArray) (hs : s.size ≤ 140737488351232) (w : World) (h : By w v b) :
    Calls Try.prog 8 #[v, .string s] w fun e w' => e = .returned (.bool true) ∧ Below w.heap.size w w' := by
  obtain ⟨cs, lc, rfl⟩ := sOf_all s
  rw [sOf_size] at hs
  obtain ⟨av, cv, rfl, _⟩ := id h
  have H : Hid (By w _ b) := h
  have LO : Hid (∀ x ∈ b, x < 256) := lo
  have LC : Hid (∀ x ∈ cs, x < 256) := lc
  have HL : Hid (∀ x ∈ hexS b, x < 256) := hexS_low lo
  have sz : (sOf (hexS b)).size = 2 * b.length := by rw [sOf_size, hexS_len]
  have n0 : (0 : Int) ≤ (b.length : Int) := by omega
  have n1 : (b.length : Int) ≤ 140737488351232 := by omega
  clear h lo lc
  go_enter Try.func8, Try.ntmps8
  go_wp2_with fail
  refine (hex_fun _ b LO.out hl w H.out).mono ?_
  rintro e w1 ⟨rfl, hb⟩
  have B1 : Hid (Below w.heap.size w w1) := hb
  clear hb
  go_wp2_with fail
  refine (readHex_fun (hexS b) HL.out (by rw [hexS_len]; omega) w1).mono ?_
  rintro e w2 ⟨he, hb⟩
  have B2 : Hid (Below w.heap.size w w2) := B1.out.trans (hb.mono B1.out.size)
  clear hb B1
  rcases he with ⟨u, bs, rfl, hu, lbs, ebs⟩ | ⟨hno, _⟩
  · obtain rfl : bs = b := hexS_inj lbs LO.out ebs
    have U : Hid (By w2 u bs) := hu
    clear hu lbs ebs
    go_wp2_with fail
    refine (readHex_fun cs LC.out (by omega) w2).mono ?_
    rintro e w3 ⟨he, hb⟩
    have B3 : Hid (Below w.heap.size w w3) := B2.out.trans (hb.mono B2.out.size)
    have U3 : Hid (By w3 u bs) := U.out.up hb (Nat.le_refl _)
    clear hb B2 U
    rcases he with ⟨u2, ds, rfl, hu2, lds, eds⟩ | ⟨_, rfl⟩
    · have ld : ds.length ≤ 140737488351232 := by
        have := congrArg List.length eds
        rw [hexS_len] at this
        omega
      have D3 : Hid (By w3 u2 ds) := hu2
      have LD : Hid (∀ x ∈ ds, x < 256) := lds
      have ED : Hid (hexS ds = cs) := eds
      clear hu2 lds eds
      go_wp2_with fail
      refine (equal_fun _ u bs bs LO.out LO.out w3 (H.out.up B3.out (Nat.le_refl _)) U3.out).mono ?_
      rintro e w4 ⟨rfl, hb⟩
      rw [show decide (bs = bs) = true by simp]
      have B4 : Hid (Below w.heap.size w w4) := B3.out.trans (hb.mono B3.out.size)
      have D4 : Hid (Below w3.heap.size w3 w4) := hb
      clear hb
      go_wp2_with fail
      refine (hex_fun _ bs LO.out hl w4 (H.out.up B4.out (Nat.le_refl _))).mono ?_
      rintro e w5 ⟨rfl, hb⟩
      have B5 : Hid (Below w.heap.size w w5) := B4.out.trans (hb.mono B4.out.size)
      have D5 : Hid (Below w3.heap.size w3 w5) := D4.out.trans (hb.mono D4.out.size)
      clear hb B4 D4 B3
      go_wp2_with fail
      refine (hex_fun u2 ds LD.out ld w5 (D3.out.up D5.out (Nat.le_refl _))).mono ?_
      rintro e w6 ⟨rfl, hb⟩
      have B6 : Hid (Below w.heap.size w w6) := B5.out.trans (hb.mono B5.out.size)
      rw [ED.out]
      clear hb
      go_wp2_with fail
      go_ret
      exact ⟨rfl, B6.out⟩
    · go_wp2_with fail
      refine (equal_fun _ u bs bs LO.out LO.out w3 (H.out.up B3.out (Nat.le_refl _)) U3.out).mono ?_
      rintro e w4 ⟨rfl, hb⟩
      rw [show decide (bs = bs) = true by simp]
      have B4 : Hid (Below w.heap.size w w4) := B3.out.trans (hb.mono B3.out.size)
      have D4 : Hid (Below w3.heap.size w3 w4) := hb
      clear hb
      go_wp2_with fail
      refine (hex_fun _ bs LO.out hl w4 (H.out.up B4.out (Nat.le_refl _))).mono ?_
      rintro e w5 ⟨rfl, hb⟩
      have B5 : Hid (Below w.heap.size w w5) := B4.out.trans (hb.mono B4.out.size)
      have D5 : Hid (Below w3.heap.size w3 w5) := D4.out.trans (hb.mono D4.out.size)
      clear hb B4 D4 B3
      go_wp2_with fail
      go_ret
      exact ⟨rfl, B5.out⟩
  · exact absurd ⟨b, LO.out, rfl⟩ hno
set_option maxRecDepth 100000 in
theorem derHexes_lifted (os : Os) (started : os.Started) (H : Type) (enc : TypeId × Value → H) :
    ReturnsInHanded {} Try.checked os 8 .any (Rows.derHexesSpec.pre6 enc Try.prog Try.f8 Rows.derHexesRow.domain false) (Rows.derHexesSpec.post enc Try.prog Try.f8 false true false false) := by
  refine returnsInHanded_of_change_sized (C := Try.checked) Try.own started (by kernel_rfl) Try.func8
    (ChangeSpec.witness6 (enc := enc) (C := Try.checked) false ⟨#[], #[.slice none 0 0, .string ByteArray.empty], []⟩ 8 (by kernel_rfl) (by kernel_rfl) (by kernel_rfl) (by kernel_rfl)) ?_
  intro W base args ds gs before hval0 hW hcnd hsz0 _
  have hsz : (DataW.weightsEach Try.prog (Try.f8.params.toList ++ Rows.derHexesSpec.plain.varTypes Try.prog) (ds ++ gs)).all (· ≤ reachBytes) = true := hsz0
  have hval : ∀ (j : Nat) t v, Try.f8.params[j]? = some t → args[j]? = some v → Value.okWide Try.prog W .any base t v := hval0
  have hW' := hW
  obtain ⟨p, q, hA0, hV, rfl, hfz, hnd⟩ := hW
  have hA : DataW.TrodAll enc Try.prog W 0 (fun _ => true) true Try.f8.params.toList args.toList ds p := hA0
  rw [Try.params8] at hA hval hsz
  obtain ⟨v0, v1, d0, d1, p0, p1, rfl, rfl, rfl, h0, h1⟩ := trodAll_two hA
  obtain ⟨rfl, rfl⟩ := trodVars_none hV
  simp only [List.append_nil] at hW'
  have hlt : ∀ x ∈ p0 ++ p1, x.block < W.heap.size := fun x hx => by simpa using hW'.lt x (by simpa using hx)
  have hk0 : ∀ W' : World, Below W.heap.size W W' → DataW.Trod enc Try.prog W' 0 (fun b => decide (b < W.heap.size)) true 22 v0 d0 p0 := fun W' hn => Below.trod Try.laidOut (by kernel_rfl) (of_decide_eq_true (by kernel_rfl)) h0 hn (fun x hx => hlt x (by simp [hx]))
  obtain ⟨a0, n0, c0, rfl⟩ := okWide_slice Try.uBytes (hval 0 22 v0 rfl rfl)
  obtain ⟨fuel0, hf0⟩ := h0
  obtain ⟨l0, low0, hI0, len0⟩ := by_of_trod (u := .slice a0 n0 c0) (by simpa [Value.cells] using hf0)
  have z0 : l0.length ≤ 140737488351232 := by
    obtain ⟨a', c', e, _⟩ := hI0
    have en : n0 = l0.length := by cases e; rfl
    rw [← en]
    rcases len_of_trod (by simpa [Value.cells] using hf0) with ⟨_, h⟩ | ⟨es, sp, hd, h⟩
    · omega
    · simp only at hd
      subst hd
      have := sized_slice hsz (j := 0) (t := 22) (e := 5) rfl rfl Try.uBytes
      rw [Try.bytesU8] at this
      simp only [reachBytes] at this
      omega
  obtain ⟨s1, rfl, rfl, rfl, w1⟩ := open_string Try.uStr (hval 1 9 v1 rfl rfl) h1
  have z1 : s1.size ≤ 140737488351232 := by
    have := sized_string hsz (j := 1) (t := 9) rfl rfl
    simp only [reachBytes, Array.length_toList] at this
    exact this
  refine (derHexes_law _ l0 low0 z0 s1 z1 W hI0).mono fun e W' ⟨he, hg⟩ => ?_
  subst he
  exact ⟨_, rfl, _, _, _, [], _, [], hW', trodAll_mk1 (shut_bool Try.underlying4 _), trodAll_mk2 (hk0 _ hg) (shut_string Try.uStr w1), rfl, hg.frame _, fun h => by cases h⟩

theorem derHexes_holds : Rows.DerHexesSaid :=
  OpenClaim.holds_of_wide 8 Try.f8 rfl rfl rfl rfl rfl rfl rfl ⟨rfl, rfl, rfl, rfl, rfl⟩ rfl rfl rfl rfl rfl (by kernel_rfl) Try.func8 (by kernel_rfl)
    (of_decide_eq_true (by kernel_rfl)) (by unfold Func.isWrapper; first | (rw [if_pos (by decide +kernel)]; kernel_rfl) | (rw [if_neg (by decide +kernel)]; exact ⟨rfl, rfl⟩))
    (fun os started H enc _ => derHexes_lifted os started H enc)
#print axioms derHexes_holds
end Go.Proofs.Ytkgfeacednomfab
