/- An object changed or copied, as the document has it. -/
import Derived.Test.YtepaapiflkkghaaQAtFfToRuC
import Derived.Test.YtepaapiflkkghaaQAtFt
import Derived.Deep.CutRange
namespace Go.Proofs.Ytepaapiflkkghaa
open Go.RowKit
attribute [local go_sem] World.cell?_alloc_some cell_alloc2 cell_alloc3 cell_alloc4 frozen?_alloc_cells frozen_out
set_option linter.unusedSimpArgs false
theorem badT_none {c : Crd} {cp : Bool} {x : Ar} {r : List Ar} (h : (c x.k.toNat).isSome = false) : badT c cp (x :: r) = 13 := by rw [badT, if_pos h]
theorem badT_nay {c : Crd} {cp : Bool} {x : Ar} {r : List Ar} (h : (c x.k.toNat).isSome = true) (hn : nayB c cp x = true) : badT c cp (x :: r) = 12 := by rw [badT, if_neg (by rw [h]; decide), if_pos hn]
theorem badT_next {c : Crd} {cp : Bool} {x : Ar} {r : List Ar} (h : (c x.k.toNat).isSome = true) (hn : nayB c cp x = false) : badT c cp (x :: r) = badT c cp r := by rw [badT, if_neg (by rw [h]; decide), if_neg (by rw [hn]; decide)]
set_option maxRecDepth 20000 in
set_option maxHeartbeats 16000000 in
theorem turned_walk (l t : List Ar) (v u : Value) (cp : Bool) (E : Nat) (D : Crd) (hs : l.length ≤ 4611686018427387904) (lo : ∀ x ∈ l, lowB x.v) (lt : ∀ x ∈ t, lowB x.v) (w : World) (HE : Hid (trnE l t cp = E)) (HD : Hid (trnF l t cp = D)) (HV : Hid (Ats w v l)) (HU : Hid (Ats w u t)) :
    Calls Try.prog 21 #[v, u, .bool cp] w fun e w' => e = .returned (.tuple #[.agg (crdC D).toArray, .int .i64 (E : Int)]) ∧ Below w.heap.size w w' := by
  have LL : Hid (l.length ≤ 4611686018427387904 ∧ (∀ x ∈ l, lowB x.v) ∧ ∀ x ∈ t, lowB x.v) := ⟨hs, lo, lt⟩
  have s0 : Hid (Kn (w.alloc (.cells (crdC fun _ => none).toArray 31)) [(w.heap.size, crdC fun _ => none)]) := (Kn.nil w).al (crdC fun _ => none) 31 rfl
  have b0 : Hid (Below w.heap.size w (w.alloc (.cells (crdC fun _ => none).toArray 31))) := (Below.refl _ _).alloc (Nat.le_refl _) _
  have C1 := cardOf_fun l hs v _ (HV.out.up b0.out (Nat.le_refl _))
  clear hs lo lt
  obtain ⟨r, hr⟩ : ∃ r, w.heap.size = r := ⟨_, rfl⟩
  have hrr : Hid (w.heap.size ≤ r) := Nat.le_of_eq hr
  rw [hr] at s0
  go_enter Try.func21, Try.ntmps21
  go_wp2_with (simp only [zero_card])
  refine C1.mono ?_
  clear hr
  rintro e w1 ⟨rfl, hb⟩
  have b1 : Hid (Below w.heap.size w (w1.alloc (.cells (crdC fun _ => none).toArray 31))) := (b0.out.trans (hb.mono b0.out.size)).alloc (b0.out.trans (hb.mono b0.out.size)).size _
  have z1 : Hid (w.heap.size ≤ w1.heap.size) := (b0.out.trans (hb.mono b0.out.size)).size
  have s1 : Hid (Kn (w1.alloc (.cells (crdC fun _ => none).toArray 31)) [(w1.heap.size, crdC fun _ => none), (r, crdC fun _ => none)]) := (s0.out.up hb).al (crdC fun _ => none) 31 rfl
  have TT : Hid ((w1.alloc (.cells (crdC fun _ => none).toArray 31)).there w1.heap.size 0 (crdC (crdF l)).length) := Kn.there s1.out 0 rfl (by rw [crdC_length, crdC_length])
  clear hb C1 s0 b0
  go_wp2_with (first | simp only [zero_card] | refine I.wp_store_eq rfl 31 _ _ rfl w1.heap.size 0 (crdC (crdF l)) rfl rfl TT.out (info_card _) (one_crd _) ?_)
  intro w2 hw2
  have s2 : Hid (Kn w2 [(w1.heap.size, crdC (crdF l)), (r, crdC fun _ => none)]) := by
    rw [hw2.out]
    exact Kn.put s1.out (by rw [crdC_length, crdC_length])
  have b2 : Hid (Below w.heap.size w w2) := by
    rw [hw2.out]
    exact I.below_setCells _ _ _ b1.out z1.out
  clear hw2 s1 b1 TT z1
  generalize w1.heap.size = h at s2 ⊢
  have bk := b2
  have sk := s2
  clear b2 s2
  have A1 := fun W => attrs_fun l LL.out.2.1 W
  go_wp2_with (first | refine wp_ldW rfl 31 _ rfl h 0 rfl (crdC (crdF l)) _ (Kn.rng sk.out 0 rfl) u_card rfl (info_card _) ?_ | fail)
  refine (A1 _).mono ?_
  rintro e w3 ⟨⟨z, rfl, hz⟩, hb⟩
  have S3 := sameR_fun l (risA l) LL.out.1 LL.out.2.1 (fun x hx => by
    obtain ⟨y, hy, _, e⟩ := getA_mem (risA_mem.1 hx).2
    rw [← e]
    exact LL.out.2.1 y hy) v z w3 (HV.out.up (bk.out.trans (hb.mono bk.out.size)) (Nat.le_refl _)) hz
  have bn : Hid (Below w.heap.size w w3) := bk.out.trans (hb.mono bk.out.size)
  have sn : Hid (Kn w3 [(h, crdC (crdF l)), (r, crdC fun _ => none)]) := sk.out.up hb
  clear hb sk bk
  have bk := bn
  have sk := sn
  clear bn sn
  clear hz A1
  go_wp2_with fail
  refine S3.mono ?_
  rintro e w4 ⟨⟨sb, rfl, hsb⟩, hb⟩
  have HS : Hid _ := valid_bool hsb
  have bn : Hid (Below w.heap.size w w4) := bk.out.trans (hb.mono bk.out.size)
  have sn : Hid (Kn w4 [(h, crdC (crdF l)), (r, crdC fun _ => none)]) := sk.out.up hb
  clear hb sk bk
  have bk := bn
  have sk := sn
  clear bn sn
  clear S3 hsb
  cases sb with
  | false =>
    have he : trnE l t cp = 1 := by
      unfold trnE
      rw [if_pos (by rw [HS.out, Bool.false_and, Bool.and_false])]
    clear HS
    have hE : E = 1 := HE.out.symm.trans he
    have hD : D = nonF := HD.out.symm.trans (if_neg (by rw [he]; decide))
    clear he
    have TT : Hid (_) := Kn.there (us := crdC fun _ => none) sk.out 1 rfl rfl
    go_wp2_with (first | refine wp_bldC rfl rfl ?_ | refine I.wp_store_eq rfl 31 _ _ rfl r 0 (crdC fun _ => none) rfl rfl TT.out (info_card _) (one_crd _) ?_ | fail)
    intro w9 hw9
    have s9 : Hid (Kn w9 [(r, crdC fun _ => none), (h, crdC (crdF l))]) := by
      rw [hw9.out]
      exact Kn.put (sk.out.front 1 rfl) rfl
    have b9 : Hid (Below w.heap.size w w9) := by
      rw [hw9.out]
      exact I.below_setCells _ _ _ bk.out hrr.out
    clear hw9 sk bk TT
    go_wp2_with fail
    exact bodyPost_ret (v := .tuple #[.agg (crdC fun _ => none).toArray, .int .i64 (1 : Nat)]) (results_crd rfl rfl rfl (Kn.rng s9.out 0 rfl) u_card rfl (info_card _)) rfl ⟨by rw [hE, hD]; rfl, b9.out⟩
  | true =>
    have F5 := attrsFault_fun v l w4 (HV.out.up bk.out (Nat.le_refl _))
    obtain ⟨fl, hfl⟩ : ∃ f, Hid (fltA l = f) := ⟨_, rfl⟩
    rw [hfl.out] at F5
    go_wp2_with fail
    refine F5.mono ?_
    rintro e w5 ⟨rfl, hb⟩
    have bn : Hid (Below w.heap.size w w5) := bk.out.trans (hb.mono bk.out.size)
    have sn : Hid (Kn w5 [(h, crdC (crdF l)), (r, crdC fun _ => none)]) := sk.out.up hb
    clear hb sk bk
    have bk := bn
    have sk := sn
    clear bn sn
    clear F5
    by_cases h0 : fl = 0
    · subst h0
      obtain ⟨ob, hob⟩ : ∃ o, Hid (objF (crdF l) = o) := ⟨_, rfl⟩
      have O6 := fun W => object_fun (crdF l) (crdF_low LL.out.2.1) W
      rw [hob.out] at O6
      go_wp2_with (first | refine wp_ldW rfl 31 _ rfl h 0 rfl (crdC (crdF l)) _ (Kn.rng sk.out 0 rfl) u_card rfl (info_card _) ?_ | fail)
      refine (O6 _).mono ?_
      rintro e w6 ⟨rfl, hb⟩
      have bn : Hid (Below w.heap.size w w6) := bk.out.trans (hb.mono bk.out.size)
      have sn : Hid (Kn w6 [(h, crdC (crdF l)), (r, crdC fun _ => none)]) := sk.out.up hb
      clear hb sk bk
      have bk := bn
      have sk := sn
      clear bn sn
      clear O6
      cases ob with
      | false =>
        have he : trnE l t cp = 1 := by
          unfold trnE
          rw [if_pos (by rw [HS.out, hob.out, Bool.and_false, Bool.and_false])]
        clear HS hob
        have hE : E = 1 := HE.out.symm.trans he
        have hD : D = nonF := HD.out.symm.trans (if_neg (by rw [he]; decide))
        clear he
        have TT : Hid (_) := Kn.there (us := crdC fun _ => none) sk.out 1 rfl rfl
        go_wp2_with (first | refine wp_bldC rfl rfl ?_ | refine I.wp_store_eq rfl 31 _ _ rfl r 0 (crdC fun _ => none) rfl rfl TT.out (info_card _) (one_crd _) ?_ | fail)
        intro w9 hw9
        have s9 : Hid (Kn w9 [(r, crdC fun _ => none), (h, crdC (crdF l))]) := by
          rw [hw9.out]
          exact Kn.put (sk.out.front 1 rfl) rfl
        have b9 : Hid (Below w.heap.size w w9) := by
          rw [hw9.out]
          exact I.below_setCells _ _ _ bk.out hrr.out
        clear hw9 sk bk TT
        go_wp2_with fail
        exact bodyPost_ret (v := .tuple #[.agg (crdC fun _ => none).toArray, .int .i64 (1 : Nat)]) (results_crd rfl rfl rfl (Kn.rng s9.out 0 rfl) u_card rfl (info_card _)) rfl ⟨by rw [hE, hD]; rfl, b9.out⟩
      | true =>
        have HVl : Hid (valA l = true) := by show _ = _; rw [HS.out, hob.out, hfl.out]; rfl
        clear HS hob hfl
        obtain ⟨ft, hft⟩ : ∃ f, Hid (fltA t = f) := ⟨_, rfl⟩
        have F7 := attrsFault_fun u t w6 (HU.out.up bk.out (Nat.le_refl _))
        rw [hft.out] at F7
        go_wp2_with fail
        refine F7.mono ?_
        rintro e w7 ⟨rfl, hb⟩
        have bn : Hid (Below w.heap.size w w7) := bk.out.trans (hb.mono bk.out.size)
        have sn : Hid (Kn w7 [(h, crdC (crdF l)), (r, crdC fun _ => none)]) := sk.out.up hb
        clear hb sk bk
        have bk := bn
        have sk := sn
        clear bn sn
        clear F7
        by_cases h1 : ft = 0
        · subst h1
          obtain ⟨o7, ho7⟩ : ∃ o, Hid (oneF (crdF l) 7 = o) := ⟨_, rfl⟩
          have O8 := fun W => one_fun_ (crdF l) (crdF_low LL.out.2.1) 7 (by decide) W
          rw [ho7.out] at O8
          obtain ⟨bz, hbz⟩ : ∃ b, Hid ((!o7 && !cp) = b) := ⟨_, rfl⟩
          go_upto_region 7 with fail
          go_cut [45] from 39 (fun s wx => s = .bool bz ∧ Hid (Kn wx [(h, crdC (crdF l)), (r, crdC fun _ => none)]) ∧ Hid (Below w.heap.size w wx))
          case first =>
            clear ho7 HVl hft
            go_wp2_with (first | refine wp_ldW rfl 31 _ rfl h 0 rfl (crdC (crdF l)) _ (Kn.rng sk.out 0 rfl) u_card rfl (info_card _) ?_ | fail)
            refine (O8 _).mono ?_
            rintro e w8 ⟨rfl, hb⟩
            have bn : Hid (Below w.heap.size w w8) := bk.out.trans (hb.mono bk.out.size)
            have sn : Hid (Kn w8 [(h, crdC (crdF l)), (r, crdC fun _ => none)]) := sk.out.up hb
            clear hb sk bk
            have bk := bn
            have sk := sn
            clear bn sn
            clear O8
            cases o7 with
            | true =>
              obtain rfl : false = bz := hbz.out
              clear hbz
              go_wp2_with fail
              go_meet
              case rel => exact ⟨rfl, sk, bk⟩
            | false =>
              obtain rfl : (!cp) = bz := hbz.out
              clear hbz
              go_wp2_with fail
              go_meet
              case rel => exact ⟨rfl, sk, bk⟩
          case rest =>
            clear O8 sk bk
            obtain ⟨rfl, sk, bk⟩ := hcut
            cases bz with
            | true =>
              have he : trnE l t cp = 12 := by
                have := hbz.out
                unfold trnE
                rw [if_neg (by rw [HVl.out]; decide), if_neg (fun h => h hft.out), if_pos]
                rw [ho7.out]
                cases o7 with
                | true => cases this
                | false =>
                  cases cp with
                  | true => cases this
                  | false => exact ⟨rfl, rfl⟩
              clear HVl hft ho7 hbz
              have hE : E = 12 := HE.out.symm.trans he
              have hD : D = nonF := HD.out.symm.trans (if_neg (by rw [he]; decide))
              clear he
              have TT : Hid (_) := Kn.there (us := crdC fun _ => none) sk.out 1 rfl rfl
              go_wp2_with (first | refine wp_bldC rfl rfl ?_ | refine I.wp_store_eq rfl 31 _ _ rfl r 0 (crdC fun _ => none) rfl rfl TT.out (info_card _) (one_crd _) ?_ | fail)
              intro w9 hw9
              have s9 : Hid (Kn w9 [(r, crdC fun _ => none), (h, crdC (crdF l))]) := by
                rw [hw9.out]
                exact Kn.put (sk.out.front 1 rfl) rfl
              have b9 : Hid (Below w.heap.size w w9) := by
                rw [hw9.out]
                exact I.below_setCells _ _ _ bk.out hrr.out
              clear hw9 sk bk TT
              go_wp2_with fail
              exact bodyPost_ret (v := .tuple #[.agg (crdC fun _ => none).toArray, .int .i64 (12 : Nat)]) (results_crd rfl rfl rfl (Kn.rng s9.out 0 rfl) u_card rfl (info_card _)) rfl ⟨by rw [hE, hD]; rfl, b9.out⟩
            | false =>
              have H7 : Hid (¬ (oneF (crdF l) 7 = false ∧ cp = false)) := fun ⟨h1, h2⟩ => by
                have := hbz.out
                rw [← ho7.out, h1, h2] at this
                cases this
              clear ho7 hbz
              have HG := (fltA_zero t).1 hft.out
              have HX : Hid (∀ x ∈ t, x.good) := HG.2.1
              have HN : Hid (t.length ≤ 24) := HG.1
              have E0 : Hid (∀ n, n ≠ 0 → badT (crdF l) cp t = n → trnE l t cp = n) := fun n hn e => by
                unfold trnE
                rw [if_neg (by rw [HVl.out]; decide), if_neg (fun h => h hft.out), if_neg H7.out, if_pos (by rw [e]; exact hn), e]
              have E1 : Hid (badT (crdF l) cp t = 0 → trnE l t cp = if objF (crdF (t ++ l)) = true then 0 else 12) := fun e => by
                unfold trnE
                rw [if_neg (by rw [HVl.out]; decide), if_neg (fun h => h hft.out), if_neg H7.out, if_neg (fun h => h e)]
              clear H7 HG HVl hft
              obtain ⟨ua, uc, hu'⟩ := ats_parts HU.out
              subst hu'
              obtain ⟨n, hn⟩ : ∃ n, t.length = n := ⟨_, rfl⟩
              have HNN : Hid (t.length = n ∧ n ≤ 24) := ⟨hn, by have := HN.out; omega⟩
              rw [hn] at HU ⊢
              clear hn HN
              have n24 : (n : Int) ≤ 24 := by have := HNN.out.2; omega
              obtain ⟨s0, hs0⟩ : ∃ s, Hid (sOf [0] = s) := ⟨_, rfl⟩
              obtain ⟨s1, hs1⟩ : ∃ s, Hid (sOf [1] = s) := ⟨_, rfl⟩
              have FL0 : Hid (∀ W, Calls Try.prog 45 #[.bool false] W fun e w' => e = .returned (.string s0) ∧ Below W.heap.size W w') := fun W => by rw [← hs0.out]; exact flag_fun false W
              have FL1 : Hid (∀ W, Calls Try.prog 45 #[.bool true] W fun e w' => e = .returned (.string s1) ∧ Below W.heap.size W w') := fun W => by rw [← hs1.out]; exact flag_fun true W
              have ON : Hid (∀ k b, k < 19 → oneF (crdF l) k = b → ∀ W, Calls Try.prog 47 #[.agg (crdC (crdF l)).toArray, .int .i64 ((k : Nat) : Int)] W fun e w' => e = .returned (.bool b) ∧ Below W.heap.size W w') := fun k b hk hb W => by rw [← hb]; exact one_fun_ (crdF l) (crdF_low LL.out.2.1) k hk W
              go_wp2_with fail
              go_loopw [49] (fun i wr => ∃ j : Nat, j ≤ n ∧ i = .int .i64 (j : Int) ∧ Hid (badT (crdF l) cp t = badT (crdF l) cp (t.drop j)) ∧ Hid (Kn wr [(h, crdC (crdF l)), (r, crdC fun _ => none)]) ∧ Hid (Below w.heap.size w wr)) (fun i _ => n - (intOf i).toNat)
              case atStart => exact ⟨0, Nat.zero_le _, rfl, rfl, sk, bk⟩
              case round =>
                clear sk bk
                obtain ⟨j, hj, rfl, no, sk, bk⟩ := hrel
                by_cases hlt : j < n
                · have i1 : (j : Int) < (n : Int) := by omega
                  have i0 : (0 : Int) ≤ (j : Int) := by omega
                  have HJ : Hid (j < n) := hlt
                  obtain ⟨b, o, rfl⟩ := HU.out.addr (by omega)
                  obtain ⟨x, hx⟩ : ∃ x, Hid (t[j]? = some x) := ⟨t[j]'(by have := HNN.out; omega), List.getElem?_eq_getElem _⟩
                  have xm := List.mem_of_getElem? hx.out
                  have gx := HX.out x xm
                  obtain ⟨i, hi⟩ : ∃ i : Nat, Hid (x.k = (i : Int)) := ⟨x.k.toNat, by show _ = _; have := gx.1; omega⟩
                  have HI : Hid (1 ≤ i ∧ i ≤ 18) := by
                    have h1 := gx.1
                    have h2 := gx.2.1
                    have h3 := hi.out
                    show _ ∧ _
                    omega
                  obtain ⟨xa, xc, ex⟩ := HU.out.elem hx.out
                  have xl : Hid (lowB x.v) := LL.out.2.2 x xm
                  have R1 : Hid (wr.rangeAt b (o + j * 2) [.int .i64 (i : Int), .slice xa x.v.length xc]) := by have := (ex.up bk.out).rng; rw [hi.out] at this; exact this
                  have R2 : Hid (∀ (C : Array Value) t, (wr.alloc (.cells C t)).rangeAt b (o + j * 2) [.int .i64 (i : Int), .slice xa x.v.length xc]) := fun C t => by have := (ex.up (bk.out.alloc bk.out.size (.cells C t))).rng; rw [hi.out] at this; exact this
                  have V2 : Hid (By (wr.alloc (.cells #[.int .i64 (i : Int), .slice xa x.v.length xc] 64)) (.slice xa x.v.length xc) x.v) := (ex.up (bk.out.alloc bk.out.size (.cells #[.int .i64 (i : Int), .slice xa x.v.length xc] 64))).2.2
                  have sn : Hid (Kn (wr.alloc (.cells #[.int .i64 (i : Int), .slice xa x.v.length xc] 64)) [(wr.heap.size, [.int .i64 (i : Int), .slice xa x.v.length xc]), (h, crdC (crdF l)), (r, crdC fun _ => none)]) := sk.out.al [.int .i64 (i : Int), .slice xa x.v.length xc] 64 rfl
                  have bn : Hid (Below w.heap.size w (wr.alloc (.cells #[.int .i64 (i : Int), .slice xa x.v.length xc] 64))) := bk.out.alloc bk.out.size _
                  have u0 := Kn.get sn.out 0 0 rfl rfl
                  have u1 := Kn.get sn.out 0 1 rfl rfl
                  have uh := Kn.get sn.out 1 i rfl (crdC_has (crdF l) (by have := HI.out; omega))
                  clear sk bk ex xm gx hlt hj
                  have sk : Hid (Kn (wr.alloc (.cells #[.int .i64 (i : Int), .slice xa x.v.length xc] 64)) [(h, crdC (crdF l)), (r, crdC fun _ => none)]) := sn.out.drop 0
                  have bk := bn
                  clear sn bn
                  have ed : Hid (t.drop j = x :: t.drop (j + 1)) := by
                    have hl : j < t.length := (List.getElem?_eq_some_iff.1 hx.out).1
                    show _ = _
                    rw [List.drop_eq_getElem_cons hl]
                    congr 1
                    exact (List.getElem?_eq_some_iff.1 hx.out).2
                  have y0 : (0 : Int) ≤ (i : Int) := by omega
                  have y19 : (i : Int) < 19 := by have := HI.out; omega
                  have P0 : Hid (((sOf x.v).toList == s0.toList) = decide (x.v = [0])) := by
                    show _ = _
                    rw [← hs0.out]
                    exact sOf_beq xl.out (fun y hy => by obtain rfl := List.mem_singleton.1 hy; decide)
                  have P1 : Hid (((sOf x.v).toList == s1.toList) = decide (x.v = [1])) := by
                    show _ = _
                    rw [← hs1.out]
                    exact sOf_beq xl.out (fun y hy => by obtain rfl := List.mem_singleton.1 hy; decide)
                  obtain ⟨hs, hhs⟩ : ∃ b, Hid (((crdF l) i).isSome = b) := ⟨_, rfl⟩
                  rw [hhs.out] at uh
                  have hks : Hid (((crdF l) x.k.toNat).isSome = hs) := by show _ = _; rw [hi.out, Int.toNat_natCast]; exact hhs.out
                  clear hx xl hhs
                  cases hs with
                  | false =>
                    have he : trnE l t cp = 13 := E0.out 13 (by decide) (no.out.trans (by rw [ed.out]; exact badT_none hks.out))
                    clear no ed hks P0 P1 HI hi
                    have hE : E = 13 := HE.out.symm.trans he
                    have hD : D = nonF := HD.out.symm.trans (if_neg (by rw [he]; decide))
                    clear he
                    have TT : Hid (_) := Kn.there (us := crdC fun _ => none) sk.out 1 rfl rfl
                    go_wp2_with (first | refine wp_bldC rfl rfl ?_ | refine I.wp_store_eq rfl 31 _ _ rfl r 0 (crdC fun _ => none) rfl rfl TT.out (info_card _) (one_crd _) ?_ | simp only [zero_attr] | refine wp_ldW rfl 64 _ rfl b (o + j * 2) rfl [.int .i64 (i : Int), .slice xa x.v.length xc] _ (by first | exact R1.out | exact R2.out _ _) u_attr rfl (info_attr _ _) ?_ | refine wp_conv rfl _ rfl _ x.v rfl V2.out ?_ | fail)
                    intro w9 hw9
                    have s9 : Hid (Kn w9 [(r, crdC fun _ => none), (h, crdC (crdF l))]) := by
                      rw [hw9.out]
                      exact Kn.put (sk.out.front 1 rfl) rfl
                    have b9 : Hid (Below w.heap.size w w9) := by
                      rw [hw9.out]
                      exact I.below_setCells _ _ _ bk.out hrr.out
                    clear hw9 sk bk TT R1 R2 V2 u0 u1 uh
                    go_wp2_with fail
                    exact bodyPost_ret (v := .tuple #[.agg (crdC fun _ => none).toArray, .int .i64 (13 : Nat)]) (results_crd rfl rfl rfl (Kn.rng s9.out 0 rfl) u_card rfl (info_card _)) rfl ⟨by rw [hE, hD]; rfl, b9.out⟩
                  | true =>
                    have T12 : Hid (nayB (crdF l) cp x = true → trnE l t cp = 12) := fun hn => E0.out 12 (by decide) (no.out.trans (by rw [ed.out]; exact badT_nay hks.out hn))
                    have NX : Hid (nayB (crdF l) cp x = false → badT (crdF l) cp t = badT (crdF l) cp (t.drop (j + 1))) := fun hn => no.out.trans (by rw [ed.out]; exact badT_next hks.out hn)
                    clear no ed hks
                    by_cases c1 : i = 1
                    · have q1 : ((i : Int) == 1) = true := beq_iff_eq.2 (by omega)
                      have hk : x.k = 1 := by rw [hi.out, c1]; rfl
                      have he := T12.out (by unfold nayB; simp [hk])
                      clear T12 NX P0 P1 HI hi hk c1
                      have hE : E = 12 := HE.out.symm.trans he
                      have hD : D = nonF := HD.out.symm.trans (if_neg (by rw [he]; decide))
                      clear he
                      have TT : Hid (_) := Kn.there (us := crdC fun _ => none) sk.out 1 rfl rfl
                      go_wp2_with (first | refine wp_bldC rfl rfl ?_ | refine I.wp_store_eq rfl 31 _ _ rfl r 0 (crdC fun _ => none) rfl rfl TT.out (info_card _) (one_crd _) ?_ | simp only [zero_attr] | refine wp_ldW rfl 64 _ rfl b (o + j * 2) rfl [.int .i64 (i : Int), .slice xa x.v.length xc] _ (by first | exact R1.out | exact R2.out _ _) u_attr rfl (info_attr _ _) ?_ | refine wp_conv rfl _ rfl _ x.v rfl V2.out ?_ | fail)
                      intro w9 hw9
                      have s9 : Hid (Kn w9 [(r, crdC fun _ => none), (h, crdC (crdF l))]) := by
                        rw [hw9.out]
                        exact Kn.put (sk.out.front 1 rfl) rfl
                      have b9 : Hid (Below w.heap.size w w9) := by
                        rw [hw9.out]
                        exact I.below_setCells _ _ _ bk.out hrr.out
                      clear hw9 sk bk TT R1 R2 V2 u0 u1 uh
                      go_wp2_with fail
                      exact bodyPost_ret (v := .tuple #[.agg (crdC fun _ => none).toArray, .int .i64 (12 : Nat)]) (results_crd rfl rfl rfl (Kn.rng s9.out 0 rfl) u_card rfl (info_card _)) rfl ⟨by rw [hE, hD]; rfl, b9.out⟩
                    by_cases c4 : i = 4
                    · have q1 : ((i : Int) == 1) = false := beq_eq_false_iff_ne.2 (by omega)
                      have q4 : ((i : Int) == 4) = true := beq_iff_eq.2 (by omega)
                      have hk : x.k = 4 := by rw [hi.out, c4]; rfl
                      have he := T12.out (by unfold nayB; simp [hk])
                      clear T12 NX P0 P1 HI hi hk c4
                      have hE : E = 12 := HE.out.symm.trans he
                      have hD : D = nonF := HD.out.symm.trans (if_neg (by rw [he]; decide))
                      clear he
                      have TT : Hid (_) := Kn.there (us := crdC fun _ => none) sk.out 1 rfl rfl
                      go_wp2_with (first | refine wp_bldC rfl rfl ?_ | refine I.wp_store_eq rfl 31 _ _ rfl r 0 (crdC fun _ => none) rfl rfl TT.out (info_card _) (one_crd _) ?_ | simp only [zero_attr] | refine wp_ldW rfl 64 _ rfl b (o + j * 2) rfl [.int .i64 (i : Int), .slice xa x.v.length xc] _ (by first | exact R1.out | exact R2.out _ _) u_attr rfl (info_attr _ _) ?_ | refine wp_conv rfl _ rfl _ x.v rfl V2.out ?_ | fail)
                      intro w9 hw9
                      have s9 : Hid (Kn w9 [(r, crdC fun _ => none), (h, crdC (crdF l))]) := by
                        rw [hw9.out]
                        exact Kn.put (sk.out.front 1 rfl) rfl
                      have b9 : Hid (Below w.heap.size w w9) := by
                        rw [hw9.out]
                        exact I.below_setCells _ _ _ bk.out hrr.out
                      clear hw9 sk bk TT R1 R2 V2 u0 u1 uh
                      go_wp2_with fail
                      exact bodyPost_ret (v := .tuple #[.agg (crdC fun _ => none).toArray, .int .i64 (12 : Nat)]) (results_crd rfl rfl rfl (Kn.rng s9.out 0 rfl) u_card rfl (info_card _)) rfl ⟨by rw [hE, hD]; rfl, b9.out⟩
                    by_cases c10 : i = 10
                    · have q1 : ((i : Int) == 1) = false := beq_eq_false_iff_ne.2 (by omega)
                      have q4 : ((i : Int) == 4) = false := beq_eq_false_iff_ne.2 (by omega)
                      have q10 : ((i : Int) == 10) = true := beq_iff_eq.2 (by omega)
                      have hk : x.k = 10 := by rw [hi.out, c10]; rfl
                      have he := T12.out (by unfold nayB; simp [hk])
                      clear T12 NX P0 P1 HI hi hk c10
                      have hE : E = 12 := HE.out.symm.trans he
                      have hD : D = nonF := HD.out.symm.trans (if_neg (by rw [he]; decide))
                      clear he
                      have TT : Hid (_) := Kn.there (us := crdC fun _ => none) sk.out 1 rfl rfl
                      go_wp2_with (first | refine wp_bldC rfl rfl ?_ | refine I.wp_store_eq rfl 31 _ _ rfl r 0 (crdC fun _ => none) rfl rfl TT.out (info_card _) (one_crd _) ?_ | simp only [zero_attr] | refine wp_ldW rfl 64 _ rfl b (o + j * 2) rfl [.int .i64 (i : Int), .slice xa x.v.length xc] _ (by first | exact R1.out | exact R2.out _ _) u_attr rfl (info_attr _ _) ?_ | refine wp_conv rfl _ rfl _ x.v rfl V2.out ?_ | fail)
                      intro w9 hw9
                      have s9 : Hid (Kn w9 [(r, crdC fun _ => none), (h, crdC (crdF l))]) := by
                        rw [hw9.out]
                        exact Kn.put (sk.out.front 1 rfl) rfl
                      have b9 : Hid (Below w.heap.size w w9) := by
                        rw [hw9.out]
                        exact I.below_setCells _ _ _ bk.out hrr.out
                      clear hw9 sk bk TT R1 R2 V2 u0 u1 uh
                      go_wp2_with fail
                      exact bodyPost_ret (v := .tuple #[.agg (crdC fun _ => none).toArray, .int .i64 (12 : Nat)]) (results_crd rfl rfl rfl (Kn.rng s9.out 0 rfl) u_card rfl (info_card _)) rfl ⟨by rw [hE, hD]; rfl, b9.out⟩
                    by_cases c11 : i = 11
                    · have q1 : ((i : Int) == 1) = false := beq_eq_false_iff_ne.2 (by omega)
                      have q4 : ((i : Int) == 4) = false := beq_eq_false_iff_ne.2 (by omega)
                      have q10 : ((i : Int) == 10) = false := beq_eq_false_iff_ne.2 (by omega)
                      have q11 : ((i : Int) == 11) = true := beq_iff_eq.2 (by omega)
                      have hk : x.k = 11 := by rw [hi.out, c11]; rfl
                      have he := T12.out (by unfold nayB; simp [hk])
                      clear T12 NX P0 P1 HI hi hk c11
                      have hE : E = 12 := HE.out.symm.trans he
                      have hD : D = nonF := HD.out.symm.trans (if_neg (by rw [he]; decide))
                      clear he
                      have TT : Hid (_) := Kn.there (us := crdC fun _ => none) sk.out 1 rfl rfl
                      go_wp2_with (first | refine wp_bldC rfl rfl ?_ | refine I.wp_store_eq rfl 31 _ _ rfl r 0 (crdC fun _ => none) rfl rfl TT.out (info_card _) (one_crd _) ?_ | simp only [zero_attr] | refine wp_ldW rfl 64 _ rfl b (o + j * 2) rfl [.int .i64 (i : Int), .slice xa x.v.length xc] _ (by first | exact R1.out | exact R2.out _ _) u_attr rfl (info_attr _ _) ?_ | refine wp_conv rfl _ rfl _ x.v rfl V2.out ?_ | fail)
                      intro w9 hw9
                      have s9 : Hid (Kn w9 [(r, crdC fun _ => none), (h, crdC (crdF l))]) := by
                        rw [hw9.out]
                        exact Kn.put (sk.out.front 1 rfl) rfl
                      have b9 : Hid (Below w.heap.size w w9) := by
                        rw [hw9.out]
                        exact I.below_setCells _ _ _ bk.out hrr.out
                      clear hw9 sk bk TT R1 R2 V2 u0 u1 uh
                      go_wp2_with fail
                      exact bodyPost_ret (v := .tuple #[.agg (crdC fun _ => none).toArray, .int .i64 (12 : Nat)]) (results_crd rfl rfl rfl (Kn.rng s9.out 0 rfl) u_card rfl (info_card _)) rfl ⟨by rw [hE, hD]; rfl, b9.out⟩
                    by_cases c12 : i = 12
                    · have q1 : ((i : Int) == 1) = false := beq_eq_false_iff_ne.2 (by omega)
                      have q4 : ((i : Int) == 4) = false := beq_eq_false_iff_ne.2 (by omega)
                      have q10 : ((i : Int) == 10) = false := beq_eq_false_iff_ne.2 (by omega)
                      have q11 : ((i : Int) == 11) = false := beq_eq_false_iff_ne.2 (by omega)
                      have q12 : ((i : Int) == 12) = true := beq_iff_eq.2 (by omega)
                      have hk : x.k = 12 := by rw [hi.out, c12]; rfl
                      have he := T12.out (by unfold nayB; simp [hk])
                      clear T12 NX P0 P1 HI hi hk c12
                      have hE : E = 12 := HE.out.symm.trans he
                      have hD : D = nonF := HD.out.symm.trans (if_neg (by rw [he]; decide))
                      clear he
                      have TT : Hid (_) := Kn.there (us := crdC fun _ => none) sk.out 1 rfl rfl
                      go_wp2_with (first | refine wp_bldC rfl rfl ?_ | refine I.wp_store_eq rfl 31 _ _ rfl r 0 (crdC fun _ => none) rfl rfl TT.out (info_card _) (one_crd _) ?_ | simp only [zero_attr] | refine wp_ldW rfl 64 _ rfl b (o + j * 2) rfl [.int .i64 (i : Int), .slice xa x.v.length xc] _ (by first | exact R1.out | exact R2.out _ _) u_attr rfl (info_attr _ _) ?_ | refine wp_conv rfl _ rfl _ x.v rfl V2.out ?_ | fail)
                      intro w9 hw9
                      have s9 : Hid (Kn w9 [(r, crdC fun _ => none), (h, crdC (crdF l))]) := by
                        rw [hw9.out]
                        exact Kn.put (sk.out.front 1 rfl) rfl
                      have b9 : Hid (Below w.heap.size w w9) := by
                        rw [hw9.out]
                        exact I.below_setCells _ _ _ bk.out hrr.out
                      clear hw9 sk bk TT R1 R2 V2 u0 u1 uh
                      go_wp2_with fail
                      exact bodyPost_ret (v := .tuple #[.agg (crdC fun _ => none).toArray, .int .i64 (12 : Nat)]) (results_crd rfl rfl rfl (Kn.rng s9.out 0 rfl) u_card rfl (info_card _)) rfl ⟨by rw [hE, hD]; rfl, b9.out⟩
                    by_cases c5 : i = 5
                    · have q1 : ((i : Int) == 1) = false := beq_eq_false_iff_ne.2 (by omega)
                      have q4 : ((i : Int) == 4) = false := beq_eq_false_iff_ne.2 (by omega)
                      have q10 : ((i : Int) == 10) = false := beq_eq_false_iff_ne.2 (by omega)
                      have q11 : ((i : Int) == 11) = false := beq_eq_false_iff_ne.2 (by omega)
                      have q12 : ((i : Int) == 12) = false := beq_eq_false_iff_ne.2 (by omega)
                      have q5 : ((i : Int) == 5) = true := beq_iff_eq.2 (by omega)
                      have hk : x.k = 5 := by rw [hi.out, c5]; rfl
                      cases cp with
                      | false =>
                        have he := T12.out (by unfold nayB; simp [hk])
                        clear T12 NX P0 P1 HI hi hk c5
                        have hE : E = 12 := HE.out.symm.trans he
                        have hD : D = nonF := HD.out.symm.trans (if_neg (by rw [he]; decide))
                        clear he
                        have TT : Hid (_) := Kn.there (us := crdC fun _ => none) sk.out 1 rfl rfl
                        go_wp2_with (first | refine wp_bldC rfl rfl ?_ | refine I.wp_store_eq rfl 31 _ _ rfl r 0 (crdC fun _ => none) rfl rfl TT.out (info_card _) (one_crd _) ?_ | simp only [zero_attr] | refine wp_ldW rfl 64 _ rfl b (o + j * 2) rfl [.int .i64 (i : Int), .slice xa x.v.length xc] _ (by first | exact R1.out | exact R2.out _ _) u_attr rfl (info_attr _ _) ?_ | refine wp_conv rfl _ rfl _ x.v rfl V2.out ?_ | fail)
                        intro w9 hw9
                        have s9 : Hid (Kn w9 [(r, crdC fun _ => none), (h, crdC (crdF l))]) := by
                          rw [hw9.out]
                          exact Kn.put (sk.out.front 1 rfl) rfl
                        have b9 : Hid (Below w.heap.size w w9) := by
                          rw [hw9.out]
                          exact I.below_setCells _ _ _ bk.out hrr.out
                        clear hw9 sk bk TT R1 R2 V2 u0 u1 uh
                        go_wp2_with fail
                        exact bodyPost_ret (v := .tuple #[.agg (crdC fun _ => none).toArray, .int .i64 (12 : Nat)]) (results_crd rfl rfl rfl (Kn.rng s9.out 0 rfl) u_card rfl (info_card _)) rfl ⟨by rw [hE, hD]; rfl, b9.out⟩
                      | true =>
                        have no' : Hid _ := NX.out (by unfold nayB; simp [hk])
                        clear T12 NX P0 P1 HI hi hk c5
                        go_wp2_with (first | simp only [zero_attr] | refine wp_ldW rfl 64 _ rfl b (o + j * 2) rfl [.int .i64 (i : Int), .slice xa x.v.length xc] _ (by first | exact R1.out | exact R2.out _ _) u_attr rfl (info_attr _ _) ?_ | refine wp_conv rfl _ rfl _ x.v rfl V2.out ?_ | fail)
                        clear R1 R2 V2 u0 u1 uh
                        go_wp2_with fail
                        go_roundw
                        case rel => exact ⟨j + 1, HJ.out, by go_num, no', sk, bk⟩
                        case measure => simp [intOf]; have := HJ.out; omega
                    by_cases c6 : i = 6
                    · have q1 : ((i : Int) == 1) = false := beq_eq_false_iff_ne.2 (by omega)
                      have q4 : ((i : Int) == 4) = false := beq_eq_false_iff_ne.2 (by omega)
                      have q10 : ((i : Int) == 10) = false := beq_eq_false_iff_ne.2 (by omega)
                      have q11 : ((i : Int) == 11) = false := beq_eq_false_iff_ne.2 (by omega)
                      have q12 : ((i : Int) == 12) = false := beq_eq_false_iff_ne.2 (by omega)
                      have q5 : ((i : Int) == 5) = false := beq_eq_false_iff_ne.2 (by omega)
                      have q6 : ((i : Int) == 6) = true := beq_iff_eq.2 (by omega)
                      have hk : x.k = 6 := by rw [hi.out, c6]; rfl
                      cases cp with
                      | false =>
                        have he := T12.out (by unfold nayB; simp [hk])
                        clear T12 NX P0 P1 HI hi hk c6
                        have hE : E = 12 := HE.out.symm.trans he
                        have hD : D = nonF := HD.out.symm.trans (if_neg (by rw [he]; decide))
                        clear he
                        have TT : Hid (_) := Kn.there (us := crdC fun _ => none) sk.out 1 rfl rfl
                        go_wp2_with (first | refine wp_bldC rfl rfl ?_ | refine I.wp_store_eq rfl 31 _ _ rfl r 0 (crdC fun _ => none) rfl rfl TT.out (info_card _) (one_crd _) ?_ | simp only [zero_attr] | refine wp_ldW rfl 64 _ rfl b (o + j * 2) rfl [.int .i64 (i : Int), .slice xa x.v.length xc] _ (by first | exact R1.out | exact R2.out _ _) u_attr rfl (info_attr _ _) ?_ | refine wp_conv rfl _ rfl _ x.v rfl V2.out ?_ | fail)
                        intro w9 hw9
                        have s9 : Hid (Kn w9 [(r, crdC fun _ => none), (h, crdC (crdF l))]) := by
                          rw [hw9.out]
                          exact Kn.put (sk.out.front 1 rfl) rfl
                        have b9 : Hid (Below w.heap.size w w9) := by
                          rw [hw9.out]
                          exact I.below_setCells _ _ _ bk.out hrr.out
                        clear hw9 sk bk TT R1 R2 V2 u0 u1 uh
                        go_wp2_with fail
                        exact bodyPost_ret (v := .tuple #[.agg (crdC fun _ => none).toArray, .int .i64 (12 : Nat)]) (results_crd rfl rfl rfl (Kn.rng s9.out 0 rfl) u_card rfl (info_card _)) rfl ⟨by rw [hE, hD]; rfl, b9.out⟩
                      | true =>
                        by_cases hv : x.v = [0]
                        · have p0 : ((sOf x.v).toList == s0.toList) = true := by rw [P0.out]; exact decide_eq_true hv
                          obtain ⟨ob, hob⟩ : ∃ b, Hid (oneF (crdF l) 6 = b) := ⟨_, rfl⟩
                          have O9 := ON.out 6 ob (by decide) hob.out
                          have TB : Hid (nayB (crdF l) true x = ob) := by show _ = _; unfold nayB; simp [hk, hv, hob.out]
                          clear P0 P1 HI hi hk c6 hv hob
                          go_wp2_with (first | simp only [zero_attr] | refine wp_ldW rfl 64 _ rfl b (o + j * 2) rfl [.int .i64 (i : Int), .slice xa x.v.length xc] _ (by first | exact R1.out | exact R2.out _ _) u_attr rfl (info_attr _ _) ?_ | refine wp_conv rfl _ rfl _ x.v rfl V2.out ?_ | fail)
                          clear R1 R2 V2 u0 u1 uh
                          refine (FL0.out _).mono ?_
                          rintro e wy ⟨rfl, hb⟩
                          have bn : Hid (Below w.heap.size w wy) := bk.out.trans (hb.mono bk.out.size)
                          have sn : Hid (Kn wy [(h, crdC (crdF l)), (r, crdC fun _ => none)]) := sk.out.up hb
                          clear hb sk bk
                          have bk := bn
                          have sk := sn
                          clear bn sn
                          go_wp2_with (first | refine wp_ldW rfl 31 _ rfl h 0 rfl (crdC (crdF l)) _ (Kn.rng sk.out 0 rfl) u_card rfl (info_card _) ?_ | fail)
                          refine (O9 _).mono ?_
                          rintro e wz ⟨rfl, hb⟩
                          have bn : Hid (Below w.heap.size w wz) := bk.out.trans (hb.mono bk.out.size)
                          have sn : Hid (Kn wz [(h, crdC (crdF l)), (r, crdC fun _ => none)]) := sk.out.up hb
                          clear hb sk bk
                          have bk := bn
                          have sk := sn
                          clear bn sn
                          clear O9 p0
                          cases ob with
                          | true =>
                            have he := T12.out TB.out
                            clear T12 NX TB
                            have hE : E = 12 := HE.out.symm.trans he
                            have hD : D = nonF := HD.out.symm.trans (if_neg (by rw [he]; decide))
                            clear he
                            have TT : Hid (_) := Kn.there (us := crdC fun _ => none) sk.out 1 rfl rfl
                            go_wp2_with (first | refine wp_bldC rfl rfl ?_ | refine I.wp_store_eq rfl 31 _ _ rfl r 0 (crdC fun _ => none) rfl rfl TT.out (info_card _) (one_crd _) ?_ | fail)
                            intro w9 hw9
                            have s9 : Hid (Kn w9 [(r, crdC fun _ => none), (h, crdC (crdF l))]) := by
                              rw [hw9.out]
                              exact Kn.put (sk.out.front 1 rfl) rfl
                            have b9 : Hid (Below w.heap.size w w9) := by
                              rw [hw9.out]
                              exact I.below_setCells _ _ _ bk.out hrr.out
                            clear hw9 sk bk TT
                            go_wp2_with fail
                            exact bodyPost_ret (v := .tuple #[.agg (crdC fun _ => none).toArray, .int .i64 (12 : Nat)]) (results_crd rfl rfl rfl (Kn.rng s9.out 0 rfl) u_card rfl (info_card _)) rfl ⟨by rw [hE, hD]; rfl, b9.out⟩
                          | false =>
                            have no' : Hid _ := NX.out TB.out
                            clear T12 NX TB
                            go_wp2_with fail
                            go_roundw
                            case rel => exact ⟨j + 1, HJ.out, by go_num, no', sk, bk⟩
                            case measure => simp [intOf]; have := HJ.out; omega
                        · have p0 : ((sOf x.v).toList == s0.toList) = false := by rw [P0.out]; exact decide_eq_false hv
                          have no' : Hid _ := NX.out (by unfold nayB; simp [hk, hv])
                          clear T12 NX P0 P1 HI hi hk c6 hv
                          go_wp2_with (first | simp only [zero_attr] | refine wp_ldW rfl 64 _ rfl b (o + j * 2) rfl [.int .i64 (i : Int), .slice xa x.v.length xc] _ (by first | exact R1.out | exact R2.out _ _) u_attr rfl (info_attr _ _) ?_ | refine wp_conv rfl _ rfl _ x.v rfl V2.out ?_ | fail)
                          clear R1 R2 V2 u0 u1 uh
                          refine (FL0.out _).mono ?_
                          rintro e wy ⟨rfl, hb⟩
                          have bn : Hid (Below w.heap.size w wy) := bk.out.trans (hb.mono bk.out.size)
                          have sn : Hid (Kn wy [(h, crdC (crdF l)), (r, crdC fun _ => none)]) := sk.out.up hb
                          clear hb sk bk
                          have bk := bn
                          have sk := sn
                          clear bn sn
                          go_wp2_with fail
                          go_roundw
                          case rel => exact ⟨j + 1, HJ.out, by go_num, no', sk, bk⟩
                          case measure => simp [intOf]; have := HJ.out; omega
                    by_cases c8 : i = 8
                    · have q1 : ((i : Int) == 1) = false := beq_eq_false_iff_ne.2 (by omega)
                      have q4 : ((i : Int) == 4) = false := beq_eq_false_iff_ne.2 (by omega)
                      have q10 : ((i : Int) == 10) = false := beq_eq_false_iff_ne.2 (by omega)
                      have q11 : ((i : Int) == 11) = false := beq_eq_false_iff_ne.2 (by omega)
                      have q12 : ((i : Int) == 12) = false := beq_eq_false_iff_ne.2 (by omega)
                      have q5 : ((i : Int) == 5) = false := beq_eq_false_iff_ne.2 (by omega)
                      have q6 : ((i : Int) == 6) = false := beq_eq_false_iff_ne.2 (by omega)
                      have q8 : ((i : Int) == 8) = true := beq_iff_eq.2 (by omega)
                      have hk : x.k = 8 := by rw [hi.out, c8]; rfl
                      by_cases hv : x.v = [0]
                      · have p0 : ((sOf x.v).toList == s0.toList) = true := by rw [P0.out]; exact decide_eq_true hv
                        obtain ⟨ob, hob⟩ : ∃ b, Hid (oneF (crdF l) 8 = b) := ⟨_, rfl⟩
                        have O9 := ON.out 8 ob (by decide) hob.out
                        have TB : Hid (nayB (crdF l) cp x = ob) := by show _ = _; unfold nayB; simp [hk, hv, hob.out]
                        clear P0 P1 HI hi hk c8 hv hob
                        go_wp2_with (first | simp only [zero_attr] | refine wp_ldW rfl 64 _ rfl b (o + j * 2) rfl [.int .i64 (i : Int), .slice xa x.v.length xc] _ (by first | exact R1.out | exact R2.out _ _) u_attr rfl (info_attr _ _) ?_ | refine wp_conv rfl _ rfl _ x.v rfl V2.out ?_ | fail)
                        clear R1 R2 V2 u0 u1 uh
                        refine (FL0.out _).mono ?_
                        rintro e wy ⟨rfl, hb⟩
                        have bn : Hid (Below w.heap.size w wy) := bk.out.trans (hb.mono bk.out.size)
                        have sn : Hid (Kn wy [(h, crdC (crdF l)), (r, crdC fun _ => none)]) := sk.out.up hb
                        clear hb sk bk
                        have bk := bn
                        have sk := sn
                        clear bn sn
                        go_wp2_with (first | refine wp_ldW rfl 31 _ rfl h 0 rfl (crdC (crdF l)) _ (Kn.rng sk.out 0 rfl) u_card rfl (info_card _) ?_ | fail)
                        refine (O9 _).mono ?_
                        rintro e wz ⟨rfl, hb⟩
                        have bn : Hid (Below w.heap.size w wz) := bk.out.trans (hb.mono bk.out.size)
                        have sn : Hid (Kn wz [(h, crdC (crdF l)), (r, crdC fun _ => none)]) := sk.out.up hb
                        clear hb sk bk
                        have bk := bn
                        have sk := sn
                        clear bn sn
                        clear O9 p0
                        cases ob with
                        | true =>
                          have he := T12.out TB.out
                          clear T12 NX TB
                          have hE : E = 12 := HE.out.symm.trans he
                          have hD : D = nonF := HD.out.symm.trans (if_neg (by rw [he]; decide))
                          clear he
                          have TT : Hid (_) := Kn.there (us := crdC fun _ => none) sk.out 1 rfl rfl
                          go_wp2_with (first | refine wp_bldC rfl rfl ?_ | refine I.wp_store_eq rfl 31 _ _ rfl r 0 (crdC fun _ => none) rfl rfl TT.out (info_card _) (one_crd _) ?_ | fail)
                          intro w9 hw9
                          have s9 : Hid (Kn w9 [(r, crdC fun _ => none), (h, crdC (crdF l))]) := by
                            rw [hw9.out]
                            exact Kn.put (sk.out.front 1 rfl) rfl
                          have b9 : Hid (Below w.heap.size w w9) := by
                            rw [hw9.out]
                            exact I.below_setCells _ _ _ bk.out hrr.out
                          clear hw9 sk bk TT
                          go_wp2_with fail
                          exact bodyPost_ret (v := .tuple #[.agg (crdC fun _ => none).toArray, .int .i64 (12 : Nat)]) (results_crd rfl rfl rfl (Kn.rng s9.out 0 rfl) u_card rfl (info_card _)) rfl ⟨by rw [hE, hD]; rfl, b9.out⟩
                        | false =>
                          have no' : Hid _ := NX.out TB.out
                          clear T12 NX TB
                          go_wp2_with fail
                          go_roundw
                          case rel => exact ⟨j + 1, HJ.out, by go_num, no', sk, bk⟩
                          case measure => simp [intOf]; have := HJ.out; omega
                      · have p0 : ((sOf x.v).toList == s0.toList) = false := by rw [P0.out]; exact decide_eq_false hv
                        have no' : Hid _ := NX.out (by unfold nayB; simp [hk, hv])
                        clear T12 NX P0 P1 HI hi hk c8 hv
                        go_wp2_with (first | simp only [zero_attr] | refine wp_ldW rfl 64 _ rfl b (o + j * 2) rfl [.int .i64 (i : Int), .slice xa x.v.length xc] _ (by first | exact R1.out | exact R2.out _ _) u_attr rfl (info_attr _ _) ?_ | refine wp_conv rfl _ rfl _ x.v rfl V2.out ?_ | fail)
                        clear R1 R2 V2 u0 u1 uh
                        refine (FL0.out _).mono ?_
                        rintro e wy ⟨rfl, hb⟩
                        have bn : Hid (Below w.heap.size w wy) := bk.out.trans (hb.mono bk.out.size)
                        have sn : Hid (Kn wy [(h, crdC (crdF l)), (r, crdC fun _ => none)]) := sk.out.up hb
                        clear hb sk bk
                        have bk := bn
                        have sk := sn
                        clear bn sn
                        go_wp2_with fail
                        go_roundw
                        case rel => exact ⟨j + 1, HJ.out, by go_num, no', sk, bk⟩
                        case measure => simp [intOf]; have := HJ.out; omega
                    by_cases c9 : i = 9
                    · have q1 : ((i : Int) == 1) = false := beq_eq_false_iff_ne.2 (by omega)
                      have q4 : ((i : Int) == 4) = false := beq_eq_false_iff_ne.2 (by omega)
                      have q10 : ((i : Int) == 10) = false := beq_eq_false_iff_ne.2 (by omega)
                      have q11 : ((i : Int) == 11) = false := beq_eq_false_iff_ne.2 (by omega)
                      have q12 : ((i : Int) == 12) = false := beq_eq_false_iff_ne.2 (by omega)
                      have q5 : ((i : Int) == 5) = false := beq_eq_false_iff_ne.2 (by omega)
                      have q6 : ((i : Int) == 6) = false := beq_eq_false_iff_ne.2 (by omega)
                      have q8 : ((i : Int) == 8) = false := beq_eq_false_iff_ne.2 (by omega)
                      have q9 : ((i : Int) == 9) = true := beq_iff_eq.2 (by omega)
                      have hk : x.k = 9 := by rw [hi.out, c9]; rfl
                      by_cases hv : x.v = [1]
                      · have p0 : ((sOf x.v).toList == s1.toList) = true := by rw [P1.out]; exact decide_eq_true hv
                        obtain ⟨ob, hob⟩ : ∃ b, Hid (oneF (crdF l) 9 = b) := ⟨_, rfl⟩
                        have O9 := ON.out 9 ob (by decide) hob.out
                        have TB : Hid (nayB (crdF l) cp x = !ob) := by show _ = _; unfold nayB; simp [hk, hv, hob.out]
                        clear P0 P1 HI hi hk c9 hv hob
                        go_wp2_with (first | simp only [zero_attr] | refine wp_ldW rfl 64 _ rfl b (o + j * 2) rfl [.int .i64 (i : Int), .slice xa x.v.length xc] _ (by first | exact R1.out | exact R2.out _ _) u_attr rfl (info_attr _ _) ?_ | refine wp_conv rfl _ rfl _ x.v rfl V2.out ?_ | fail)
                        clear R1 R2 V2 u0 u1 uh
                        refine (FL1.out _).mono ?_
                        rintro e wy ⟨rfl, hb⟩
                        have bn : Hid (Below w.heap.size w wy) := bk.out.trans (hb.mono bk.out.size)
                        have sn : Hid (Kn wy [(h, crdC (crdF l)), (r, crdC fun _ => none)]) := sk.out.up hb
                        clear hb sk bk
                        have bk := bn
                        have sk := sn
                        clear bn sn
                        go_wp2_with (first | refine wp_ldW rfl 31 _ rfl h 0 rfl (crdC (crdF l)) _ (Kn.rng sk.out 0 rfl) u_card rfl (info_card _) ?_ | fail)
                        refine (O9 _).mono ?_
                        rintro e wz ⟨rfl, hb⟩
                        have bn : Hid (Below w.heap.size w wz) := bk.out.trans (hb.mono bk.out.size)
                        have sn : Hid (Kn wz [(h, crdC (crdF l)), (r, crdC fun _ => none)]) := sk.out.up hb
                        clear hb sk bk
                        have bk := bn
                        have sk := sn
                        clear bn sn
                        clear O9 p0
                        cases ob with
                        | false =>
                          have he := T12.out TB.out
                          clear T12 NX TB
                          have hE : E = 12 := HE.out.symm.trans he
                          have hD : D = nonF := HD.out.symm.trans (if_neg (by rw [he]; decide))
                          clear he
                          have TT : Hid (_) := Kn.there (us := crdC fun _ => none) sk.out 1 rfl rfl
                          go_wp2_with (first | refine wp_bldC rfl rfl ?_ | refine I.wp_store_eq rfl 31 _ _ rfl r 0 (crdC fun _ => none) rfl rfl TT.out (info_card _) (one_crd _) ?_ | fail)
                          intro w9 hw9
                          have s9 : Hid (Kn w9 [(r, crdC fun _ => none), (h, crdC (crdF l))]) := by
                            rw [hw9.out]
                            exact Kn.put (sk.out.front 1 rfl) rfl
                          have b9 : Hid (Below w.heap.size w w9) := by
                            rw [hw9.out]
                            exact I.below_setCells _ _ _ bk.out hrr.out
                          clear hw9 sk bk TT
                          go_wp2_with fail
                          exact bodyPost_ret (v := .tuple #[.agg (crdC fun _ => none).toArray, .int .i64 (12 : Nat)]) (results_crd rfl rfl rfl (Kn.rng s9.out 0 rfl) u_card rfl (info_card _)) rfl ⟨by rw [hE, hD]; rfl, b9.out⟩
                        | true =>
                          have no' : Hid _ := NX.out TB.out
                          clear T12 NX TB
                          go_wp2_with fail
                          go_roundw
                          case rel => exact ⟨j + 1, HJ.out, by go_num, no', sk, bk⟩
                          case measure => simp [intOf]; have := HJ.out; omega
                      · have p0 : ((sOf x.v).toList == s1.toList) = false := by rw [P1.out]; exact decide_eq_false hv
                        have no' : Hid _ := NX.out (by unfold nayB; simp [hk, hv])
                        clear T12 NX P0 P1 HI hi hk c9 hv
                        go_wp2_with (first | simp only [zero_attr] | refine wp_ldW rfl 64 _ rfl b (o + j * 2) rfl [.int .i64 (i : Int), .slice xa x.v.length xc] _ (by first | exact R1.out | exact R2.out _ _) u_attr rfl (info_attr _ _) ?_ | refine wp_conv rfl _ rfl _ x.v rfl V2.out ?_ | fail)
                        clear R1 R2 V2 u0 u1 uh
                        refine (FL1.out _).mono ?_
                        rintro e wy ⟨rfl, hb⟩
                        have bn : Hid (Below w.heap.size w wy) := bk.out.trans (hb.mono bk.out.size)
                        have sn : Hid (Kn wy [(h, crdC (crdF l)), (r, crdC fun _ => none)]) := sk.out.up hb
                        clear hb sk bk
                        have bk := bn
                        have sk := sn
                        clear bn sn
                        go_wp2_with fail
                        go_roundw
                        case rel => exact ⟨j + 1, HJ.out, by go_num, no', sk, bk⟩
                        case measure => simp [intOf]; have := HJ.out; omega
                    have q1 : ((i : Int) == 1) = false := beq_eq_false_iff_ne.2 (by omega)
                    have q4 : ((i : Int) == 4) = false := beq_eq_false_iff_ne.2 (by omega)
                    have q10 : ((i : Int) == 10) = false := beq_eq_false_iff_ne.2 (by omega)
                    have q11 : ((i : Int) == 11) = false := beq_eq_false_iff_ne.2 (by omega)
                    have q12 : ((i : Int) == 12) = false := beq_eq_false_iff_ne.2 (by omega)
                    have q5 : ((i : Int) == 5) = false := beq_eq_false_iff_ne.2 (by omega)
                    have q6 : ((i : Int) == 6) = false := beq_eq_false_iff_ne.2 (by omega)
                    have q8 : ((i : Int) == 8) = false := beq_eq_false_iff_ne.2 (by omega)
                    have q9 : ((i : Int) == 9) = false := beq_eq_false_iff_ne.2 (by omega)
                    have no' : Hid _ := NX.out (by
                      have h9 : ∀ m : Int, (i : Int) ≠ m → x.k ≠ m := fun m h => by rw [hi.out]; exact h
                      unfold nayB
                      simp [h9 1 (by omega), h9 4 (by omega), h9 10 (by omega), h9 11 (by omega), h9 12 (by omega), h9 5 (by omega), h9 6 (by omega), h9 8 (by omega), h9 9 (by omega)])
                    clear T12 NX P0 P1 HI hi c1 c4 c10 c11 c12 c5 c6 c8 c9
                    go_wp2_with (first | simp only [zero_attr] | refine wp_ldW rfl 64 _ rfl b (o + j * 2) rfl [.int .i64 (i : Int), .slice xa x.v.length xc] _ (by first | exact R1.out | exact R2.out _ _) u_attr rfl (info_attr _ _) ?_ | refine wp_conv rfl _ rfl _ x.v rfl V2.out ?_ | fail)
                    clear R1 R2 V2 u0 u1 uh
                    go_wp2_with fail
                    go_roundw
                    case rel => exact ⟨j + 1, HJ.out, by go_num, no', sk, bk⟩
                    case measure => simp [intOf]; have := HJ.out; omega
                · have i1 : ¬ (j : Int) < (n : Int) := by omega
                  have e9 : badT (crdF l) cp t = 0 := by
                    rw [no.out, List.drop_of_length_le (by have := HNN.out; omega)]
                    rfl
                  have E2 : Hid _ := E1.out e9
                  have CF : Hid (∀ W, Below w.heap.size w W → Calls Try.prog 42 #[.slice ua n uc] W fun e w' => e = .returned (.agg (crdC (crdF t)).toArray) ∧ Below W.heap.size W w') := fun W hW => cardOf_fun t (by have := HNN.out; omega) _ W (HU.out.up hW (Nat.le_refl _))
                  have UPC : Hid (∀ W, Calls Try.prog 46 #[.agg (crdC (crdF l)).toArray, .agg (crdC (crdF t)).toArray] W fun e w' => e = .returned (.agg (crdC (crdF (t ++ l))).toArray) ∧ Below W.heap.size W w') := fun W => by rw [← ovF_crd]; exact upon_walk (crdF l) (crdF t) W
                  have lowG : lowF (crdF (t ++ l)) := crdF_low fun x hx => by
                    rcases List.mem_append.1 hx with hx | hx
                    · exact LL.out.2.2 x hx
                    · exact LL.out.2.1 x hx
                  have OB := fun W => object_fun (crdF (t ++ l)) lowG W
                  obtain ⟨ob, hob⟩ : ∃ b, Hid (objF (crdF (t ++ l)) = b) := ⟨_, rfl⟩
                  rw [hob.out] at OB
                  have DG : Hid (trnE l t cp = 0 → D = crdF (t ++ l)) := fun e => HD.out.symm.trans (if_pos e)
                  clear hlt hj no e9 E0 E1 HX FL0 FL1 ON
                  go_upto_region 34 with fail
                  go_cut [14] from 110 (fun s wx => ∃ g, s = .pointer (some ⟨g, 0, none⟩) ∧ Hid (w.heap.size ≤ g) ∧ Hid (Kn wx [(g, crdC (crdF (t ++ l))), (h, crdC (crdF l)), (r, crdC fun _ => none)]) ∧ Hid (Below w.heap.size w wx))
                  case first =>
                    clear OB E2 hob DG
                    go_wp2_with fail
                    have W0 : Kn { wr with drawn := wr.drawn + 1 } _ := sk.out.up (Below.refl _ _).drew
                    have B0 : Below w.heap.size w { wr with drawn := wr.drawn + 1 } := bk.out.drew
                    have S0 : Hid (({ wr with drawn := wr.drawn + 1 } : World).rangeAt h 0 (crdC (crdF l))) := Kn.rng W0 0 rfl
                    clear sk bk
                    refine wp_region_held (S := fun W => W.rangeAt h 0 (crdC (crdF l))) (by kernel_rfl) ?_
                    refine wpAnyH_take (i := 0) (v := (.agg (crdC (crdF l)).toArray)) (fuel := 5) rfl (by kernel_rfl) (by kernel_rfl) (by kernel_rfl) (fun _ _ _ h => h) (.inl ⟨wanted_none rfl, fun W hW => exec_ldR 31 (.tmp 8) rfl h 0 (by kernel_rfl) (crdC (crdF l)) _ hW u_card rfl (info_card _)⟩) S0.out ?_
                    simp only [List.getElem_toArray, List.getElem_cons_succ, List.getElem_cons_zero, Act.put, List.setIfInBounds_toArray, List.set_cons_succ, List.set_cons_zero]
                    refine wpAnyH_take (i := 1) (v := (.slice ua n uc)) rfl (by kernel_rfl) (by kernel_rfl) (by kernel_rfl) (fun _ _ _ h => h) (.inl ⟨wanted_none rfl, fun W hW => exec_mvM (.tmp 1) rfl (by kernel_rfl) W⟩) S0.out ?_
                    simp only [List.getElem_toArray, List.getElem_cons_succ, List.getElem_cons_zero, Act.put, List.setIfInBounds_toArray, List.set_cons_succ, List.set_cons_zero]
                    refine anyH_two (i := 2) (k := 4) (by kernel_rfl) ?_ ?_
                    · refine anyH_y (φ := (MP.eq (.agg (crdC (crdF t)).toArray)).p) rfl (wanted_none rfl) (yields_call1 cfCardOf (.tmp 111) _ rfl (.slice ua n uc) (by kernel_rfl) ((CF.out _ B0).mono fun e w' ⟨he, hb⟩ => ⟨_, he, rfl, hb⟩)) ?_
                      intro c1 w1' e1 hb1
                      obtain rfl : c1 = .agg (crdC (crdF t)).toArray := e1
                      have K1 := W0.up hb1
                      have B1 : Below w.heap.size w w1' := B0.trans (hb1.mono B0.size)
                      refine ⟨Kn.rng K1 0 rfl, ?_⟩
                      clear W0 B0 S0 hb1
                      simp only [List.getElem_toArray, List.getElem_cons_succ, List.getElem_cons_zero, Act.put, List.setIfInBounds_toArray, List.set_cons_succ, List.set_cons_zero]
                      refine anyH_two (i := 3) (k := 4) (by kernel_rfl) ?_ ?_
                      · refine anyH_y (φ := (MP.eq (.agg (crdC (crdF (t ++ l))).toArray)).p) rfl (wanted_none rfl) (yields_call2 cfUpon (.tmp 110) (.tmp 112) _ rfl (.agg (crdC (crdF l)).toArray) (.agg (crdC (crdF t)).toArray) (by kernel_rfl) (by kernel_rfl) ((UPC.out _).mono fun e w' ⟨he, hb⟩ => ⟨_, he, rfl, hb⟩)) ?_
                        intro c2 w2' e2 hb2
                        obtain rfl : c2 = .agg (crdC (crdF (t ++ l))).toArray := e2
                        have K2 := K1.up hb2
                        have B2 : Below w.heap.size w w2' := B1.trans (hb2.mono B1.size)
                        refine ⟨Kn.rng K2 0 rfl, ?_⟩
                        clear K1 B1 hb2
                        simp only [List.getElem_toArray, List.getElem_cons_succ, List.getElem_cons_zero, Act.put, List.setIfInBounds_toArray, List.set_cons_succ, List.set_cons_zero]
                        refine anyH_one (i := 4) (by kernel_rfl) ?_
                        refine anyH_y (φ := _) rfl (wanted_none rfl) (yields_mkC rfl zero_card (Nat.le_refl _)) ?_
                        rintro c3 w3' ⟨g, rfl, hg, hcg⟩ hb3
                        have K3 : Kn w3' _ := K2.fresh hb3 hg hcg
                        have B3 : Below w.heap.size w w3' := B2.trans (hb3.mono B2.size)
                        have hg' : w.heap.size ≤ g := Nat.le_trans B2.size hg
                        refine ⟨Kn.rng K3 1 rfl, ?_⟩
                        clear K2 B2 hb3 hcg hg
                        simp only [List.getElem_toArray, List.getElem_cons_succ, List.getElem_cons_zero, Act.put, List.setIfInBounds_toArray, List.set_cons_succ, List.set_cons_zero]
                        refine anyH_one (i := 5) (by kernel_rfl) ?_
                        refine anyH_l rfl (I.wp_store_eq rfl 31 (.tmp 14) (.tmp 113) rfl g 0 (crdC (crdF (t ++ l))) (by kernel_rfl) (by kernel_rfl) (Kn.there K3 0 rfl (by simp [crdC_length])) (info_card _) (one_crd _) ?_)
                        intro w4' hw4
                        have K4 : Kn w4' [(g, crdC (crdF (t ++ l))), (h, crdC (crdF l)), (r, crdC fun _ => none)] := by rw [hw4.out]; exact Kn.put K3 (by rw [crdC_length, crdC_length])
                        have B4 : Below w.heap.size w w4' := by rw [hw4.out]; exact I.below_setCells _ _ _ B3 hg'
                        clear hw4 K3 B3
                        refine anyH_end ⟨Kn.rng K4 1 rfl, ?_⟩
                        simp only [List.getElem_toArray, List.getElem_cons_succ, List.getElem_cons_zero, Act.put, List.setIfInBounds_toArray, List.set_cons_succ, List.set_cons_zero]
                        refine wpAnyH_done (by kernel_rfl) ?_ _
                        have K5 : Hid _ := K4
                        have B5 : Hid _ := B4
                        clear K4 B4
                        go_wp2_with fail
                        go_meet
                        case rel => exact ⟨_, rfl, hg', K5, B5⟩
                      · refine anyH_y (φ := _) rfl (wanted_none rfl) (yields_mkC rfl zero_card (Nat.le_refl _)) ?_
                        rintro c3 w3' ⟨g, rfl, hg, hcg⟩ hb3
                        have K3 : Kn w3' _ := K1.fresh hb3 hg hcg
                        have B3 : Below w.heap.size w w3' := B1.trans (hb3.mono B1.size)
                        have hg' : w.heap.size ≤ g := Nat.le_trans B1.size hg
                        refine ⟨Kn.rng K3 1 rfl, ?_⟩
                        clear K1 B1 hb3 hcg hg
                        simp only [List.getElem_toArray, List.getElem_cons_succ, List.getElem_cons_zero, Act.put, List.setIfInBounds_toArray, List.set_cons_succ, List.set_cons_zero]
                        refine anyH_one (i := 3) (by kernel_rfl) ?_
                        refine anyH_y (φ := (MP.eq (.agg (crdC (crdF (t ++ l))).toArray)).p) rfl (wanted_none rfl) (yields_call2 cfUpon (.tmp 110) (.tmp 112) _ rfl (.agg (crdC (crdF l)).toArray) (.agg (crdC (crdF t)).toArray) (by kernel_rfl) (by kernel_rfl) ((UPC.out _).mono fun e w' ⟨he, hb⟩ => ⟨_, he, rfl, hb⟩)) ?_
                        intro c2 w2' e2 hb2
                        obtain rfl : c2 = .agg (crdC (crdF (t ++ l))).toArray := e2
                        have K2 := K3.up hb2
                        have B2 : Below w.heap.size w w2' := B3.trans (hb2.mono B3.size)
                        refine ⟨Kn.rng K2 1 rfl, ?_⟩
                        clear K3 B3 hb2
                        simp only [List.getElem_toArray, List.getElem_cons_succ, List.getElem_cons_zero, Act.put, List.setIfInBounds_toArray, List.set_cons_succ, List.set_cons_zero]
                        refine anyH_one (i := 5) (by kernel_rfl) ?_
                        refine anyH_l rfl (I.wp_store_eq rfl 31 (.tmp 14) (.tmp 113) rfl g 0 (crdC (crdF (t ++ l))) (by kernel_rfl) (by kernel_rfl) (Kn.there K2 0 rfl (by simp [crdC_length])) (info_card _) (one_crd _) ?_)
                        intro w4' hw4
                        have K4 : Kn w4' [(g, crdC (crdF (t ++ l))), (h, crdC (crdF l)), (r, crdC fun _ => none)] := by rw [hw4.out]; exact Kn.put K2 (by rw [crdC_length, crdC_length])
                        have B4 : Below w.heap.size w w4' := by rw [hw4.out]; exact I.below_setCells _ _ _ B2 hg'
                        clear hw4 K2 B2
                        refine anyH_end ⟨Kn.rng K4 1 rfl, ?_⟩
                        simp only [List.getElem_toArray, List.getElem_cons_succ, List.getElem_cons_zero, Act.put, List.setIfInBounds_toArray, List.set_cons_succ, List.set_cons_zero]
                        refine wpAnyH_done (by kernel_rfl) ?_ _
                        have K5 : Hid _ := K4
                        have B5 : Hid _ := B4
                        clear K4 B4
                        go_wp2_with fail
                        go_meet
                        case rel => exact ⟨_, rfl, hg', K5, B5⟩
                    · refine anyH_y (φ := _) rfl (wanted_none rfl) (yields_mkC rfl zero_card (Nat.le_refl _)) ?_
                      rintro c0 w0' ⟨g, rfl, hg, hcg⟩ hb0
                      have K0 : Kn w0' _ := W0.fresh hb0 hg hcg
                      have B0' : Below w.heap.size w w0' := B0.trans (hb0.mono B0.size)
                      have hg' : w.heap.size ≤ g := Nat.le_trans B0.size hg
                      refine ⟨Kn.rng K0 1 rfl, ?_⟩
                      clear W0 B0 S0 hb0 hcg hg
                      simp only [List.getElem_toArray, List.getElem_cons_succ, List.getElem_cons_zero, Act.put, List.setIfInBounds_toArray, List.set_cons_succ, List.set_cons_zero]
                      refine anyH_one (i := 2) (by kernel_rfl) ?_
                      refine anyH_y (φ := (MP.eq (.agg (crdC (crdF t)).toArray)).p) rfl (wanted_none rfl) (yields_call1 cfCardOf (.tmp 111) _ rfl (.slice ua n uc) (by kernel_rfl) ((CF.out _ B0').mono fun e w' ⟨he, hb⟩ => ⟨_, he, rfl, hb⟩)) ?_
                      intro c1 w1' e1 hb1
                      obtain rfl : c1 = .agg (crdC (crdF t)).toArray := e1
                      have K3 := K0.up hb1
                      have B3 : Below w.heap.size w w1' := B0'.trans (hb1.mono B0'.size)
                      refine ⟨Kn.rng K3 1 rfl, ?_⟩
                      clear K0 B0' hb1
                      simp only [List.getElem_toArray, List.getElem_cons_succ, List.getElem_cons_zero, Act.put, List.setIfInBounds_toArray, List.set_cons_succ, List.set_cons_zero]
                      refine anyH_one (i := 3) (by kernel_rfl) ?_
                      refine anyH_y (φ := (MP.eq (.agg (crdC (crdF (t ++ l))).toArray)).p) rfl (wanted_none rfl) (yields_call2 cfUpon (.tmp 110) (.tmp 112) _ rfl (.agg (crdC (crdF l)).toArray) (.agg (crdC (crdF t)).toArray) (by kernel_rfl) (by kernel_rfl) ((UPC.out _).mono fun e w' ⟨he, hb⟩ => ⟨_, he, rfl, hb⟩)) ?_
                      intro c2 w2' e2 hb2
                      obtain rfl : c2 = .agg (crdC (crdF (t ++ l))).toArray := e2
                      have K2 := K3.up hb2
                      have B2 : Below w.heap.size w w2' := B3.trans (hb2.mono B3.size)
                      refine ⟨Kn.rng K2 1 rfl, ?_⟩
                      clear K3 B3 hb2
                      simp only [List.getElem_toArray, List.getElem_cons_succ, List.getElem_cons_zero, Act.put, List.setIfInBounds_toArray, List.set_cons_succ, List.set_cons_zero]
                      refine anyH_one (i := 5) (by kernel_rfl) ?_
                      refine anyH_l rfl (I.wp_store_eq rfl 31 (.tmp 14) (.tmp 113) rfl g 0 (crdC (crdF (t ++ l))) (by kernel_rfl) (by kernel_rfl) (Kn.there K2 0 rfl (by simp [crdC_length])) (info_card _) (one_crd _) ?_)
                      intro w4' hw4
                      have K4 : Kn w4' [(g, crdC (crdF (t ++ l))), (h, crdC (crdF l)), (r, crdC fun _ => none)] := by rw [hw4.out]; exact Kn.put K2 (by rw [crdC_length, crdC_length])
                      have B4 : Below w.heap.size w w4' := by rw [hw4.out]; exact I.below_setCells _ _ _ B2 hg'
                      clear hw4 K2 B2
                      refine anyH_end ⟨Kn.rng K4 1 rfl, ?_⟩
                      simp only [List.getElem_toArray, List.getElem_cons_succ, List.getElem_cons_zero, Act.put, List.setIfInBounds_toArray, List.set_cons_succ, List.set_cons_zero]
                      refine wpAnyH_done (by kernel_rfl) ?_ _
                      have K5 : Hid _ := K4
                      have B5 : Hid _ := B4
                      clear K4 B4
                      go_wp2_with fail
                      go_meet
                      case rel => exact ⟨_, rfl, hg', K5, B5⟩
                  case rest =>
                    clear sk bk CF UPC
                    obtain ⟨g, rfl, hg, sk, bk⟩ := hcut
                    go_wp2_with (first | refine wp_ldW rfl 31 _ rfl g 0 rfl (crdC (crdF (t ++ l))) _ (Kn.rng sk.out 0 rfl) u_card rfl (info_card _) ?_ | fail)
                    refine (OB _).mono ?_
                    rintro e wz ⟨rfl, hb⟩
                    have bn : Hid (Below w.heap.size w wz) := bk.out.trans (hb.mono bk.out.size)
                    have sn : Hid (Kn wz [(g, crdC (crdF (t ++ l))), (h, crdC (crdF l)), (r, crdC fun _ => none)]) := sk.out.up hb
                    clear hb sk bk OB
                    cases ob with
                    | true =>
                      have he : trnE l t cp = 0 := E2.out.trans (if_pos hob.out)
                      have hE : E = 0 := HE.out.symm.trans he
                      have hD := DG.out he
                      have TT : Hid (_) := Kn.there (us := crdC (crdF (t ++ l))) sn.out 2 rfl (by simp [crdC_length])
                      clear he E2 hob DG
                      go_wp2_with (first | refine wp_ldW rfl 31 _ rfl g 0 rfl (crdC (crdF (t ++ l))) _ (Kn.rng sn.out 0 rfl) u_card rfl (info_card _) ?_ | refine I.wp_store_eq rfl 31 _ _ rfl r 0 (crdC (crdF (t ++ l))) rfl rfl TT.out (info_card _) (one_crd _) ?_ | fail)
                      intro w9 hw9
                      have s9 : Hid (Kn w9 [(r, crdC (crdF (t ++ l))), (g, crdC (crdF (t ++ l))), (h, crdC (crdF l))]) := by
                        rw [hw9.out]
                        exact Kn.put (sn.out.front 2 rfl) (by rw [crdC_length, crdC_length])
                      have b9 : Hid (Below w.heap.size w w9) := by
                        rw [hw9.out]
                        exact I.below_setCells _ _ _ bn.out hrr.out
                      clear hw9 sn bn TT
                      go_wp2_with fail
                      exact bodyPost_ret (v := .tuple #[.agg (crdC (crdF (t ++ l))).toArray, .int .i64 (0 : Nat)]) (results_crd rfl rfl rfl (Kn.rng s9.out 0 rfl) u_card rfl (info_card _)) rfl ⟨by rw [hE, hD], b9.out⟩
                    | false =>
                      have he : trnE l t cp = 12 := E2.out.trans (if_neg (by rw [hob.out]; decide))
                      have bk := bn
                      have sk : Hid (Kn wz [(h, crdC (crdF l)), (r, crdC fun _ => none)]) := sn.out.drop 0
                      clear E2 hob DG bn sn
                      have hE : E = 12 := HE.out.symm.trans he
                      have hD : D = nonF := HD.out.symm.trans (if_neg (by rw [he]; decide))
                      clear he
                      have TT : Hid (_) := Kn.there (us := crdC fun _ => none) sk.out 1 rfl rfl
                      go_wp2_with (first | refine wp_bldC rfl rfl ?_ | refine I.wp_store_eq rfl 31 _ _ rfl r 0 (crdC fun _ => none) rfl rfl TT.out (info_card _) (one_crd _) ?_ | fail)
                      intro w9 hw9
                      have s9 : Hid (Kn w9 [(r, crdC fun _ => none), (h, crdC (crdF l))]) := by
                        rw [hw9.out]
                        exact Kn.put (sk.out.front 1 rfl) rfl
                      have b9 : Hid (Below w.heap.size w w9) := by
                        rw [hw9.out]
                        exact I.below_setCells _ _ _ bk.out hrr.out
                      clear hw9 sk bk TT
                      go_wp2_with fail
                      exact bodyPost_ret (v := .tuple #[.agg (crdC fun _ => none).toArray, .int .i64 (12 : Nat)]) (results_crd rfl rfl rfl (Kn.rng s9.out 0 rfl) u_card rfl (info_card _)) rfl ⟨by rw [hE, hD]; rfl, b9.out⟩
        · have he : trnE l t cp = ft := by
            unfold trnE
            rw [if_neg (by rw [HVl.out]; decide), if_pos (by rw [hft.out]; exact h1), hft.out]
          have fn : ((ft : Int) != 0) = true := bne_iff_ne.2 (by omega)
          clear HVl hft
          have hE : E = ft := HE.out.symm.trans he
          have hD : D = nonF := HD.out.symm.trans (if_neg (by rw [he]; exact h1))
          clear he
          have TT : Hid (_) := Kn.there (us := crdC fun _ => none) sk.out 1 rfl rfl
          go_wp2_with (first | refine wp_bldC rfl rfl ?_ | refine I.wp_store_eq rfl 31 _ _ rfl r 0 (crdC fun _ => none) rfl rfl TT.out (info_card _) (one_crd _) ?_ | fail)
          intro w9 hw9
          have s9 : Hid (Kn w9 [(r, crdC fun _ => none), (h, crdC (crdF l))]) := by
            rw [hw9.out]
            exact Kn.put (sk.out.front 1 rfl) rfl
          have b9 : Hid (Below w.heap.size w w9) := by
            rw [hw9.out]
            exact I.below_setCells _ _ _ bk.out hrr.out
          clear hw9 sk bk TT
          go_wp2_with fail
          exact bodyPost_ret (v := .tuple #[.agg (crdC fun _ => none).toArray, .int .i64 (ft : Nat)]) (results_crd rfl rfl rfl (Kn.rng s9.out 0 rfl) u_card rfl (info_card _)) rfl ⟨by rw [hE, hD]; rfl, b9.out⟩
    · have he : trnE l t cp = 1 := by
        unfold trnE
        rw [if_pos (by rw [HS.out, hfl.out, decide_eq_false h0]; rfl)]
      have fn : ((fl : Int) != 0) = true := bne_iff_ne.2 (by omega)
      clear HS hfl h0
      have hE : E = 1 := HE.out.symm.trans he
      have hD : D = nonF := HD.out.symm.trans (if_neg (by rw [he]; decide))
      clear he
      have TT : Hid (_) := Kn.there (us := crdC fun _ => none) sk.out 1 rfl rfl
      go_wp2_with (first | refine wp_bldC rfl rfl ?_ | refine I.wp_store_eq rfl 31 _ _ rfl r 0 (crdC fun _ => none) rfl rfl TT.out (info_card _) (one_crd _) ?_ | fail)
      intro w9 hw9
      have s9 : Hid (Kn w9 [(r, crdC fun _ => none), (h, crdC (crdF l))]) := by
        rw [hw9.out]
        exact Kn.put (sk.out.front 1 rfl) rfl
      have b9 : Hid (Below w.heap.size w w9) := by
        rw [hw9.out]
        exact I.below_setCells _ _ _ bk.out hrr.out
      clear hw9 sk bk TT
      go_wp2_with fail
      exact bodyPost_ret (v := .tuple #[.agg (crdC fun _ => none).toArray, .int .i64 (1 : Nat)]) (results_crd rfl rfl rfl (Kn.rng s9.out 0 rfl) u_card rfl (info_card _)) rfl ⟨by rw [hE, hD]; rfl, b9.out⟩
/-- Turned. -/
theorem turned_fun (l t : List Ar) (cp : Bool) (hs : l.length ≤ 4611686018427387904) (lo : ∀ x ∈ l, lowB x.v) (lt : ∀ x ∈ t, lowB x.v) (v u : Value) (w : World) (hv : Ats w v l) (hu : Ats w u t) :
    Calls Try.prog 21 #[v, u, .bool cp] w fun e w' => e = .returned (.tuple #[.agg (crdC (trnF l t cp)).toArray, .int .i64 ((trnE l t cp : Nat) : Int)]) ∧ Below w.heap.size w w' :=
  turned_walk l t v u cp _ _ hs lo lt w rfl rfl hv hu
end Go.Proofs.Ytepaapiflkkghaa
