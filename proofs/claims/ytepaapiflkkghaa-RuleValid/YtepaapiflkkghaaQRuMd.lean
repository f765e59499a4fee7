/- An object made, as the document has it. -/
import Derived.Test.YtepaapiflkkghaaQAtFfToRuC
import Derived.Test.YtepaapiflkkghaaQAtFt
import Derived.Deep.CutRange
namespace Go.Proofs.Ytepaapiflkkghaa
open Go.RowKit
attribute [local go_sem] World.cell?_alloc_some cell_alloc2 cell_alloc3 cell_alloc4 frozen?_alloc_cells frozen_out
set_option linter.unusedSimpArgs false
theorem crdC_hasS {f : Crd} {i : Nat} (hi : i < 19) (hn : f i = none) : (crdC f).set i (.bool true) = crdC (putF f i []) := by
  rw [← crdC_put f hi []]
  have h1 : ((crdC f).set i (.bool true))[19 + i]? = some (.string (sOf [])) := by
    rw [List.getElem?_set_ne (by omega), crdC_val f hi, hn]
    rfl
  obtain ⟨h2, h3⟩ := List.getElem?_eq_some_iff.1 h1
  conv => lhs; rw [← List.set_getElem_self h2]
  rw [h3]
theorem crdC_valS {f : Crd} {i : Nat} (hi : i < 19) (v : List Nat) (hn : (f i).isSome = true) : (crdC f).set (19 + i) (.string (sOf v)) = crdC (putF f i v) := by
  rw [← crdC_put f hi v]
  have h1 : (crdC f)[i]? = some (.bool true) := by rw [crdC_has f hi, hn]
  obtain ⟨h2, h3⟩ := List.getElem?_eq_some_iff.1 h1
  conv => lhs; rw [← List.set_getElem_self h2]
  rw [h3]
set_option maxRecDepth 20000 in
set_option maxHeartbeats 16000000 in
theorem made_walk (t : List Ar) (v : Value) (lb : Bool) (E : Nat) (D : Crd) (hs : t.length ≤ 4611686018427387904) (lo : ∀ x ∈ t, lowB x.v) (w : World) (HE : Hid (madE t lb = E)) (HD : Hid (madF t lb = D)) (HU : Hid (Ats w v t)) :
    Calls Try.prog 11 #[v, .bool lb] w fun e w' => e = .returned (.tuple #[.agg (crdC D).toArray, .int .i64 (E : Int)]) ∧ Below w.heap.size w w' := by
  have LL : Hid (∀ x ∈ t, lowB x.v) := lo
  have s0 : Hid (Kn (w.alloc (.cells (crdC fun _ => none).toArray 31)) [(w.heap.size, crdC fun _ => none)]) := (Kn.nil w).al (crdC fun _ => none) 31 rfl
  have b0 : Hid (Below w.heap.size w (w.alloc (.cells (crdC fun _ => none).toArray 31))) := (Below.refl _ _).alloc (Nat.le_refl _) _
  have F1 := attrsFault_fun v t _ (HU.out.up b0.out (Nat.le_refl _))
  obtain ⟨ft, hft⟩ : ∃ f, Hid (fltA t = f) := ⟨_, rfl⟩
  rw [hft.out] at F1
  have C1 := fun W h => cardOf_fun t hs v W h
  clear hs lo
  obtain ⟨r, hr⟩ : ∃ r, w.heap.size = r := ⟨_, rfl⟩
  have hrr : Hid (w.heap.size ≤ r) := Nat.le_of_eq hr
  rw [hr] at s0
  go_enter Try.func11, Try.ntmps11
  go_wp2_with (simp only [zero_card])
  refine F1.mono ?_
  clear hr
  rintro e w1 ⟨rfl, hb⟩
  have bk : Hid (Below w.heap.size w w1) := b0.out.trans (hb.mono b0.out.size)
  have sk : Hid (Kn w1 [(r, crdC fun _ => none)]) := s0.out.up hb
  clear hb F1 s0 b0
  by_cases hf : ft = 0
  · subst hf
    have C2 := C1 w1 (HU.out.up bk.out (Nat.le_refl _))
    clear C1
    go_wp2_with fail
    refine C2.mono ?_
    rintro e w2 ⟨rfl, hb⟩
    have b2 : Hid (Below w.heap.size w w2) := bk.out.trans (hb.mono bk.out.size)
    have s2 : Hid (Kn w2 [(r, crdC fun _ => none)]) := sk.out.up hb
    clear hb sk bk C2
    have b1 : Hid (Below w.heap.size w (w2.alloc (.cells (crdC fun _ => none).toArray 31))) := b2.out.alloc b2.out.size _
    have s1 : Hid (Kn (w2.alloc (.cells (crdC fun _ => none).toArray 31)) [(w2.heap.size, crdC fun _ => none), (r, crdC fun _ => none)]) := s2.out.al (crdC fun _ => none) 31 rfl
    have TT : Hid ((w2.alloc (.cells (crdC fun _ => none).toArray 31)).there w2.heap.size 0 (crdC (crdF t)).length) := Kn.there s1.out 0 rfl (by simp [crdC_length])
    have z2 : Hid (w.heap.size ≤ w2.heap.size) := b2.out.size
    clear s2 b2
    go_wp2_with (first | simp only [zero_card] | refine I.wp_store_eq rfl 31 _ _ rfl w2.heap.size 0 (crdC (crdF t)) rfl rfl TT.out (info_card _) (one_crd _) ?_)
    intro w3 hw3
    have sk : Hid (Kn w3 [(w2.heap.size, crdC (crdF t)), (r, crdC fun _ => none)]) := by
      rw [hw3.out]
      exact Kn.put s1.out (by simp [crdC_length])
    have bk : Hid (Below w.heap.size w w3) := by
      rw [hw3.out]
      exact I.below_setCells _ _ _ b1.out z2.out
    clear hw3 s1 b1 TT z2
    generalize w2.heap.size = h at sk ⊢
    have CL := fun W => class_fun (crdF t) (crdF_low LL.out) W
    have HC : Hid (clsF (crdF t) < 256) := clsF_low (crdF_low LL.out)
    obtain ⟨c, hc⟩ : ∃ c, Hid (clsF (crdF t) = c) := ⟨_, rfl⟩
    rw [hc.out] at CL HC
    have HG := (fltA_zero t).1 hft.out
    have HX : Hid (∀ x ∈ t, x.good) := HG.2.1
    have HN : Hid (t.length ≤ 24) := HG.1
    clear HG
    go_wp2_with (first | refine wp_ldW rfl 31 _ rfl h 0 rfl (crdC (crdF t)) _ (Kn.rng sk.out 0 rfl) u_card rfl (info_card _) ?_ | fail)
    refine (CL _).mono ?_
    rintro e w4 ⟨rfl, hb⟩
    have bn : Hid (Below w.heap.size w w4) := bk.out.trans (hb.mono bk.out.size)
    have sn : Hid (Kn w4 [(h, crdC (crdF t)), (r, crdC fun _ => none)]) := sk.out.up hb
    clear hb sk bk
    have bk := bn
    have sk := sn
    clear bn sn
    clear CL
    by_cases hc0 : c = 0
    · have he : madE t lb = 1 := by
        unfold madE
        rw [if_neg (fun h => h hft.out), if_pos (by rw [hc.out]; exact hc0)]
      have fn : ((c : Int) == 0) = true := beq_iff_eq.2 (by omega)
      clear hft hc hc0 HX HN HC
      have hE : E = 1 := HE.out.symm.trans he
      have hD : D = nonF := HD.out.symm.trans (if_neg (by rw [he]; decide))
      clear he
      have TT : Hid (_) := Kn.there (us := crdC fun _ => none) sk.out 1 rfl rfl
      go_wp2_with (first | refine wp_bldC rfl rfl ?_ | refine I.wp_store_eq rfl 31 _ _ rfl r 0 (crdC fun _ => none) rfl rfl TT.out (info_card _) (one_crd _) ?_   | fail)
      intro w9 hw9
      have s9 := Kn.put (us := crdC fun _ => none) (sk.out.front 1 rfl) rfl
      rw [← hw9.out] at s9
      have S9 : Hid _ := s9
      have b9 : Hid (Below w.heap.size w w9) := by
        rw [hw9.out]
        exact I.below_setCells _ _ _ bk.out hrr.out
      clear hw9 sk bk TT s9 fn
      go_wp2_with fail
      exact bodyPost_ret (v := .tuple #[.agg (crdC fun _ => none).toArray, .int .i64 (1 : Nat)]) (results_crd rfl rfl rfl (Kn.rng S9.out 0 rfl) u_card rfl (info_card _)) rfl ⟨by first | rfl | (rw [hE, hD]; rfl) | (rw [hD]; rfl) | (rw [hE]; rfl), b9.out⟩
    have fn : ((c : Int) == 0) = false := beq_eq_false_iff_ne.2 (by omega)
    have E0 : Hid (∀ n, n ≠ 0 → badM c t = n → madE t lb = n) := fun n hn e => by
      unfold madE
      rw [if_neg (fun h => h hft.out), if_neg (by rw [hc.out]; exact hc0), if_pos (by rw [hc.out, e]; exact hn), hc.out, e]
    have E1 : Hid (badM c t = 0 → madE t lb = if crdF t 4 = none then 3 else if sizB c ((crdF t 4).getD []).length = false then 4 else if objF (mdeF t lb) = true then 0 else 12) := fun e => by
      unfold madE
      rw [if_neg (fun h => h hft.out), if_neg (by rw [hc.out]; exact hc0), if_neg (by rw [hc.out]; exact fun h => h e), hc.out]
    have HC0 : Hid (c ≠ 0) := hc0
    clear hc0 hft
    obtain ⟨ua, uc, hu'⟩ := ats_parts HU.out
    subst hu'
    obtain ⟨n, hn⟩ : ∃ n, t.length = n := ⟨_, rfl⟩
    have HNN : Hid (t.length = n ∧ n ≤ 24) := ⟨hn, by have := HN.out; omega⟩
    rw [hn] at HU ⊢
    clear hn HN
    have n24 : (n : Int) ≤ 24 := by have := HNN.out.2; omega
    go_wp2_with fail
    clear fn
    go_loopw [28] (fun i wr => ∃ j : Nat, j ≤ n ∧ i = .int .i64 (j : Int) ∧ Hid (badM c t = badM c (t.drop j)) ∧ Hid (Kn wr [(h, crdC (crdF t)), (r, crdC fun _ => none)]) ∧ Hid (Below w.heap.size w wr)) (fun i _ => n - (intOf i).toNat)
    case atStart => exact ⟨0, Nat.zero_le _, rfl, rfl, sk, bk⟩
    case round =>
      clear sk bk
      obtain ⟨j, hj, rfl, no, sk, bk⟩ := hrel
      by_cases hlt : j < n
      · have i1 : (j : Int) < (n : Int) := by omega
        have i0 : (0 : Int) ≤ (j : Int) := by omega
        have HJ : Hid (j < n) := hlt
        obtain ⟨b, o, rfl⟩ := HU.out.addr (by omega)
        obtain ⟨x, hx⟩ : ∃ x, Hid (t[j]? = some x) := ⟨t[j]'(by have := HNN.out; omega), List.getElem?_eq_getElem _⟩
        have xm := List.mem_of_getElem? hx.out
        have gx := HX.out x xm
        obtain ⟨i, hi⟩ : ∃ i : Nat, Hid (x.k = (i : Int)) := ⟨x.k.toNat, by show _ = _; have := gx.1; omega⟩
        have HI : Hid (1 ≤ i ∧ i ≤ 18) := by
          have h1 := gx.1
          have h2 := gx.2.1
          have h3 := hi.out
          show _ ∧ _
          omega
        obtain ⟨xa, xc, ex⟩ := HU.out.elem hx.out
        have R1 : Hid (wr.rangeAt b (o + j * 2) [.int .i64 (i : Int), .slice xa x.v.length xc]) := by have := (ex.up bk.out).rng; rw [hi.out] at this; exact this
        have R2 : Hid (∀ (C : Array Value) t, (wr.alloc (.cells C t)).rangeAt b (o + j * 2) [.int .i64 (i : Int), .slice xa x.v.length xc]) := fun C t => by have := (ex.up (bk.out.alloc bk.out.size (.cells C t))).rng; rw [hi.out] at this; exact this
        have sn : Hid (Kn (wr.alloc (.cells #[.int .i64 (i : Int), .slice xa x.v.length xc] 64)) [(h, crdC (crdF t)), (r, crdC fun _ => none), (wr.heap.size, [.int .i64 (i : Int), .slice xa x.v.length xc])]) := ((sk.out.al [.int .i64 (i : Int), .slice xa x.v.length xc] 64 rfl).front 1 rfl).front 2 rfl |>.front 1 rfl
        have bn : Hid (Below w.heap.size w (wr.alloc (.cells #[.int .i64 (i : Int), .slice xa x.v.length xc] 64))) := bk.out.alloc bk.out.size _
        have u0 := Kn.get sn.out 2 0 rfl rfl
        clear sk bk ex xm gx hlt hj
        have sk := sn
        have bk := bn
        clear sn bn
        have ed : Hid (t.drop j = x :: t.drop (j + 1)) := by
          have hl : j < t.length := (List.getElem?_eq_some_iff.1 hx.out).1
          show _ = _
          rw [List.drop_eq_getElem_cons hl]
          congr 1
          exact (List.getElem?_eq_some_iff.1 hx.out).2
        obtain ⟨bz, hbz⟩ : ∃ b, Hid (belB c i = b) := ⟨_, rfl⟩
        have BE := fun W => belongs_fun c i HI.out.1 W
        rw [hbz.out] at BE
        have hks : Hid (belB c x.k.toNat = bz) := by show _ = _; rw [hi.out, Int.toNat_natCast]; exact hbz.out
        clear hx hbz
        go_wp2_with (first | simp only [zero_attr] | refine wp_ldW rfl 64 _ rfl b (o + j * 2) rfl [.int .i64 (i : Int), .slice xa x.v.length xc] _ (by first | exact R1.out | exact R2.out _ _) u_attr rfl (info_attr _ _) ?_ | fail)
        clear R1 R2
        refine (BE _).mono ?_
        rintro e w5 ⟨rfl, hb⟩
        have b5 : Hid (Below w.heap.size w w5) := bk.out.trans (hb.mono bk.out.size)
        have s5 : Hid (Kn w5 [(h, crdC (crdF t)), (r, crdC fun _ => none), (wr.heap.size, [.int .i64 (i : Int), .slice xa x.v.length xc])]) := sk.out.up hb
        clear hb sk bk BE u0
        have u0 := Kn.get s5.out 2 0 rfl rfl
        have sk : Hid (Kn w5 [(h, crdC (crdF t)), (r, crdC fun _ => none)]) := s5.out.drop 2
        have bk := b5
        clear s5 b5
        cases bz with
        | false =>
          have he : madE t lb = 13 := E0.out 13 (by decide) (no.out.trans (by rw [ed.out]; exact badM_none hks.out))
          clear no ed hks HI hi u0
          have hE : E = 13 := HE.out.symm.trans he
          have hD : D = nonF := HD.out.symm.trans (if_neg (by rw [he]; decide))
          clear he
          have TT : Hid (_) := Kn.there (us := crdC fun _ => none) sk.out 1 rfl rfl
          go_wp2_with (first | refine wp_bldC rfl rfl ?_ | refine I.wp_store_eq rfl 31 _ _ rfl r 0 (crdC fun _ => none) rfl rfl TT.out (info_card _) (one_crd _) ?_   | fail)
          intro w9 hw9
          have s9 := Kn.put (us := crdC fun _ => none) (sk.out.front 1 rfl) rfl
          rw [← hw9.out] at s9
          have S9 : Hid _ := s9
          have b9 : Hid (Below w.heap.size w w9) := by
            rw [hw9.out]
            exact I.below_setCells _ _ _ bk.out hrr.out
          clear hw9 sk bk TT s9  
          go_wp2_with fail
          exact bodyPost_ret (v := .tuple #[.agg (crdC fun _ => none).toArray, .int .i64 (13 : Nat)]) (results_crd rfl rfl rfl (Kn.rng S9.out 0 rfl) u_card rfl (info_card _)) rfl ⟨by first | rfl | (rw [hE, hD]; rfl) | (rw [hD]; rfl) | (rw [hE]; rfl), b9.out⟩
        | true =>
          by_cases k10 : 10 ≤ i
          · by_cases k12 : i ≤ 12
            · have he : madE t lb = 12 := E0.out 12 (by decide) (no.out.trans (by rw [ed.out]; exact badM_nay hks.out (by rw [hi.out]; omega)))
              have g1 : (i : Int) ≥ 10 := by omega
              have g2 : (i : Int) ≤ 12 := by omega
              clear no ed hks HI hi k10 k12
              have hE : E = 12 := HE.out.symm.trans he
              have hD : D = nonF := HD.out.symm.trans (if_neg (by rw [he]; decide))
              clear he
              have TT : Hid (_) := Kn.there (us := crdC fun _ => none) sk.out 1 rfl rfl
              go_wp2_with (first | refine wp_bldC rfl rfl ?_ | refine I.wp_store_eq rfl 31 _ _ rfl r 0 (crdC fun _ => none) rfl rfl TT.out (info_card _) (one_crd _) ?_   | fail)
              intro w9 hw9
              have s9 := Kn.put (us := crdC fun _ => none) (sk.out.front 1 rfl) rfl
              rw [← hw9.out] at s9
              have S9 : Hid _ := s9
              have b9 : Hid (Below w.heap.size w w9) := by
                rw [hw9.out]
                exact I.below_setCells _ _ _ bk.out hrr.out
              clear hw9 sk bk TT s9 u0
              go_wp2_with fail
              exact bodyPost_ret (v := .tuple #[.agg (crdC fun _ => none).toArray, .int .i64 (12 : Nat)]) (results_crd rfl rfl rfl (Kn.rng S9.out 0 rfl) u_card rfl (info_card _)) rfl ⟨by first | rfl | (rw [hE, hD]; rfl) | (rw [hD]; rfl) | (rw [hE]; rfl), b9.out⟩
            · have no' : Hid (badM c t = badM c (t.drop (j + 1))) := no.out.trans (by rw [ed.out]; exact badM_next hks.out (by rw [hi.out]; omega))
              have g1 : (i : Int) ≥ 10 := by omega
              have g2 : ¬ (i : Int) ≤ 12 := by omega
              clear no ed hks HI hi k10 k12
              go_wp2_with fail
              clear u0
              go_roundw
              case rel => exact ⟨j + 1, HJ.out, by go_num, no', sk, bk⟩
              case measure => simp [intOf]; have := HJ.out; omega
          · have no' : Hid (badM c t = badM c (t.drop (j + 1))) := no.out.trans (by rw [ed.out]; exact badM_next hks.out (by rw [hi.out]; omega))
            have g1 : ¬ (i : Int) ≥ 10 := by omega
            clear no ed hks HI hi k10
            go_wp2_with fail
            clear u0
            go_roundw
            case rel => exact ⟨j + 1, HJ.out, by go_num, no', sk, bk⟩
            case measure => simp [intOf]; have := HJ.out; omega
      · have i1 : ¬ (j : Int) < (n : Int) := by omega
        have e9 : badM c t = 0 := by
          rw [no.out, List.drop_of_length_le (by have := HNN.out; omega)]
          rfl
        have E2 : Hid _ := E1.out e9
        have HC4 : Hid (c ≤ 4) := by
          have := cls_four HX.out
          rw [hc.out] at this
          exact this
        clear hlt hj no e9 E0 E1 HX
        have hu4 := Kn.get sk.out 0 4 rfl (crdC_has (crdF t) (by decide))
        obtain ⟨g4, hg4⟩ : ∃ b, Hid ((crdF t 4).isSome = b) := ⟨_, rfl⟩
        rw [hg4.out] at hu4
        cases g4 with
        | false =>
          have h4 : crdF t 4 = none := by
            have := hg4.out
            cases e : crdF t 4 with
            | none => rfl
            | some y => rw [e] at this; cases this
          have he : madE t lb = 3 := E2.out.trans (if_pos h4)
          clear E2 hg4 h4 HC hc
          have hE : E = 3 := HE.out.symm.trans he
          have hD : D = nonF := HD.out.symm.trans (if_neg (by rw [he]; decide))
          clear he
          have TT : Hid (_) := Kn.there (us := crdC fun _ => none) sk.out 1 rfl rfl
          go_wp2_with (first | refine wp_bldC rfl rfl ?_ | refine I.wp_store_eq rfl 31 _ _ rfl r 0 (crdC fun _ => none) rfl rfl TT.out (info_card _) (one_crd _) ?_   | fail)
          intro w9 hw9
          have s9 := Kn.put (us := crdC fun _ => none) (sk.out.front 1 rfl) rfl
          rw [← hw9.out] at s9
          have S9 : Hid _ := s9
          have b9 : Hid (Below w.heap.size w w9) := by
            rw [hw9.out]
            exact I.below_setCells _ _ _ bk.out hrr.out
          clear hw9 sk bk TT s9 hu4
          go_wp2_with fail
          exact bodyPost_ret (v := .tuple #[.agg (crdC fun _ => none).toArray, .int .i64 (3 : Nat)]) (results_crd rfl rfl rfl (Kn.rng S9.out 0 rfl) u_card rfl (info_card _)) rfl ⟨by first | rfl | (rw [hE, hD]; rfl) | (rw [hD]; rfl) | (rw [hE]; rfl), b9.out⟩
        | true =>
        have h4 : ¬ crdF t 4 = none := fun e => by
          have := hg4.out
          rw [e] at this
          cases this
        have E3 : Hid _ := E2.out.trans (if_neg h4)
        have hu5 := Kn.get sk.out 0 (19 + 4) rfl (crdC_val (crdF t) (by decide))
        obtain ⟨n4, hn4⟩ : ∃ n, Hid (((crdF t 4).getD []).length = n) := ⟨_, rfl⟩
        have hs4 : (sOf ((crdF t 4).getD [])).size = n4 := by rw [sOf_size]; exact hn4.out
        have SZ := fun W => sized_fun c n4 W
        obtain ⟨sz, hsz⟩ : ∃ b, Hid (sizB c n4 = b) := ⟨_, rfl⟩
        rw [hsz.out] at SZ
        clear E2 hg4 h4
        generalize sOf ((crdF t 4).getD []) = s4 at *
        go_wp2_with fail
        refine (SZ _).mono ?_
        rintro e w5 ⟨rfl, hb⟩
        have bn : Hid (Below w.heap.size w w5) := bk.out.trans (hb.mono bk.out.size)
        have sn : Hid (Kn w5 [(h, crdC (crdF t)), (r, crdC fun _ => none)]) := sk.out.up hb
        clear hb sk bk
        have bk := bn
        have sk := sn
        clear bn sn
        clear SZ hu4 hu5 hs4
        cases sz with
        | false =>
          have he : madE t lb = 4 := E3.out.trans (if_pos (by rw [hn4.out]; exact hsz.out))
          clear E3 hn4 hsz HC hc
          have hE : E = 4 := HE.out.symm.trans he
          have hD : D = nonF := HD.out.symm.trans (if_neg (by rw [he]; decide))
          clear he
          have TT : Hid (_) := Kn.there (us := crdC fun _ => none) sk.out 1 rfl rfl
          go_wp2_with (first | refine wp_bldC rfl rfl ?_ | refine I.wp_store_eq rfl 31 _ _ rfl r 0 (crdC fun _ => none) rfl rfl TT.out (info_card _) (one_crd _) ?_   | fail)
          intro w9 hw9
          have s9 := Kn.put (us := crdC fun _ => none) (sk.out.front 1 rfl) rfl
          rw [← hw9.out] at s9
          have S9 : Hid _ := s9
          have b9 : Hid (Below w.heap.size w w9) := by
            rw [hw9.out]
            exact I.below_setCells _ _ _ bk.out hrr.out
          clear hw9 sk bk TT s9  
          go_wp2_with fail
          exact bodyPost_ret (v := .tuple #[.agg (crdC fun _ => none).toArray, .int .i64 (4 : Nat)]) (results_crd rfl rfl rfl (Kn.rng S9.out 0 rfl) u_card rfl (info_card _)) rfl ⟨by first | rfl | (rw [hE, hD]; rfl) | (rw [hD]; rfl) | (rw [hE]; rfl), b9.out⟩
        | true =>
        have E4 : Hid (madE t lb = if objF (mdeF t lb) = true then 0 else 12) := E3.out.trans (if_neg (by rw [hn4.out, hsz.out]; decide))
        clear E3 hn4 hsz
        have bn : Hid (Below w.heap.size w (w5.alloc (.cells (crdC fun _ => none).toArray 31))) := bk.out.alloc bk.out.size _
        have sn : Hid (Kn (w5.alloc (.cells (crdC fun _ => none).toArray 31)) [(w5.heap.size, crdC (dftF c 1)), (h, crdC (crdF t)), (r, crdC fun _ => none)]) := by
          rw [dftF_one]
          exact sk.out.al (crdC fun _ => none) 31 rfl
        have hg : Hid (w.heap.size ≤ w5.heap.size) := bk.out.size
        clear sk bk
        go_wp2_with (simp only [zero_card])
        go_loopw [12] (fun i wr => ∃ j : Nat, j ≤ 18 ∧ i = .int .i64 ((j : Int) + 1) ∧ Hid (Kn wr [(w5.heap.size, crdC (dftF c (j + 1))), (h, crdC (crdF t)), (r, crdC fun _ => none)]) ∧ Hid (Below w.heap.size w wr)) (fun i _ => 20 - (intOf i).toNat)
        case atStart => exact ⟨0, Nat.zero_le _, rfl, sn, bn⟩
        case round =>
          clear sn bn
          obtain ⟨j, hj, rfl, sk, bk⟩ := hrel
          generalize w5.heap.size = g at *
          by_cases hlt : j < 18
          · have i1 : (j : Int) + 1 ≤ 18 := by omega
            have i2 : (j : Int) + 1 < 19 := by omega
            have i0 : (0 : Int) ≤ (j : Int) + 1 := by omega
            have ij : ((j : Int) + 1).toNat = j + 1 := by omega
            have HJ : Hid (j < 18) := hlt
            have ec : ((j + 1 : Nat) : Int) = (j : Int) + 1 := rfl
            obtain ⟨bz, hbz⟩ : ∃ b, Hid (belB c (j + 1) = b) := ⟨_, rfl⟩
            have BE := fun W => belongs_fun c (j + 1) (by omega) W
            rw [hbz.out, ec] at BE
            clear hlt hj ec
            go_wp2_with fail
            refine (BE _).mono ?_
            rintro e w6 ⟨rfl, hb⟩
            have bn : Hid (Below w.heap.size w w6) := bk.out.trans (hb.mono bk.out.size)
            have sn : Hid (Kn w6 [(g, crdC (dftF c (j + 1))), (h, crdC (crdF t)), (r, crdC fun _ => none)]) := sk.out.up hb
            clear hb sk bk
            have bk := bn
            have sk := sn
            clear bn sn
            clear BE
            cases bz with
            | false =>
              have s7 : Hid (Kn w6 [(g, crdC (dftF c (j + 1 + 1))), (h, crdC (crdF t)), (r, crdC fun _ => none)]) := by rw [dftF_skip hbz.out]; exact sk.out
              clear sk hbz
              go_wp2_with fail
              go_roundw
              case rel => exact ⟨j + 1, HJ.out, by first | rfl | go_num, s7, bk⟩
              case measure => simp [intOf]; have := HJ.out; omega
            | true =>
              have cx := Kn.get sk.out 0 (j + 1) rfl (crdC_has (dftF c (j + 1)) (by have := HJ.out; omega))
              rw [dftF_none] at cx
              have zx := Kn.fz sk.out 0 rfl
              have s7 : Hid (Kn (w6.setCell ⟨g, j + 1, none⟩ (.bool true)) [(g, crdC (putF (dftF c (j + 1)) (j + 1) [])), (h, crdC (crdF t)), (r, crdC fun _ => none)]) := by
                have := Kn.set sk.out (j + 1) (.bool true) (by rw [crdC_length]; have := HJ.out; omega)
                rw [crdC_hasS (by have := HJ.out; omega) (dftF_none c (j + 1))] at this
                exact this
              have b7 : Hid (Below w.heap.size w (w6.setCell ⟨g, j + 1, none⟩ (.bool true))) := bk.out.setCell (p := ⟨g, j + 1, none⟩) hg.out _
              have ep : Hid (dftF c (j + 1 + 1) = putF (dftF c (j + 1)) (j + 1) (dftV c (j + 1))) := dftF_put (by omega) hbz.out
              clear sk bk hbz
              by_cases h4 : 4 < j + 1
              · have g4 : (j : Int) + 1 > 4 := by omega
                by_cases j7 : j = 6
                · have q7 : ((j : Int) + 1 == 7) = true := beq_iff_eq.2 (by omega)
                  have dv : dftV c (j + 1) = flgV true := by
                    unfold dftV
                    rw [if_pos h4]
                    congr 1
                    rw [j7]; rfl
                  obtain ⟨sv, hsv⟩ : ∃ s, Hid (sOf (flgV true) = s) := ⟨_, rfl⟩
                  have FL := fun W => flag_fun true W
                  rw [hsv.out] at FL
                  clear h4 j7
                  go_wp2_with fail
                  refine (FL _).mono ?_
                  rintro e w8 ⟨rfl, hb⟩
                  have b8 : Hid (Below w.heap.size w w8) := b7.out.trans (hb.mono b7.out.size)
                  have s8 : Hid (Kn w8 [(g, crdC (putF (dftF c (j + 1)) (j + 1) [])), (h, crdC (crdF t)), (r, crdC fun _ => none)]) := s7.out.up hb
                  clear hb s7 b7 FL cx zx
                  have cv := Kn.get s8.out 0 (19 + (j + 1)) rfl (crdC_val _ (by have := HJ.out; omega))
                  have zv := Kn.fz s8.out 0 rfl
                  have s9 : Hid (Kn (w8.setCell ⟨g, 19 + (j + 1), none⟩ (.string sv)) [(g, crdC (dftF c (j + 1 + 1))), (h, crdC (crdF t)), (r, crdC fun _ => none)]) := by
                    have := Kn.set s8.out (19 + (j + 1)) (.string sv) (by rw [crdC_length]; have := HJ.out; omega)
                    rw [← hsv.out, crdC_valS (by have := HJ.out; omega) _ (by unfold putF; rw [if_pos rfl]; rfl), putF_twice, ← dv, ← ep.out] at this
                    rw [← hsv.out, ← dv]
                    exact this
                  have b9 : Hid (Below w.heap.size w (w8.setCell ⟨g, 19 + (j + 1), none⟩ (.string sv))) := b8.out.setCell (p := ⟨g, 19 + (j + 1), none⟩) hg.out _
                  clear s8 b8 dv hsv ep
                  generalize (putF (dftF c (j + 1)) (j + 1) []) = ff at cv
                  go_wp2_with fail
                  clear cv zv
                  go_roundw
                  case rel => exact ⟨j + 1, HJ.out, by first | rfl | go_num, s9, b9⟩
                  case measure => simp [intOf]; have := HJ.out; omega
                have q7 : ((j : Int) + 1 == 7) = false := beq_eq_false_iff_ne.2 (by omega)
                have n7 : (j + 1 == 7) = false := beq_eq_false_iff_ne.2 (by omega)
                by_cases j9 : j = 8
                · have q9 : ((j : Int) + 1 == 9) = true := beq_iff_eq.2 (by omega)
                  have dv : dftV c (j + 1) = flgV true := by
                    unfold dftV
                    rw [if_pos h4]
                    congr 1
                    rw [j9]; rfl
                  obtain ⟨sv, hsv⟩ : ∃ s, Hid (sOf (flgV true) = s) := ⟨_, rfl⟩
                  have FL := fun W => flag_fun true W
                  rw [hsv.out] at FL
                  clear h4 j7 j9
                  go_wp2_with fail
                  refine (FL _).mono ?_
                  rintro e w8 ⟨rfl, hb⟩
                  have b8 : Hid (Below w.heap.size w w8) := b7.out.trans (hb.mono b7.out.size)
                  have s8 : Hid (Kn w8 [(g, crdC (putF (dftF c (j + 1)) (j + 1) [])), (h, crdC (crdF t)), (r, crdC fun _ => none)]) := s7.out.up hb
                  clear hb s7 b7 FL cx zx
                  have cv := Kn.get s8.out 0 (19 + (j + 1)) rfl (crdC_val _ (by have := HJ.out; omega))
                  have zv := Kn.fz s8.out 0 rfl
                  have s9 : Hid (Kn (w8.setCell ⟨g, 19 + (j + 1), none⟩ (.string sv)) [(g, crdC (dftF c (j + 1 + 1))), (h, crdC (crdF t)), (r, crdC fun _ => none)]) := by
                    have := Kn.set s8.out (19 + (j + 1)) (.string sv) (by rw [crdC_length]; have := HJ.out; omega)
                    rw [← hsv.out, crdC_valS (by have := HJ.out; omega) _ (by unfold putF; rw [if_pos rfl]; rfl), putF_twice, ← dv, ← ep.out] at this
                    rw [← hsv.out, ← dv]
                    exact this
                  have b9 : Hid (Below w.heap.size w (w8.setCell ⟨g, 19 + (j + 1), none⟩ (.string sv))) := b8.out.setCell (p := ⟨g, 19 + (j + 1), none⟩) hg.out _
                  clear s8 b8 dv hsv ep
                  generalize (putF (dftF c (j + 1)) (j + 1) []) = ff at cv
                  go_wp2_with fail
                  clear cv zv
                  go_roundw
                  case rel => exact ⟨j + 1, HJ.out, by first | rfl | go_num, s9, b9⟩
                  case measure => simp [intOf]; have := HJ.out; omega
                have q9 : ((j : Int) + 1 == 9) = false := beq_eq_false_iff_ne.2 (by omega)
                have n9 : (j + 1 == 9) = false := beq_eq_false_iff_ne.2 (by omega)
                by_cases j6 : j = 5
                · have q6 : ((j : Int) + 1 == 6) = true := beq_iff_eq.2 (by omega)
                  have n6 : (j + 1 == 6) = true := beq_iff_eq.2 (by omega)
                  by_cases cc : c % 2 = 0
                  · have m1 : ((c : Int) % 2 == 0) = true := beq_iff_eq.2 (by omega)
                    have m2 : ((c : Int).tmod 2 == 0) = true := by rw [Int.tmod_eq_emod_of_nonneg (by omega)]; exact m1
                    have dv : dftV c (j + 1) = flgV true := by
                      unfold dftV
                      rw [if_pos h4]
                      congr 1
                      rw [n6, beq_iff_eq.2 cc, Bool.and_true, Bool.or_true]
                    obtain ⟨sv, hsv⟩ : ∃ s, Hid (sOf (flgV true) = s) := ⟨_, rfl⟩
                    have FL := fun W => flag_fun true W
                    rw [hsv.out] at FL
                    clear h4 j7 j9 j6 cc
                    go_wp2_with fail
                    refine (FL _).mono ?_
                    rintro e w8 ⟨rfl, hb⟩
                    have b8 : Hid (Below w.heap.size w w8) := b7.out.trans (hb.mono b7.out.size)
                    have s8 : Hid (Kn w8 [(g, crdC (putF (dftF c (j + 1)) (j + 1) [])), (h, crdC (crdF t)), (r, crdC fun _ => none)]) := s7.out.up hb
                    clear hb s7 b7 FL cx zx
                    have cv := Kn.get s8.out 0 (19 + (j + 1)) rfl (crdC_val _ (by have := HJ.out; omega))
                    have zv := Kn.fz s8.out 0 rfl
                    have s9 : Hid (Kn (w8.setCell ⟨g, 19 + (j + 1), none⟩ (.string sv)) [(g, crdC (dftF c (j + 1 + 1))), (h, crdC (crdF t)), (r, crdC fun _ => none)]) := by
                      have := Kn.set s8.out (19 + (j + 1)) (.string sv) (by rw [crdC_length]; have := HJ.out; omega)
                      rw [← hsv.out, crdC_valS (by have := HJ.out; omega) _ (by unfold putF; rw [if_pos rfl]; rfl), putF_twice, ← dv, ← ep.out] at this
                      rw [← hsv.out, ← dv]
                      exact this
                    have b9 : Hid (Below w.heap.size w (w8.setCell ⟨g, 19 + (j + 1), none⟩ (.string sv))) := b8.out.setCell (p := ⟨g, 19 + (j + 1), none⟩) hg.out _
                    clear s8 b8 dv hsv ep
                    generalize (putF (dftF c (j + 1)) (j + 1) []) = ff at cv
                    go_wp2_with fail
                    clear cv zv
                    go_roundw
                    case rel => exact ⟨j + 1, HJ.out, by first | rfl | go_num, s9, b9⟩
                    case measure => simp [intOf]; have := HJ.out; omega
                  · have m1 : ((c : Int) % 2 == 0) = false := beq_eq_false_iff_ne.2 (by omega)
                    have m2 : ((c : Int).tmod 2 == 0) = false := by rw [Int.tmod_eq_emod_of_nonneg (by omega)]; exact m1
                    have dv : dftV c (j + 1) = flgV false := by
                      unfold dftV
                      rw [if_pos h4]
                      congr 1
                      rw [n7, n9, n6, beq_eq_false_iff_ne.2 cc]; rfl
                    obtain ⟨sv, hsv⟩ : ∃ s, Hid (sOf (flgV false) = s) := ⟨_, rfl⟩
                    have FL := fun W => flag_fun false W
                    rw [hsv.out] at FL
                    clear h4 j7 j9 j6 cc
                    go_wp2_with fail
                    refine (FL _).mono ?_
                    rintro e w8 ⟨rfl, hb⟩
                    have b8 : Hid (Below w.heap.size w w8) := b7.out.trans (hb.mono b7.out.size)
                    have s8 : Hid (Kn w8 [(g, crdC (putF (dftF c (j + 1)) (j + 1) [])), (h, crdC (crdF t)), (r, crdC fun _ => none)]) := s7.out.up hb
                    clear hb s7 b7 FL cx zx
                    have cv := Kn.get s8.out 0 (19 + (j + 1)) rfl (crdC_val _ (by have := HJ.out; omega))
                    have zv := Kn.fz s8.out 0 rfl
                    have s9 : Hid (Kn (w8.setCell ⟨g, 19 + (j + 1), none⟩ (.string sv)) [(g, crdC (dftF c (j + 1 + 1))), (h, crdC (crdF t)), (r, crdC fun _ => none)]) := by
                      have := Kn.set s8.out (19 + (j + 1)) (.string sv) (by rw [crdC_length]; have := HJ.out; omega)
                      rw [← hsv.out, crdC_valS (by have := HJ.out; omega) _ (by unfold putF; rw [if_pos rfl]; rfl), putF_twice, ← dv, ← ep.out] at this
                      rw [← hsv.out, ← dv]
                      exact this
                    have b9 : Hid (Below w.heap.size w (w8.setCell ⟨g, 19 + (j + 1), none⟩ (.string sv))) := b8.out.setCell (p := ⟨g, 19 + (j + 1), none⟩) hg.out _
                    clear s8 b8 dv hsv ep
                    generalize (putF (dftF c (j + 1)) (j + 1) []) = ff at cv
                    go_wp2_with fail
                    clear cv zv
                    go_roundw
                    case rel => exact ⟨j + 1, HJ.out, by first | rfl | go_num, s9, b9⟩
                    case measure => simp [intOf]; have := HJ.out; omega
                · have q6 : ((j : Int) + 1 == 6) = false := beq_eq_false_iff_ne.2 (by omega)
                  have n6 : (j + 1 == 6) = false := beq_eq_false_iff_ne.2 (by omega)
                  have dv : dftV c (j + 1) = flgV false := by
                    unfold dftV
                    rw [if_pos h4]
                    congr 1
                    rw [n7, n9, n6]; rfl
                  obtain ⟨sv, hsv⟩ : ∃ s, Hid (sOf (flgV false) = s) := ⟨_, rfl⟩
                  have FL := fun W => flag_fun false W
                  rw [hsv.out] at FL
                  clear h4 j7 j9 j6
                  go_wp2_with fail
                  refine (FL _).mono ?_
                  rintro e w8 ⟨rfl, hb⟩
                  have b8 : Hid (Below w.heap.size w w8) := b7.out.trans (hb.mono b7.out.size)
                  have s8 : Hid (Kn w8 [(g, crdC (putF (dftF c (j + 1)) (j + 1) [])), (h, crdC (crdF t)), (r, crdC fun _ => none)]) := s7.out.up hb
                  clear hb s7 b7 FL cx zx
                  have cv := Kn.get s8.out 0 (19 + (j + 1)) rfl (crdC_val _ (by have := HJ.out; omega))
                  have zv := Kn.fz s8.out 0 rfl
                  have s9 : Hid (Kn (w8.setCell ⟨g, 19 + (j + 1), none⟩ (.string sv)) [(g, crdC (dftF c (j + 1 + 1))), (h, crdC (crdF t)), (r, crdC fun _ => none)]) := by
                    have := Kn.set s8.out (19 + (j + 1)) (.string sv) (by rw [crdC_length]; have := HJ.out; omega)
                    rw [← hsv.out, crdC_valS (by have := HJ.out; omega) _ (by unfold putF; rw [if_pos rfl]; rfl), putF_twice, ← dv, ← ep.out] at this
                    rw [← hsv.out, ← dv]
                    exact this
                  have b9 : Hid (Below w.heap.size w (w8.setCell ⟨g, 19 + (j + 1), none⟩ (.string sv))) := b8.out.setCell (p := ⟨g, 19 + (j + 1), none⟩) hg.out _
                  clear s8 b8 dv hsv ep
                  generalize (putF (dftF c (j + 1)) (j + 1) []) = ff at cv
                  go_wp2_with fail
                  clear cv zv
                  go_roundw
                  case rel => exact ⟨j + 1, HJ.out, by first | rfl | go_num, s9, b9⟩
                  case measure => simp [intOf]; have := HJ.out; omega
              · have g4 : ¬ (j : Int) + 1 > 4 := by omega
                have s8 : Hid (Kn (w6.setCell ⟨g, j + 1, none⟩ (.bool true)) [(g, crdC (dftF c (j + 1 + 1))), (h, crdC (crdF t)), (r, crdC fun _ => none)]) := by
                  rw [ep.out]
                  unfold dftV
                  rw [if_neg h4]
                  exact s7.out
                clear s7 h4 ep
                go_wp2_with fail
                clear cx zx
                go_roundw
                case rel => exact ⟨j + 1, HJ.out, by first | rfl | go_num, s8, b7⟩
                case measure => simp [intOf]; have := HJ.out; omega
          · have i1 : ¬ (j : Int) + 1 ≤ 18 := by omega
            obtain rfl : j = 18 := by omega
            clear hlt hj
            have sk2 : Hid (Kn wr [(g, crdC (dftF c 19)), (h, crdC (crdF t)), (r, crdC fun _ => none)]) := sk
            clear sk
            have sk := sk2
            clear sk2
            obtain ⟨G, hG⟩ : ∃ G, Hid (ovF (dftF c 19) (crdF t) = G) := ⟨_, rfl⟩
            have em : Hid (mdeF t lb = locF c lb G) := by
              show _ = _
              unfold mdeF
              rw [hc.out, hG.out]
            have LG : Hid (lowF G) := by
              show lowF G
              rw [← hG.out]
              exact ovF_low (dftF_low c 19) (crdF_low LL.out)
            have E5 : Hid (madE t lb = if objF (locF c lb G) = true then 0 else 12) := by
              show _ = _
              rw [← em.out]
              exact E4.out
            have D5 : Hid (madE t lb = 0 → D = locF c lb G) := fun e => (HD.out.symm.trans (if_pos e)).trans em.out
            have EV : Hid (c % 2 = 0 → ∀ k, 10 ≤ k ∧ k ≤ 12 → (G k).isSome = true) := fun h2 k hk => by
              rw [← hG.out]
              exact even_has HC4.out HC0.out h2 hk
            have UPC : Hid (∀ W, Calls Try.prog 46 #[.agg (crdC (dftF c 19)).toArray, .agg (crdC (crdF t)).toArray] W fun e w' => e = .returned (.agg (crdC G).toArray) ∧ Below W.heap.size W w') := fun W => by rw [← hG.out]; exact upon_walk (dftF c 19) (crdF t) W
            have ON : Hid (∀ (f : Crd) (k : Nat), lowF f → k < 19 → ∀ W, Calls Try.prog 47 #[.agg (crdC f).toArray, .int .i64 ((k : Nat) : Int)] W fun e w' => e = .returned (.bool (oneF f k)) ∧ Below W.heap.size W w') := fun f k hf hk W => one_fun_ f hf k hk W
            clear E4 em hG hc HC
            go_wp2_with (first | refine wp_ldW rfl 31 _ rfl g 0 rfl (crdC (dftF c 19)) _ (Kn.rng sk.out 0 rfl) u_card rfl (info_card _) ?_ | refine wp_ldW rfl 31 _ rfl h 0 rfl (crdC (crdF t)) _ (Kn.rng sk.out 1 rfl) u_card rfl (info_card _) ?_ | fail)
            refine (UPC.out _).mono ?_
            rintro e w7 ⟨rfl, hb⟩
            have bn : Hid (Below w.heap.size w w7) := bk.out.trans (hb.mono bk.out.size)
            have sn : Hid (Kn w7 [(g, crdC (dftF c 19)), (h, crdC (crdF t)), (r, crdC fun _ => none)]) := sk.out.up hb
            clear hb sk bk
            have bk := bn
            have sk := sn
            clear bn sn
            clear UPC
            have TT : Hid (_) := Kn.there (us := crdC G) sk.out 0 rfl (by simp [crdC_length])
            go_wp2_with (first | refine I.wp_store_eq rfl 31 _ _ rfl g 0 (crdC G) rfl rfl TT.out (info_card _) (one_crd _) ?_ | fail)
            intro w8 hw8
            have s8 : Hid (Kn w8 [(g, crdC G), (h, crdC (crdF t)), (r, crdC fun _ => none)]) := by
              rw [hw8.out]
              exact Kn.put sk.out (by simp [crdC_length])
            have b8 : Hid (Below w.heap.size w w8) := by
              rw [hw8.out]
              exact I.below_setCells _ _ _ bk.out hg.out
            clear hw8 sk bk TT
            have sk := s8
            have bk := b8
            clear s8 b8
            by_cases cc : c % 2 = 0
            · have m1 : ((c : Int) % 2 == 0) = true := beq_iff_eq.2 (by omega)
              have m2 : ((c : Int).tmod 2 == 0) = true := by rw [Int.tmod_eq_emod_of_nonneg (by omega)]; exact m1
              have h12 := EV.out cc 12 (by decide)
              have h10 := EV.out cc 10 (by decide)
              have h11 := EV.out cc 11 (by decide)
              have el : Hid (locF c lb G = putF (putF (putF G 12 (flgV lb)) 10 (flgV (lb && oneF G 8))) 11 (flgV (lb && !oneF G 9))) := if_pos cc
              have E6 : Hid (madE t lb = if objF (putF (putF (putF G 12 (flgV lb)) 10 (flgV (lb && oneF G 8))) 11 (flgV (lb && !oneF G 9))) = true then 0 else 12) := by
                show _ = _
                rw [← el.out]
                exact E5.out
              have D6 : Hid (madE t lb = 0 → D = putF (putF (putF G 12 (flgV lb)) 10 (flgV (lb && oneF G 8))) 11 (flgV (lb && !oneF G 9))) := fun e => (D5.out e).trans el.out
              have H12 : Hid ((G 12).isSome = true) := h12
              have H10 : Hid ((putF G 12 (flgV lb) 10).isSome = true) := by show _ = _; unfold putF; rw [if_neg (by decide)]; exact h10
              have H11 : Hid ((putF (putF G 12 (flgV lb)) 10 (flgV (lb && oneF G 8)) 11).isSome = true) := by show _ = _; unfold putF; rw [if_neg (by decide), if_neg (by decide)]; exact h11
              clear E5 D5 EV cc h12 h10 h11 el
              obtain ⟨o8, ho8⟩ : ∃ b, Hid (oneF G 8 = b) := ⟨_, rfl⟩
              obtain ⟨o9, ho9⟩ : ∃ b, Hid (oneF G 9 = b) := ⟨_, rfl⟩
              have O8 : Hid (∀ v, lowB v → ∀ W, Calls Try.prog 47 #[.agg (crdC (putF G 12 v)).toArray, .int .i64 8] W fun e w' => e = .returned (.bool o8) ∧ Below W.heap.size W w') := fun v hv W => by
                have := ON.out (putF G 12 v) 8 (putF_low LG.out hv) (by decide) W
                rw [oneF_put (by decide), ho8.out] at this
                exact this
              have O9 : Hid (∀ v u, lowB v → lowB u → ∀ W, Calls Try.prog 47 #[.agg (crdC (putF (putF G 12 v) 10 u)).toArray, .int .i64 9] W fun e w' => e = .returned (.bool o9) ∧ Below W.heap.size W w') := fun v u hv hu W => by
                have := ON.out (putF (putF G 12 v) 10 u) 9 (putF_low (putF_low LG.out hv) hu) (by decide) W
                rw [oneF_put (by decide), oneF_put (by decide), ho9.out] at this
                exact this
              rw [ho8.out, ho9.out] at E6 D6
              rw [ho8.out] at H11
              clear ho8 ho9 ON HC4 HC0
              cases lb with
              | true =>
                simp only [Bool.true_and] at E6 D6 H11
                obtain ⟨sv12, hsv12⟩ : ∃ s, Hid (sOf (flgV true) = s) := ⟨_, rfl⟩
                have FL := fun W => flag_fun true W
                rw [hsv12.out] at FL
                go_wp2_with fail
                refine (FL _).mono ?_
                rintro e wv12 ⟨rfl, hb⟩
                have bn : Hid (Below w.heap.size w wv12) := bk.out.trans (hb.mono bk.out.size)
                have sn : Hid (Kn wv12 [(g, crdC (G)), (h, crdC (crdF t)), (r, crdC fun _ => none)]) := sk.out.up hb
                clear hb sk bk
                have bk := bn
                have sk := sn
                clear bn sn
                clear FL m1 m2
                have cv : wv12.cell? ⟨g, 31, none⟩ = _ := Kn.get sk.out 0 31 rfl (crdC_val (i := 12) _ (by decide))
                have zv := Kn.fz sk.out 0 rfl
                have sx : Hid (Kn (wv12.setCell ⟨g, 31, none⟩ (.string sv12)) [(g, crdC (putF (G) 12 (flgV true))), (h, crdC (crdF t)), (r, crdC fun _ => none)]) := by
                  have := Kn.set sk.out (19 + 12) (.string sv12) (by rw [crdC_length]; decide)
                  rw [← hsv12.out, crdC_valS (by decide) _ H12.out] at this
                  rw [← hsv12.out]
                  exact this
                have bx : Hid (Below w.heap.size w (wv12.setCell ⟨g, 31, none⟩ (.string sv12))) := bk.out.setCell (p := ⟨g, 31, none⟩) hg.out _
                clear sk bk hsv12
                have sk := sx
                have bk := bx
                clear sx bx
                go_wp2_with (first | refine wp_ldW rfl 31 _ rfl g 0 rfl (crdC (putF G 12 (flgV true))) _ (Kn.rng sk.out 0 rfl) u_card rfl (info_card _) ?_ | fail)
                clear cv zv
                refine (O8.out _ (flgV_low true) _).mono ?_
                rintro e wy ⟨rfl, hb⟩
                have bn : Hid (Below w.heap.size w wy) := bk.out.trans (hb.mono bk.out.size)
                have sn : Hid (Kn wy [(g, crdC (putF G 12 (flgV true))), (h, crdC (crdF t)), (r, crdC fun _ => none)]) := sk.out.up hb
                clear hb sk bk
                have bk := bn
                have sk := sn
                clear bn sn
                clear O8
                obtain ⟨sv10, hsv10⟩ : ∃ s, Hid (sOf (flgV o8) = s) := ⟨_, rfl⟩
                have FL := fun W => flag_fun o8 W
                rw [hsv10.out] at FL
                go_wp2_with fail
                refine (FL _).mono ?_
                rintro e wv10 ⟨rfl, hb⟩
                have bn : Hid (Below w.heap.size w wv10) := bk.out.trans (hb.mono bk.out.size)
                have sn : Hid (Kn wv10 [(g, crdC (putF G 12 (flgV true))), (h, crdC (crdF t)), (r, crdC fun _ => none)]) := sk.out.up hb
                clear hb sk bk
                have bk := bn
                have sk := sn
                clear bn sn
                clear FL  
                have cv : wv10.cell? ⟨g, 29, none⟩ = _ := Kn.get sk.out 0 29 rfl (crdC_val (i := 10) _ (by decide))
                have zv := Kn.fz sk.out 0 rfl
                have sx : Hid (Kn (wv10.setCell ⟨g, 29, none⟩ (.string sv10)) [(g, crdC (putF (putF G 12 (flgV true)) 10 (flgV o8))), (h, crdC (crdF t)), (r, crdC fun _ => none)]) := by
                  have := Kn.set sk.out (19 + 10) (.string sv10) (by rw [crdC_length]; decide)
                  rw [← hsv10.out, crdC_valS (by decide) _ H10.out] at this
                  rw [← hsv10.out]
                  exact this
                have bx : Hid (Below w.heap.size w (wv10.setCell ⟨g, 29, none⟩ (.string sv10))) := bk.out.setCell (p := ⟨g, 29, none⟩) hg.out _
                clear sk bk hsv10
                have sk := sx
                have bk := bx
                clear sx bx
                go_wp2_with (first | refine wp_ldW rfl 31 _ rfl g 0 rfl (crdC (putF (putF G 12 (flgV true)) 10 (flgV o8))) _ (Kn.rng sk.out 0 rfl) u_card rfl (info_card _) ?_ | fail)
                clear cv zv
                refine (O9.out _ _ (flgV_low true) (flgV_low o8) _).mono ?_
                rintro e wy ⟨rfl, hb⟩
                have bn : Hid (Below w.heap.size w wy) := bk.out.trans (hb.mono bk.out.size)
                have sn : Hid (Kn wy [(g, crdC (putF (putF G 12 (flgV true)) 10 (flgV o8))), (h, crdC (crdF t)), (r, crdC fun _ => none)]) := sk.out.up hb
                clear hb sk bk
                have bk := bn
                have sk := sn
                clear bn sn
                clear O9
                obtain ⟨sv11, hsv11⟩ : ∃ s, Hid (sOf (flgV (!o9)) = s) := ⟨_, rfl⟩
                have FL := fun W => flag_fun (!o9) W
                rw [hsv11.out] at FL
                go_wp2_with fail
                refine (FL _).mono ?_
                rintro e wv11 ⟨rfl, hb⟩
                have bn : Hid (Below w.heap.size w wv11) := bk.out.trans (hb.mono bk.out.size)
                have sn : Hid (Kn wv11 [(g, crdC (putF (putF G 12 (flgV true)) 10 (flgV o8))), (h, crdC (crdF t)), (r, crdC fun _ => none)]) := sk.out.up hb
                clear hb sk bk
                have bk := bn
                have sk := sn
                clear bn sn
                clear FL  
                have cv : wv11.cell? ⟨g, 30, none⟩ = _ := Kn.get sk.out 0 30 rfl (crdC_val (i := 11) _ (by decide))
                have zv := Kn.fz sk.out 0 rfl
                have sx : Hid (Kn (wv11.setCell ⟨g, 30, none⟩ (.string sv11)) [(g, crdC (putF (putF (putF G 12 (flgV true)) 10 (flgV o8)) 11 (flgV (!o9)))), (h, crdC (crdF t)), (r, crdC fun _ => none)]) := by
                  have := Kn.set sk.out (19 + 11) (.string sv11) (by rw [crdC_length]; decide)
                  rw [← hsv11.out, crdC_valS (by decide) _ H11.out] at this
                  rw [← hsv11.out]
                  exact this
                have bx : Hid (Below w.heap.size w (wv11.setCell ⟨g, 30, none⟩ (.string sv11))) := bk.out.setCell (p := ⟨g, 30, none⟩) hg.out _
                clear sk bk hsv11
                have sk := sx
                have bk := bx
                clear sx bx
                obtain ⟨GG, hGG⟩ : ∃ GG, Hid (putF (putF (putF G 12 (flgV true)) 10 (flgV o8)) 11 (flgV (!o9)) = GG) := ⟨_, rfl⟩
                have LGG : lowF GG := by
                  rw [← hGG.out]
                  exact putF_low (putF_low (putF_low LG.out (flgV_low _)) (flgV_low _)) (flgV_low _)
                rw [hGG.out] at E6 D6 sk
                clear hGG H12 H10 H11 LG
                have OB := fun W => object_fun GG LGG W
                obtain ⟨ob, hob⟩ : ∃ b, Hid (objF (GG) = b) := ⟨_, rfl⟩
                rw [hob.out] at OB
                go_wp2_with (first | refine wp_ldW rfl 31 _ rfl g 0 rfl (crdC (GG)) _ (Kn.rng sk.out 0 rfl) u_card rfl (info_card _) ?_ | fail)
                refine (OB _).mono ?_
                rintro e wz ⟨rfl, hb⟩
                have bn : Hid (Below w.heap.size w wz) := bk.out.trans (hb.mono bk.out.size)
                have sn : Hid (Kn wz [(g, crdC (GG)), (h, crdC (crdF t)), (r, crdC fun _ => none)]) := sk.out.up hb
                clear hb sk bk OB
                cases ob with
                | true =>
                  have he : madE t true = 0 := E6.out.trans (if_pos hob.out)
                  have hE : E = 0 := HE.out.symm.trans he
                  have hD := D6.out he
                  have TT : Hid (_) := Kn.there (us := crdC (GG)) sn.out 2 rfl (by simp [crdC_length])
                  clear he E6 hob D6 cv zv
                  go_wp2_with (first | refine wp_ldW rfl 31 _ rfl g 0 rfl (crdC (GG)) _ (Kn.rng sn.out 0 rfl) u_card rfl (info_card _) ?_ | refine I.wp_store_eq rfl 31 _ _ rfl r 0 (crdC (GG)) rfl rfl TT.out (info_card _) (one_crd _) ?_ | fail)
                  intro w9 hw9
                  have s9 : Hid (Kn w9 [(r, crdC (GG)), (g, crdC (GG)), (h, crdC (crdF t))]) := by
                    rw [hw9.out]
                    exact Kn.put (sn.out.front 2 rfl) (by simp [crdC_length])
                  have b9 : Hid (Below w.heap.size w w9) := by
                    rw [hw9.out]
                    exact I.below_setCells _ _ _ bn.out hrr.out
                  clear hw9 sn bn TT
                  go_wp2_with fail
                  exact bodyPost_ret (v := .tuple #[.agg (crdC (GG)).toArray, .int .i64 (0 : Nat)]) (results_crd rfl rfl rfl (Kn.rng s9.out 0 rfl) u_card rfl (info_card _)) rfl ⟨by rw [hE, hD], b9.out⟩
                | false =>
                  have he : madE t true = 12 := E6.out.trans (if_neg (by rw [hob.out]; decide))
                  have bk := bn
                  have sk : Hid (Kn wz [(h, crdC (crdF t)), (r, crdC fun _ => none)]) := sn.out.drop 0
                  clear E6 hob D6 bn sn cv zv
                  have hE : E = 12 := HE.out.symm.trans he
                  have hD : D = nonF := HD.out.symm.trans (if_neg (by rw [he]; decide))
                  clear he
                  have TT : Hid (_) := Kn.there (us := crdC fun _ => none) sk.out 1 rfl rfl
                  go_wp2_with (first | refine wp_bldC rfl rfl ?_ | refine I.wp_store_eq rfl 31 _ _ rfl r 0 (crdC fun _ => none) rfl rfl TT.out (info_card _) (one_crd _) ?_   | fail)
                  intro w9 hw9
                  have s9 := Kn.put (us := crdC fun _ => none) (sk.out.front 1 rfl) rfl
                  rw [← hw9.out] at s9
                  have S9 : Hid _ := s9
                  have b9 : Hid (Below w.heap.size w w9) := by
                    rw [hw9.out]
                    exact I.below_setCells _ _ _ bk.out hrr.out
                  clear hw9 sk bk TT s9  
                  go_wp2_with fail
                  exact bodyPost_ret (v := .tuple #[.agg (crdC fun _ => none).toArray, .int .i64 (12 : Nat)]) (results_crd rfl rfl rfl (Kn.rng S9.out 0 rfl) u_card rfl (info_card _)) rfl ⟨by first | rfl | (rw [hE, hD]; rfl) | (rw [hD]; rfl) | (rw [hE]; rfl), b9.out⟩
              | false =>
                simp only [Bool.false_and] at E6 D6 H11
                obtain ⟨sv12, hsv12⟩ : ∃ s, Hid (sOf (flgV false) = s) := ⟨_, rfl⟩
                have FL := fun W => flag_fun false W
                rw [hsv12.out] at FL
                go_wp2_with fail
                refine (FL _).mono ?_
                rintro e wv12 ⟨rfl, hb⟩
                have bn : Hid (Below w.heap.size w wv12) := bk.out.trans (hb.mono bk.out.size)
                have sn : Hid (Kn wv12 [(g, crdC (G)), (h, crdC (crdF t)), (r, crdC fun _ => none)]) := sk.out.up hb
                clear hb sk bk
                have bk := bn
                have sk := sn
                clear bn sn
                clear FL m1 m2
                have cv : wv12.cell? ⟨g, 31, none⟩ = _ := Kn.get sk.out 0 31 rfl (crdC_val (i := 12) _ (by decide))
                have zv := Kn.fz sk.out 0 rfl
                have sx : Hid (Kn (wv12.setCell ⟨g, 31, none⟩ (.string sv12)) [(g, crdC (putF (G) 12 (flgV false))), (h, crdC (crdF t)), (r, crdC fun _ => none)]) := by
                  have := Kn.set sk.out (19 + 12) (.string sv12) (by rw [crdC_length]; decide)
                  rw [← hsv12.out, crdC_valS (by decide) _ H12.out] at this
                  rw [← hsv12.out]
                  exact this
                have bx : Hid (Below w.heap.size w (wv12.setCell ⟨g, 31, none⟩ (.string sv12))) := bk.out.setCell (p := ⟨g, 31, none⟩) hg.out _
                clear sk bk hsv12
                have sk := sx
                have bk := bx
                clear sx bx
                obtain ⟨sv10, hsv10⟩ : ∃ s, Hid (sOf (flgV false) = s) := ⟨_, rfl⟩
                have FL := fun W => flag_fun false W
                rw [hsv10.out] at FL
                go_wp2_with fail
                refine (FL _).mono ?_
                rintro e wv10 ⟨rfl, hb⟩
                have bn : Hid (Below w.heap.size w wv10) := bk.out.trans (hb.mono bk.out.size)
                have sn : Hid (Kn wv10 [(g, crdC (putF G 12 (flgV false))), (h, crdC (crdF t)), (r, crdC fun _ => none)]) := sk.out.up hb
                clear hb sk bk
                have bk := bn
                have sk := sn
                clear bn sn
                clear FL cv zv
                have cv : wv10.cell? ⟨g, 29, none⟩ = _ := Kn.get sk.out 0 29 rfl (crdC_val (i := 10) _ (by decide))
                have zv := Kn.fz sk.out 0 rfl
                have sx : Hid (Kn (wv10.setCell ⟨g, 29, none⟩ (.string sv10)) [(g, crdC (putF (putF G 12 (flgV false)) 10 (flgV false))), (h, crdC (crdF t)), (r, crdC fun _ => none)]) := by
                  have := Kn.set sk.out (19 + 10) (.string sv10) (by rw [crdC_length]; decide)
                  rw [← hsv10.out, crdC_valS (by decide) _ H10.out] at this
                  rw [← hsv10.out]
                  exact this
                have bx : Hid (Below w.heap.size w (wv10.setCell ⟨g, 29, none⟩ (.string sv10))) := bk.out.setCell (p := ⟨g, 29, none⟩) hg.out _
                clear sk bk hsv10
                have sk := sx
                have bk := bx
                clear sx bx
                obtain ⟨sv11, hsv11⟩ : ∃ s, Hid (sOf (flgV false) = s) := ⟨_, rfl⟩
                have FL := fun W => flag_fun false W
                rw [hsv11.out] at FL
                go_wp2_with fail
                refine (FL _).mono ?_
                rintro e wv11 ⟨rfl, hb⟩
                have bn : Hid (Below w.heap.size w wv11) := bk.out.trans (hb.mono bk.out.size)
                have sn : Hid (Kn wv11 [(g, crdC (putF (putF G 12 (flgV false)) 10 (flgV false))), (h, crdC (crdF t)), (r, crdC fun _ => none)]) := sk.out.up hb
                clear hb sk bk
                have bk := bn
                have sk := sn
                clear bn sn
                clear FL cv zv
                have cv : wv11.cell? ⟨g, 30, none⟩ = _ := Kn.get sk.out 0 30 rfl (crdC_val (i := 11) _ (by decide))
                have zv := Kn.fz sk.out 0 rfl
                have sx : Hid (Kn (wv11.setCell ⟨g, 30, none⟩ (.string sv11)) [(g, crdC (putF (putF (putF G 12 (flgV false)) 10 (flgV false)) 11 (flgV false))), (h, crdC (crdF t)), (r, crdC fun _ => none)]) := by
                  have := Kn.set sk.out (19 + 11) (.string sv11) (by rw [crdC_length]; decide)
                  rw [← hsv11.out, crdC_valS (by decide) _ H11.out] at this
                  rw [← hsv11.out]
                  exact this
                have bx : Hid (Below w.heap.size w (wv11.setCell ⟨g, 30, none⟩ (.string sv11))) := bk.out.setCell (p := ⟨g, 30, none⟩) hg.out _
                clear sk bk hsv11
                have sk := sx
                have bk := bx
                clear sx bx
                obtain ⟨GG, hGG⟩ : ∃ GG, Hid (putF (putF (putF G 12 (flgV false)) 10 (flgV false)) 11 (flgV false) = GG) := ⟨_, rfl⟩
                have LGG : lowF GG := by
                  rw [← hGG.out]
                  exact putF_low (putF_low (putF_low LG.out (flgV_low _)) (flgV_low _)) (flgV_low _)
                rw [hGG.out] at E6 D6 sk
                clear hGG H12 H10 H11 LG O8 O9
                have OB := fun W => object_fun GG LGG W
                obtain ⟨ob, hob⟩ : ∃ b, Hid (objF (GG) = b) := ⟨_, rfl⟩
                rw [hob.out] at OB
                go_wp2_with (first | refine wp_ldW rfl 31 _ rfl g 0 rfl (crdC (GG)) _ (Kn.rng sk.out 0 rfl) u_card rfl (info_card _) ?_ | fail)
                refine (OB _).mono ?_
                rintro e wz ⟨rfl, hb⟩
                have bn : Hid (Below w.heap.size w wz) := bk.out.trans (hb.mono bk.out.size)
                have sn : Hid (Kn wz [(g, crdC (GG)), (h, crdC (crdF t)), (r, crdC fun _ => none)]) := sk.out.up hb
                clear hb sk bk OB
                cases ob with
                | true =>
                  have he : madE t false = 0 := E6.out.trans (if_pos hob.out)
                  have hE : E = 0 := HE.out.symm.trans he
                  have hD := D6.out he
                  have TT : Hid (_) := Kn.there (us := crdC (GG)) sn.out 2 rfl (by simp [crdC_length])
                  clear he E6 hob D6 cv zv
                  go_wp2_with (first | refine wp_ldW rfl 31 _ rfl g 0 rfl (crdC (GG)) _ (Kn.rng sn.out 0 rfl) u_card rfl (info_card _) ?_ | refine I.wp_store_eq rfl 31 _ _ rfl r 0 (crdC (GG)) rfl rfl TT.out (info_card _) (one_crd _) ?_ | fail)
                  intro w9 hw9
                  have s9 : Hid (Kn w9 [(r, crdC (GG)), (g, crdC (GG)), (h, crdC (crdF t))]) := by
                    rw [hw9.out]
                    exact Kn.put (sn.out.front 2 rfl) (by simp [crdC_length])
                  have b9 : Hid (Below w.heap.size w w9) := by
                    rw [hw9.out]
                    exact I.below_setCells _ _ _ bn.out hrr.out
                  clear hw9 sn bn TT
                  go_wp2_with fail
                  exact bodyPost_ret (v := .tuple #[.agg (crdC (GG)).toArray, .int .i64 (0 : Nat)]) (results_crd rfl rfl rfl (Kn.rng s9.out 0 rfl) u_card rfl (info_card _)) rfl ⟨by rw [hE, hD], b9.out⟩
                | false =>
                  have he : madE t false = 12 := E6.out.trans (if_neg (by rw [hob.out]; decide))
                  have bk := bn
                  have sk : Hid (Kn wz [(h, crdC (crdF t)), (r, crdC fun _ => none)]) := sn.out.drop 0
                  clear E6 hob D6 bn sn cv zv
                  have hE : E = 12 := HE.out.symm.trans he
                  have hD : D = nonF := HD.out.symm.trans (if_neg (by rw [he]; decide))
                  clear he
                  have TT : Hid (_) := Kn.there (us := crdC fun _ => none) sk.out 1 rfl rfl
                  go_wp2_with (first | refine wp_bldC rfl rfl ?_ | refine I.wp_store_eq rfl 31 _ _ rfl r 0 (crdC fun _ => none) rfl rfl TT.out (info_card _) (one_crd _) ?_   | fail)
                  intro w9 hw9
                  have s9 := Kn.put (us := crdC fun _ => none) (sk.out.front 1 rfl) rfl
                  rw [← hw9.out] at s9
                  have S9 : Hid _ := s9
                  have b9 : Hid (Below w.heap.size w w9) := by
                    rw [hw9.out]
                    exact I.below_setCells _ _ _ bk.out hrr.out
                  clear hw9 sk bk TT s9  
                  go_wp2_with fail
                  exact bodyPost_ret (v := .tuple #[.agg (crdC fun _ => none).toArray, .int .i64 (12 : Nat)]) (results_crd rfl rfl rfl (Kn.rng S9.out 0 rfl) u_card rfl (info_card _)) rfl ⟨by first | rfl | (rw [hE, hD]; rfl) | (rw [hD]; rfl) | (rw [hE]; rfl), b9.out⟩
            · have m1 : ((c : Int) % 2 == 0) = false := beq_eq_false_iff_ne.2 (by omega)
              have m2 : ((c : Int).tmod 2 == 0) = false := by rw [Int.tmod_eq_emod_of_nonneg (by omega)]; exact m1
              have el : locF c lb G = G := if_neg cc
              rw [el] at E5 D5
              have E6 := E5
              have D6 := D5
              clear E5 D5 EV ON cc el HC4 HC0
              have OB := fun W => object_fun G LG.out W
              obtain ⟨ob, hob⟩ : ∃ b, Hid (objF (G) = b) := ⟨_, rfl⟩
              rw [hob.out] at OB
              go_wp2_with (first | refine wp_ldW rfl 31 _ rfl g 0 rfl (crdC (G)) _ (Kn.rng sk.out 0 rfl) u_card rfl (info_card _) ?_ | fail)
              refine (OB _).mono ?_
              rintro e wz ⟨rfl, hb⟩
              have bn : Hid (Below w.heap.size w wz) := bk.out.trans (hb.mono bk.out.size)
              have sn : Hid (Kn wz [(g, crdC (G)), (h, crdC (crdF t)), (r, crdC fun _ => none)]) := sk.out.up hb
              clear hb sk bk OB
              cases ob with
              | true =>
                have he : madE t lb = 0 := E6.out.trans (if_pos hob.out)
                have hE : E = 0 := HE.out.symm.trans he
                have hD := D6.out he
                have TT : Hid (_) := Kn.there (us := crdC (G)) sn.out 2 rfl (by simp [crdC_length])
                clear he E6 hob D6 m1 m2
                go_wp2_with (first | refine wp_ldW rfl 31 _ rfl g 0 rfl (crdC (G)) _ (Kn.rng sn.out 0 rfl) u_card rfl (info_card _) ?_ | refine I.wp_store_eq rfl 31 _ _ rfl r 0 (crdC (G)) rfl rfl TT.out (info_card _) (one_crd _) ?_ | fail)
                intro w9 hw9
                have s9 : Hid (Kn w9 [(r, crdC (G)), (g, crdC (G)), (h, crdC (crdF t))]) := by
                  rw [hw9.out]
                  exact Kn.put (sn.out.front 2 rfl) (by simp [crdC_length])
                have b9 : Hid (Below w.heap.size w w9) := by
                  rw [hw9.out]
                  exact I.below_setCells _ _ _ bn.out hrr.out
                clear hw9 sn bn TT
                go_wp2_with fail
                exact bodyPost_ret (v := .tuple #[.agg (crdC (G)).toArray, .int .i64 (0 : Nat)]) (results_crd rfl rfl rfl (Kn.rng s9.out 0 rfl) u_card rfl (info_card _)) rfl ⟨by rw [hE, hD], b9.out⟩
              | false =>
                have he : madE t lb = 12 := E6.out.trans (if_neg (by rw [hob.out]; decide))
                have bk := bn
                have sk : Hid (Kn wz [(h, crdC (crdF t)), (r, crdC fun _ => none)]) := sn.out.drop 0
                clear E6 hob D6 bn sn m1 m2
                have hE : E = 12 := HE.out.symm.trans he
                have hD : D = nonF := HD.out.symm.trans (if_neg (by rw [he]; decide))
                clear he
                have TT : Hid (_) := Kn.there (us := crdC fun _ => none) sk.out 1 rfl rfl
                go_wp2_with (first | refine wp_bldC rfl rfl ?_ | refine I.wp_store_eq rfl 31 _ _ rfl r 0 (crdC fun _ => none) rfl rfl TT.out (info_card _) (one_crd _) ?_   | fail)
                intro w9 hw9
                have s9 := Kn.put (us := crdC fun _ => none) (sk.out.front 1 rfl) rfl
                rw [← hw9.out] at s9
                have S9 : Hid _ := s9
                have b9 : Hid (Below w.heap.size w w9) := by
                  rw [hw9.out]
                  exact I.below_setCells _ _ _ bk.out hrr.out
                clear hw9 sk bk TT s9  
                go_wp2_with fail
                exact bodyPost_ret (v := .tuple #[.agg (crdC fun _ => none).toArray, .int .i64 (12 : Nat)]) (results_crd rfl rfl rfl (Kn.rng S9.out 0 rfl) u_card rfl (info_card _)) rfl ⟨by first | rfl | (rw [hE, hD]; rfl) | (rw [hD]; rfl) | (rw [hE]; rfl), b9.out⟩
  · have he : madE t lb = ft := by
      unfold madE
      rw [if_pos (by rw [hft.out]; exact hf), hft.out]
    have fn : ((ft : Int) != 0) = true := bne_iff_ne.2 (by omega)
    clear hft C1
    have hE : E = ft := HE.out.symm.trans he
    have hD : D = nonF := HD.out.symm.trans (if_neg (by rw [he]; exact hf))
    clear he
    have TT : Hid (_) := Kn.there (us := crdC fun _ => none) sk.out 0 rfl rfl
    go_wp2_with (first | refine wp_bldC rfl rfl ?_ | refine I.wp_store_eq rfl 31 _ _ rfl r 0 (crdC fun _ => none) rfl rfl TT.out (info_card _) (one_crd _) ?_   | fail)
    intro w9 hw9
    have s9 := Kn.put (us := crdC fun _ => none) (sk.out.front 0 rfl) rfl
    rw [← hw9.out] at s9
    have S9 : Hid _ := s9
    have b9 : Hid (Below w.heap.size w w9) := by
      rw [hw9.out]
      exact I.below_setCells _ _ _ bk.out hrr.out
    clear hw9 sk bk TT s9 fn
    go_wp2_with fail
    exact bodyPost_ret (v := .tuple #[.agg (crdC fun _ => none).toArray, .int .i64 (ft : Nat)]) (results_crd rfl rfl rfl (Kn.rng S9.out 0 rfl) u_card rfl (info_card _)) rfl ⟨by first | rfl | (rw [hE, hD]; rfl) | (rw [hD]; rfl) | (rw [hE]; rfl), b9.out⟩
/-- Made. -/
theorem made_fun (t : List Ar) (b : Bool) (hs : t.length ≤ 4611686018427387904) (lo : ∀ x ∈ t, lowB x.v) (v : Value) (w : World) (hv : Ats w v t) :
    Calls Try.prog 11 #[v, .bool b] w fun e w' => e = .returned (.tuple #[.agg (crdC (madF t b)).toArray, .int .i64 ((madE t b : Nat) : Int)]) ∧ Below w.heap.size w w' :=
  made_walk t v b _ _ hs lo w rfl rfl hv
end Go.Proofs.Ytepaapiflkkghaa
