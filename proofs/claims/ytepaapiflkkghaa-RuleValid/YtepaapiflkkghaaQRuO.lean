/- Is a card an object, as the document has it. -/
import Derived.Test.YtepaapiflkkghaaQAtP0ToRuB
import Derived.Deep.CutRange
namespace Go.Proofs.Ytepaapiflkkghaa
open Go.RowKit
attribute [local go_sem] World.cell?_alloc_some cell_alloc2 cell_alloc3 cell_alloc4 frozen?_alloc_cells frozen_out
attribute [local go_sem] YieldsP execOp
attribute [local simp] MP.eq_p
set_option linter.unusedSimpArgs false
theorem kdsF_iff (f : Crd) : kdsF f = true ↔ ∀ i, i < 18 → (f (i + 1)).isSome = belB (clsF f) (i + 1) := by
  unfold kdsF
  rw [List.all_eq_true]
  exact ⟨fun h i hi => beq_iff_eq.1 (h i (List.mem_range.2 hi)), fun h i hi => beq_iff_eq.2 (h i (List.mem_range.1 hi))⟩
set_option maxRecDepth 20000 in
set_option maxHeartbeats 8000000 in
theorem object_walk (f : Crd) (h c n4 : Nat) (w : World) (hh : Hid (w.heap.size = h)) (hc : c < 256) (h4 : Hid ((sOf ((f 4).getD [])).size = n4)) (o8 o9 o10 o11 o13 o14 o15 o16 o17 sz r : Bool) (F : Nat → Bool) (HF : Hid (∀ k, k < 19 → (crdC f)[k]? = some (.bool (F k))))
    (h0 : Hid (∀ i, i < 18 → F (i + 1) ≠ belB c (i + 1) → r = false)) (h1 : Hid (F 1 = false → r = false)) (h2 : Hid (sz = false → r = false))
    (hr : Hid ((∀ i, i < 18 → F (i + 1) = belB c (i + 1)) → F 1 = true → sz = true → r = (((!o10 || o8) && (!o11 || !o9)) && !((o16 || o17) && ((o13 || o14) || o15)))))
    (CL : ∀ W, Calls Try.prog 43 #[.agg (crdC f).toArray] W fun e w' => e = .returned (.int .i64 (c : Int)) ∧ Below W.heap.size W w')
    (SZ : Hid (∀ W, Calls Try.prog 44 #[.int .i64 (c : Int), .int .i64 (n4 : Int)] W fun e w' => e = .returned (.bool sz) ∧ Below W.heap.size W w'))
    (ON : Hid (∀ k b, (k, b) ∈ [(8, o8), (9, o9), (10, o10), (11, o11), (13, o13), (14, o14), (15, o15), (16, o16), (17, o17)] → ∀ W, Calls Try.prog 47 #[.agg (crdC f).toArray, .int .i64 ((k : Nat) : Int)] W fun e w' => e = .returned (.bool b) ∧ Below W.heap.size W w')) :
    Calls Try.prog 48 #[.agg (crdC f).toArray] w fun e w' => e = .returned (.bool r) ∧ Below w.heap.size w w' := by
  have HC : Hid (c < 256) := hc
  have s0 : Hid (Kn (w.alloc (.cells (crdC f).toArray 31)) [(w.heap.size, crdC f)]) := (Kn.nil w).al (crdC f) 31 rfl
  have b0 : Hid (Below w.heap.size w (w.alloc (.cells (crdC f).toArray 31))) := (Below.refl _ _).alloc (Nat.le_refl _) _
  rw [hh.out] at s0
  clear hc
  go_enter Try.func48, Try.ntmps48
  go_wp2_with (refine wp_ldW rfl 31 _ rfl w.heap.size 0 rfl (crdC f) _ (by rw [hh.out]; exact Kn.rng s0.out 0 rfl) u_card rfl (info_card _) ?_)
  refine (CL _).mono ?_
  rintro e w1 ⟨rfl, hb⟩
  have s1 : Hid (Kn w1 [(h, crdC f)]) := s0.out.up hb
  have b1 : Hid (Below w.heap.size w w1) := b0.out.trans (hb.mono b0.out.size)
  clear hb s0 b0 CL
  rw [hh.out]
  go_wp2_with fail
  go_loopw [4] (fun i wr => ∃ j : Nat, j ≤ 18 ∧ i = .int .i64 ((j : Int) + 1) ∧ Hid (∀ i, i < j → F (i + 1) = belB c (i + 1)) ∧ Hid (Kn wr [(h, crdC f)]) ∧ Hid (Below w.heap.size w wr)) (fun i _ => 20 - (intOf i).toNat)
  case atStart => exact ⟨0, Nat.zero_le _, rfl, fun i hi => absurd hi (Nat.not_lt_zero _), s1, b1⟩
  case round =>
    clear s1 b1
    obtain ⟨j, hj, rfl, no, sk, bk⟩ := hrel
    by_cases hlt : j < 18
    · have i1 : (j : Int) + 1 ≤ 18 := by omega
      have i2 : (j : Int) + 1 < 19 := by omega
      have i0 : (0 : Int) ≤ (j : Int) + 1 := by omega
      have ij : ((j : Int) + 1).toNat = j + 1 := by omega
      have ec : ((j + 1 : Nat) : Int) = (j : Int) + 1 := rfl
      have HJ : Hid (j < 18) := hlt
      have hu : Hid _ := HF.out (j + 1) (by omega)
      obtain ⟨z, hz⟩ : ∃ z, Hid (F (j + 1) = z) := ⟨_, rfl⟩
      obtain ⟨y, hy⟩ : ∃ y, Hid (belB c (j + 1) = y) := ⟨_, rfl⟩
      rw [hz.out] at hu
      have BE := fun W => belongs_fun c (j + 1) (by omega) W
      rw [hy.out, ec] at BE
      obtain ⟨t, ht⟩ : ∃ t, (z == y) = !t := ⟨!(z == y), by simp⟩
      have HT : Hid ((z == y) = !t) := ht
      clear hlt hj ec
      go_wp2_with fail
      refine wp_region_monoE [MP.eq (.int .i64 ((j : Int) + 1)), MP.eq (.pointer (some ⟨h, 0, none⟩)), MP.eq (.pointer (some ⟨h, j + 1, none⟩)), MP.eq (.bool z), MP.eq (.int .i64 (c : Int)), MP.eq (.int .i64 ((j : Int) + 1)), MP.eq (.bool y), MP.eq (.bool t)] (by kernel_rfl) (by kernel_rfl) rfl ?_
      apply Exists.intro
      refine ⟨fun vals => ?_, ?_, fun vals2 w2 hb2 hF => ?_⟩
      · simp only [putsV, dstL, List.length_cons, List.length_nil, Nat.zero_add, Nat.reduceAdd, List.getElem?_cons_zero, List.getElem?_cons_succ, Option.bind_some, Act.put, List.setIfInBounds_toArray, List.set_cons_succ, List.set_cons_zero]
        rfl
      · refine ⟨?_, ?_, ?_, ?_, ?_, ?_, ?_, ?_, trivial⟩
        · intro vals W hW hw hd
          try simp [Region.binds] at hd
          refine ⟨by first | rfl | simp [Region.wanted, yielded, hd], ?_⟩
          simp [go_sem, hd]
          exact Below.refl _ _
        · intro vals W hW hw hd
          try simp [Region.binds] at hd
          refine ⟨by first | rfl | simp [Region.wanted, yielded, hd], ?_⟩
          simp [go_sem, hd]
          exact Below.refl _ _
        · intro vals W hW hw hd
          try simp [Region.binds] at hd
          refine ⟨by first | rfl | simp [Region.wanted, yielded, hd], ?_⟩
          simp [go_sem, hd, i0, i2, ij]
          exact Below.refl _ _
        · intro vals W hW hw hd
          try simp [Region.binds] at hd
          refine ⟨by first | rfl | simp [Region.wanted, yielded, hd], ?_⟩
          have u0 := Kn.get (sk.out.up hW.out) 0 (j + 1) rfl hu.out
          simp [go_sem, hd, u0]
          exact Below.refl _ _
        · intro vals W hW hw hd
          try simp [Region.binds] at hd
          refine ⟨by first | rfl | simp [Region.wanted, yielded, hd], ?_⟩
          simp [go_sem, hd]
          exact Below.refl _ _
        · intro vals W hW hw hd
          try simp [Region.binds] at hd
          refine ⟨by first | rfl | simp [Region.wanted, yielded, hd], ?_⟩
          simp [go_sem, hd]
          exact Below.refl _ _
        · intro vals W hW hw hd
          try simp [Region.binds] at hd
          refine ⟨by first | rfl | simp [Region.wanted, yielded, hd], ?_⟩
          simp [go_sem, hd]
          exact (BE W).mono fun e w' ⟨he, hb⟩ => ⟨_, he, rfl, hb⟩
        · intro vals W hW hw hd
          try simp [Region.binds] at hd
          refine ⟨by first | rfl | simp [Region.wanted, yielded, hd], ?_⟩
          simp [go_sem, hd, ht]
          exact Below.refl _ _
      obtain ⟨f0, f1, f2, f3, f4, f5, f6, f7, _⟩ := hF
      simp only [MP.eq_p] at f0 f1 f2 f3 f4 f5 f6 f7
      have b2 : Hid (Below w.heap.size w w2) := bk.out.trans (hb2.out.mono bk.out.size)
      have s2 : Hid (Kn w2 [(h, crdC f)]) := sk.out.up hb2.out
      rw [f7]
      clear f0 f1 f2 f3 f4 f5 f6 f7 hb2 bk sk BE ht hu
      cases t with
      | true =>
        have e1 : r = false := h0.out j HJ.out fun e => by
          have := HT.out
          rw [← hz.out, ← hy.out, e, beq_self_eq_true] at this
          cases this
        clear no s2
        go_wp2_with fail
        go_ret
        exact ⟨by first | rfl | (rw [e1]; rfl), b2.out⟩
      | false =>
        have no' : Hid (∀ i, i < j + 1 → F (i + 1) = belB c (i + 1)) := fun i hi => by
          by_cases e : i = j
          · have := beq_iff_eq.1 HT.out
            rw [e, hz.out, hy.out, this]
          · exact no.out i (by omega)
        clear no
        go_wp2_with fail
        go_roundw
        case rel => exact ⟨j + 1, HJ.out, by first | rfl | go_num, no', s2, b2⟩
        case measure => simp [intOf]; have := HJ.out; omega
    · have i1 : ¬ (j : Int) + 1 ≤ 18 := by omega
      have NO : Hid (∀ i, i < 18 → F (i + 1) = belB c (i + 1)) := fun i hi => no.out i (by omega)
      have hu1 := Kn.get sk.out 0 1 rfl (HF.out 1 (by decide))
      have hu4 := Kn.get sk.out 0 (19 + 4) rfl (crdC_val f (by decide))
      have h4' := h4.out
      generalize sOf ((f 4).getD []) = s4 at *
      clear hlt hj no h0
      obtain ⟨g1, hg1⟩ : ∃ g, Hid (F 1 = g) := ⟨_, rfl⟩
      rw [hg1.out] at hu1
      cases g1 with
      | false =>
        have e1 := h1.out hg1.out
        clear h2 hr NO h4'
        go_wp2_with fail
        go_ret
        exact ⟨by first | rfl | (rw [e1]; rfl), bk.out⟩
      | true =>
      go_wp2_with fail
      refine (SZ.out _).mono ?_
      rintro e wy ⟨rfl, hb⟩
      have sn : Hid (Kn wy [(h, crdC f)]) := sk.out.up hb
      have bn : Hid (Below w.heap.size w wy) := bk.out.trans (hb.mono bk.out.size)
      clear hb sk bk hu1 hu4 h4'
      have sk := sn
      have bk := bn
      clear sn bn
      cases sz with
      | false =>
        have e1 := h2.out rfl
        clear hr NO
        go_wp2_with fail
        go_ret
        exact ⟨by first | rfl | (rw [e1]; rfl), bk.out⟩
      | true =>
      have e1 : Hid _ := hr.out NO.out hg1.out rfl
      clear h1 h2 hr NO hg1 SZ
      have HK : Hid _ := sk.out
      clear HK
      obtain ⟨ke, hke⟩ : ∃ ke, Hid ((o16 || o17) = ke) := ⟨_, rfl⟩
      obtain ⟨da, hda⟩ : ∃ da, Hid (((o13 || o14) || o15) = da) := ⟨_, rfl⟩
      have e2 : Hid (r = (((!o10 || o8) && (!o11 || !o9)) && !(ke && da))) := by show _ = _; rw [← hke.out, ← hda.out]; exact e1.out
      clear e1
      go_upto_region 9 with fail
      go_cut [5] from 34 (fun s wx => s = .bool ke ∧ Hid (Kn wx [(h, crdC f)]) ∧ Hid (Below w.heap.size w wx))
      case first =>
        clear e2 hda
        go_wp2_with (first | refine wp_ldW rfl 31 _ rfl h 0 rfl (crdC f) _ (Kn.rng sk.out 0 rfl) u_card rfl (info_card _) ?_ | fail)
        refine (ON.out 16 o16 (by simp) _).mono ?_
        rintro e wy ⟨rfl, hb⟩
        have sn : Hid (Kn wy [(h, crdC f)]) := sk.out.up hb
        have bn : Hid (Below w.heap.size w wy) := bk.out.trans (hb.mono bk.out.size)
        clear hb sk bk
        have sk := sn
        have bk := bn
        clear sn bn
        cases o16 with
        | true =>
          obtain rfl : true = ke := hke.out
          clear hke
          go_wp2_with fail
          go_meet
          case rel => exact ⟨rfl, sk, bk⟩
        | false =>
          obtain rfl : o17 = ke := hke.out
          clear hke
          go_wp2_with (first | refine wp_ldW rfl 31 _ rfl h 0 rfl (crdC f) _ (Kn.rng sk.out 0 rfl) u_card rfl (info_card _) ?_ | fail)
          refine (ON.out 17 o17 (by simp) _).mono ?_
          rintro e wy ⟨rfl, hb⟩
          have sn : Hid (Kn wy [(h, crdC f)]) := sk.out.up hb
          have bn : Hid (Below w.heap.size w wy) := bk.out.trans (hb.mono bk.out.size)
          clear hb sk bk
          have sk := sn
          have bk := bn
          clear sn bn
          go_wp2_with fail
          go_meet
          case rel => exact ⟨rfl, sk, bk⟩
      case rest =>
        clear sk bk
        obtain ⟨rfl, sk, bk⟩ := hcut
        go_upto_region 10 with fail
        go_cut [6] from 40 (fun s wx => s = .bool da ∧ Hid (Kn wx [(h, crdC f)]) ∧ Hid (Below w.heap.size w wx))
        case first =>
          clear e2 hke
          go_wp2_with (first | refine wp_ldW rfl 31 _ rfl h 0 rfl (crdC f) _ (Kn.rng sk.out 0 rfl) u_card rfl (info_card _) ?_ | fail)
          refine (ON.out 13 o13 (by simp) _).mono ?_
          rintro e wy ⟨rfl, hb⟩
          have sn : Hid (Kn wy [(h, crdC f)]) := sk.out.up hb
          have bn : Hid (Below w.heap.size w wy) := bk.out.trans (hb.mono bk.out.size)
          clear hb sk bk
          have sk := sn
          have bk := bn
          clear sn bn
          cases o13 with
          | true =>
            obtain rfl : true = da := hda.out
            clear hda
            go_wp2_with fail
            go_meet
            case rel => exact ⟨rfl, sk, bk⟩
          | false =>
            go_wp2_with (first | refine wp_ldW rfl 31 _ rfl h 0 rfl (crdC f) _ (Kn.rng sk.out 0 rfl) u_card rfl (info_card _) ?_ | fail)
            refine (ON.out 14 o14 (by simp) _).mono ?_
            rintro e wy ⟨rfl, hb⟩
            have sn : Hid (Kn wy [(h, crdC f)]) := sk.out.up hb
            have bn : Hid (Below w.heap.size w wy) := bk.out.trans (hb.mono bk.out.size)
            clear hb sk bk
            have sk := sn
            have bk := bn
            clear sn bn
            cases o14 with
            | true =>
              obtain rfl : true = da := hda.out
              clear hda
              go_wp2_with fail
              go_meet
              case rel => exact ⟨rfl, sk, bk⟩
            | false =>
              obtain rfl : o15 = da := hda.out
              clear hda
              go_wp2_with (first | refine wp_ldW rfl 31 _ rfl h 0 rfl (crdC f) _ (Kn.rng sk.out 0 rfl) u_card rfl (info_card _) ?_ | fail)
              refine (ON.out 15 o15 (by simp) _).mono ?_
              rintro e wy ⟨rfl, hb⟩
              have sn : Hid (Kn wy [(h, crdC f)]) := sk.out.up hb
              have bn : Hid (Below w.heap.size w wy) := bk.out.trans (hb.mono bk.out.size)
              clear hb sk bk
              have sk := sn
              have bk := bn
              clear sn bn
              go_wp2_with fail
              go_meet
              case rel => exact ⟨rfl, sk, bk⟩
        case rest =>
          clear sk bk hke hda
          obtain ⟨rfl, sk, bk⟩ := hcut
          go_wp2_with (first | refine wp_ldW rfl 31 _ rfl h 0 rfl (crdC f) _ (Kn.rng sk.out 0 rfl) u_card rfl (info_card _) ?_ | fail)
          refine (ON.out 10 o10 (by simp) _).mono ?_
          rintro e wy ⟨rfl, hb⟩
          have sn : Hid (Kn wy [(h, crdC f)]) := sk.out.up hb
          have bn : Hid (Below w.heap.size w wy) := bk.out.trans (hb.mono bk.out.size)
          clear hb sk bk
          have sk := sn
          have bk := bn
          clear sn bn
          cases o10 with
          | true =>
            go_wp2_with (first | refine wp_ldW rfl 31 _ rfl h 0 rfl (crdC f) _ (Kn.rng sk.out 0 rfl) u_card rfl (info_card _) ?_ | fail)
            refine (ON.out 8 o8 (by simp) _).mono ?_
            rintro e wy ⟨rfl, hb⟩
            have sn : Hid (Kn wy [(h, crdC f)]) := sk.out.up hb
            have bn : Hid (Below w.heap.size w wy) := bk.out.trans (hb.mono bk.out.size)
            clear hb sk bk
            have sk := sn
            have bk := bn
            clear sn bn
            cases o8 with
            | true =>
              go_wp2_with (first | refine wp_ldW rfl 31 _ rfl h 0 rfl (crdC f) _ (Kn.rng sk.out 0 rfl) u_card rfl (info_card _) ?_ | fail)
              refine (ON.out 11 o11 (by simp) _).mono ?_
              rintro e wy ⟨rfl, hb⟩
              have sn : Hid (Kn wy [(h, crdC f)]) := sk.out.up hb
              have bn : Hid (Below w.heap.size w wy) := bk.out.trans (hb.mono bk.out.size)
              clear hb sk bk
              have sk := sn
              have bk := bn
              clear sn bn
              cases o11 with
              | true =>
                go_wp2_with (first | refine wp_ldW rfl 31 _ rfl h 0 rfl (crdC f) _ (Kn.rng sk.out 0 rfl) u_card rfl (info_card _) ?_ | fail)
                refine (ON.out 9 o9 (by simp) _).mono ?_
                rintro e wy ⟨rfl, hb⟩
                have sn : Hid (Kn wy [(h, crdC f)]) := sk.out.up hb
                have bn : Hid (Below w.heap.size w wy) := bk.out.trans (hb.mono bk.out.size)
                clear hb sk bk
                have sk := sn
                have bk := bn
                clear sn bn
                cases o9 with
                | true =>
                  go_wp2_with fail
                  go_ret
                  exact ⟨by first | rfl | (rw [e2.out]; rfl), bk.out⟩
                | false =>
                  cases ke with
                  | true =>
                    cases da with
                    | true =>
                      go_wp2_with fail
                      go_ret
                      exact ⟨by first | rfl | (rw [e2.out]; rfl), bk.out⟩
                    | false =>
                      go_wp2_with fail
                      go_ret
                      exact ⟨by first | rfl | (rw [e2.out]; rfl), bk.out⟩
                  | false =>
                    go_wp2_with fail
                    go_ret
                    exact ⟨by first | rfl | (rw [e2.out]; rfl), bk.out⟩
              | false =>
                cases ke with
                | true =>
                  cases da with
                  | true =>
                    go_wp2_with fail
                    go_ret
                    exact ⟨by first | rfl | (rw [e2.out]; rfl), bk.out⟩
                  | false =>
                    go_wp2_with fail
                    go_ret
                    exact ⟨by first | rfl | (rw [e2.out]; rfl), bk.out⟩
                | false =>
                  go_wp2_with fail
                  go_ret
                  exact ⟨by first | rfl | (rw [e2.out]; rfl), bk.out⟩
            | false =>
              go_wp2_with fail
              go_ret
              exact ⟨by first | rfl | (rw [e2.out]; rfl), bk.out⟩
          | false =>
            go_wp2_with (first | refine wp_ldW rfl 31 _ rfl h 0 rfl (crdC f) _ (Kn.rng sk.out 0 rfl) u_card rfl (info_card _) ?_ | fail)
            refine (ON.out 11 o11 (by simp) _).mono ?_
            rintro e wy ⟨rfl, hb⟩
            have sn : Hid (Kn wy [(h, crdC f)]) := sk.out.up hb
            have bn : Hid (Below w.heap.size w wy) := bk.out.trans (hb.mono bk.out.size)
            clear hb sk bk
            have sk := sn
            have bk := bn
            clear sn bn
            cases o11 with
            | true =>
              go_wp2_with (first | refine wp_ldW rfl 31 _ rfl h 0 rfl (crdC f) _ (Kn.rng sk.out 0 rfl) u_card rfl (info_card _) ?_ | fail)
              refine (ON.out 9 o9 (by simp) _).mono ?_
              rintro e wy ⟨rfl, hb⟩
              have sn : Hid (Kn wy [(h, crdC f)]) := sk.out.up hb
              have bn : Hid (Below w.heap.size w wy) := bk.out.trans (hb.mono bk.out.size)
              clear hb sk bk
              have sk := sn
              have bk := bn
              clear sn bn
              cases o9 with
              | true =>
                go_wp2_with fail
                go_ret
                exact ⟨by first | rfl | (rw [e2.out]; rfl), bk.out⟩
              | false =>
                cases ke with
                | true =>
                  cases da with
                  | true =>
                    go_wp2_with fail
                    go_ret
                    exact ⟨by first | rfl | (rw [e2.out]; rfl), bk.out⟩
                  | false =>
                    go_wp2_with fail
                    go_ret
                    exact ⟨by first | rfl | (rw [e2.out]; rfl), bk.out⟩
                | false =>
                  go_wp2_with fail
                  go_ret
                  exact ⟨by first | rfl | (rw [e2.out]; rfl), bk.out⟩
            | false =>
              cases ke with
              | true =>
                cases da with
                | true =>
                  go_wp2_with fail
                  go_ret
                  exact ⟨by first | rfl | (rw [e2.out]; rfl), bk.out⟩
                | false =>
                  go_wp2_with fail
                  go_ret
                  exact ⟨by first | rfl | (rw [e2.out]; rfl), bk.out⟩
              | false =>
                go_wp2_with fail
                go_ret
                exact ⟨by first | rfl | (rw [e2.out]; rfl), bk.out⟩
theorem object_fun (f : Crd) (low : lowF f) (w : World) : Calls Try.prog 48 #[.agg (crdC f).toArray] w fun e w' => e = .returned (.bool (objF f)) ∧ Below w.heap.size w w' := by
  refine object_walk f w.heap.size (clsF f) ((f 4).getD []).length w rfl (clsF_low low) (sOf_size _) (oneF f 8) (oneF f 9) (oneF f 10) (oneF f 11) (oneF f 13) (oneF f 14) (oneF f 15) (oneF f 16) (oneF f 17) (sizB (clsF f) ((f 4).getD []).length) (objF f) (fun k => (f k).isSome) (fun k hk => crdC_has f hk) (fun i hi hne => ?_) (fun h => ?_) (fun h => ?_) (fun h1 h2 h3 => ?_)
    (fun W => class_fun f low W) (fun W => sized_fun _ _ W) (fun k b hk W => ?_)
  · have : kdsF f = false := by
      cases e : kdsF f with
      | false => rfl
      | true => exact absurd ((kdsF_iff f).1 e i hi) hne
    unfold objF
    rw [this]
    rfl
  · unfold objF
    rw [show (f 1).isSome = false from h]
    simp
  · unfold objF
    rw [h]
    simp
  · unfold objF keyF datF
    rw [(kdsF_iff f).2 h1, show (f 1).isSome = true from h2, h3]
    simp
  · have hb : k < 19 ∧ b = oneF f k := by
      simp only [List.mem_cons, Prod.mk.injEq, List.not_mem_nil, or_false] at hk
      rcases hk with ⟨rfl, rfl⟩ | ⟨rfl, rfl⟩ | ⟨rfl, rfl⟩ | ⟨rfl, rfl⟩ | ⟨rfl, rfl⟩ | ⟨rfl, rfl⟩ | ⟨rfl, rfl⟩ | ⟨rfl, rfl⟩ | ⟨rfl, rfl⟩ <;> exact ⟨by decide, rfl⟩
    rw [hb.2]
    exact one_fun_ f low k hb.1 W
end Go.Proofs.Ytepaapiflkkghaa
