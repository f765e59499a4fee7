/- Package curve, as it landed: Times. -/
import Derived.Test.YtpnfopakkaoibaaQCvTm
namespace Go.Proofs.Ytpnfopakkaoibaa
open Go.RowKit
set_option linter.unusedSimpArgs false
theorem cTimesC : CTimesC := fun n P on hP w => by
  have A1 := asF_fun hP
  have A2 := asF_fun Cv.zero_on
  have e1 : qv (Cv.asq P) = qV (nm P.1) (nm P.2) (nm (F.mul P.1 P.2)) nI := by rw [nI_nm]; rfl
  have e2 : qv (Cv.asq Cv.zero) = qV nO nI nO nI := by
    rw [nI_nm, nO_nm]
    rfl
  have e3 : pv Cv.zero = Wv nO nI := by rw [nI_nm, nO_nm]; rfl
  rw [e1] at A1
  rw [e2, e3] at A2
  refine cTimes_walk n (nm P.1) (nm P.2) _ (nm (Cv.times n.nat P).1) (nm (Cv.times n.nat P).2) (fun k tx ty tv tz => ∃ t : Cv.Qd, Cv.qlt t ∧ Cv.FqN t (Cv.times (n.nat / 2 ^ k) P) ∧ qV tx ty tv tz = qv t) (cOnC.1 P hP) A1 A2 ?_ ?_ ?_ w
  · refine ⟨Cv.asq Cv.zero, Cv.asq_lt Cv.zero_on, ?_, e2.symm⟩
    rw [Nat.div_eq_of_lt (Nm.nat_lt on)]
    exact Cv.asq_fq Cv.zero
  · rintro j tx ty tv tz hj ⟨t, ht, hf, e⟩
    have ho := Cv.times_on hP (n.nat / 2 ^ (j + 1))
    have hd := Cv.qadd_fq ho ho hf hf
    have hs := Cv.qadd_fq (Cv.closed ho ho) hP hd (Cv.asq_fq P)
    have hq : n.nat / 2 ^ (j + 1) = n.nat / 2 ^ j / 2 := by rw [Nat.pow_succ, Nat.div_div_eq_div_mul]
    have hb := bit_fun n on j hj
    rw [show n.val / 2 ^ j % 2 = ((n.nat / 2 ^ j % 2 : Nat) : Int) by rw [← Nm.nat_cast on]; norm_cast] at hb
    have T1 := csum_fun t t ht ht
    have T3 := csum_fun _ _ (Cv.qadd_lt t t) (Cv.asq_lt hP)
    have T4 := cpick_fun (n.nat / 2 ^ j % 2) (Nat.mod_lt _ (by decide)) (Cv.qadd t t) (Cv.qadd (Cv.qadd t t) (Cv.asq P))
    rw [← e] at T1
    rw [e1] at T3
    refine ⟨_, _, _, _, _, _, _, _, _, _, _, _, _, T1, hb, T3, T4, ⟨_, ?_, ?_, rfl⟩⟩
    · split
      · exact Cv.qadd_lt _ _
      · exact Cv.qadd_lt _ _
    · split
      · rename_i h
        rw [show n.nat / 2 ^ j = 2 * (n.nat / 2 ^ (j + 1)) by rw [hq]; omega, Cv.times_two hP]
        exact hd
      · rename_i h
        rw [show n.nat / 2 ^ j = 2 * (n.nat / 2 ^ (j + 1)) + 1 by rw [hq]; omega, Cv.times_bit hP]
        exact hs
  · rintro tx ty tv tz ⟨t, ht, hf, e⟩
    rw [Nat.pow_zero, Nat.div_one] at hf
    have := cdiv_fun ht (Cv.times_on hP n.nat) hf
    rw [← e] at this
    exact this
end Go.Proofs.Ytpnfopakkaoibaa
