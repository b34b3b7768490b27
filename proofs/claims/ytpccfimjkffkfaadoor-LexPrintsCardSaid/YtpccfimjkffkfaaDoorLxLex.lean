/- Lex. -/
import Derived.Test.YtpccfimjkffkfaaDoorLxText
import Derived.Test.YtpccfimjkffkfaaDoorLxSign
import Derived.Test.YtpccfimjkffkfaaDoorLxSkip
import Derived.Test.YtpccfimjkffkfaaDoorLxWords
namespace Go.Proofs.YtpccfimjkffkfaaDoor
set_option linter.unusedVariables false
set_option linter.unusedSimpArgs false
open Go.ChangeShapes Go.WideShapes Go.ChangeAt Go.RowKit
set_option maxHeartbeats 4000000 in
theorem taker_any {w : World} {g : Nat} {s : ByteArray} {k mb : Nat} (h : Rdr w g s k mb) (hlt : k < s.size) :
    Calls Tryd.prog 24 #[.pointer (some ⟨g, 0, none⟩)] w fun e w' => ∃ fid : FuncId, e = .returned (.func (.func fid) #[.pointer (some ⟨g, 0, none⟩)] #[]) ∧ Still w w' ∧ Rdr w' g s k mb ∧ (∀ args W, (callFunc fid args).run Tryd.prog W = .ok (.enter fid args) W) ∧ ∀ W, Rdr W g s k mb → Words W mb → Calls Tryd.prog fid #[.pointer (some ⟨g, 0, none⟩)] W (TakeR W g s k mb) := by
  have hf := h.few
  obtain ⟨b0, b1, b2, b3, b4⟩ := h.box
  have HD := Lib.hid (isDigit_any s[k].toNat)
  cases hd : Lx.dig s[k].toNat with
  | true =>
    rw [hd] at HD
    go_enter Tryd.func24, Tryd.ntmps24
    go_wp2_with fail
    go_quiet (fail)
    go_wp2_with fail
    refine (HD.out _).mono ?_; rintro e w1 ⟨rfl, rfl⟩
    go_wp2_with fail
    go_ret
    exact ⟨_, rfl, drewN_still nq, h.still (drewN_still nq), enters_of Tryd.func47 (by kernel_rfl) rfl, fun W hW hw => number_t hW hlt hd⟩
  | false =>
    rw [hd] at HD
    have e34 := int_beq s[k].toNat 34
    have e39 := int_beq s[k].toNat 39
    by_cases h34 : s[k].toNat = 34
    · have x34 : ((s[k].toNat : Int) == 34) = true := e34.trans (beq_iff_eq.2 h34)
      have H34 := Lib.hid h34
      clear e34 e39 h34
      go_enter Tryd.func24, Tryd.ntmps24
      go_wp2_with fail
      go_quiet (fail)
      go_wp2_with fail
      refine (HD.out _).mono ?_; rintro e w1 ⟨rfl, rfl⟩
      go_wp2_with fail
      go_ret
      exact ⟨_, rfl, drewN_still nq, h.still (drewN_still nq), enters_of Tryd.func48 (by kernel_rfl) rfl, fun W hW hw => text_any hW hlt H34.out⟩
    · by_cases h39 : s[k].toNat = 39
      · have x34 : ((s[k].toNat : Int) == 34) = false := e34.trans (beq_eq_false_iff_ne.2 h34)
        have x39 : ((s[k].toNat : Int) == 39) = true := e39.trans (beq_iff_eq.2 h39)
        have H39 := Lib.hid h39
        clear e34 e39 h34 h39
        go_enter Tryd.func24, Tryd.ntmps24
        go_wp2_with fail
        go_quiet (fail)
        go_wp2_with fail
        refine (HD.out _).mono ?_; rintro e w1 ⟨rfl, rfl⟩
        go_wp2_with fail
        go_ret
        exact ⟨_, rfl, drewN_still nq, h.still (drewN_still nq), enters_of Tryd.func49 (by kernel_rfl) rfl, fun W hW hw => variable_any hW hlt H39.out⟩
      · have x34 : ((s[k].toNat : Int) == 34) = false := e34.trans (beq_eq_false_iff_ne.2 h34)
        have x39 : ((s[k].toNat : Int) == 39) = false := e39.trans (beq_eq_false_iff_ne.2 h39)
        have HS := Lib.hid (isSmall_any s[k].toNat)
        have HG := Lib.hid (isGreat_any s[k].toNat)
        have HN := Lib.hid (And.intro h34 h39)
        clear e34 e39 h34 h39
        cases hs : Lx.small s[k].toNat with
        | true =>
          rw [hs] at HS
          go_enter Tryd.func24, Tryd.ntmps24
          go_wp2_with fail
          go_quiet (fail)
          go_wp2_with fail
          refine (HD.out _).mono ?_; rintro e w1 ⟨rfl, rfl⟩
          go_wp2_with fail
          refine (HS.out _).mono ?_; rintro e w1 ⟨rfl, rfl⟩
          go_wp2_with fail
          go_ret
          exact ⟨_, rfl, drewN_still nq, h.still (drewN_still nq), enters_of Tryd.func52 (by kernel_rfl) rfl, fun W hW hw => word_any hW hw hlt (by rw [hs]; rfl)⟩
        | false =>
          rw [hs] at HS
          cases hgr : Lx.great s[k].toNat with
          | true =>
            rw [hgr] at HG
            go_enter Tryd.func24, Tryd.ntmps24
            go_wp2_with fail
            go_quiet (fail)
            go_wp2_with fail
            refine (HD.out _).mono ?_; rintro e w1 ⟨rfl, rfl⟩
            go_wp2_with fail
            refine (HS.out _).mono ?_; rintro e w1 ⟨rfl, rfl⟩
            go_wp2_with fail
            refine (HG.out _).mono ?_; rintro e w1 ⟨rfl, rfl⟩
            go_wp2_with fail
            go_ret
            exact ⟨_, rfl, drewN_still nq, h.still (drewN_still nq), enters_of Tryd.func52 (by kernel_rfl) rfl, fun W hW hw => word_any hW hw hlt (by rw [hgr, Bool.or_true])⟩
          | false =>
            rw [hgr] at HG
            go_enter Tryd.func24, Tryd.ntmps24
            go_wp2_with fail
            go_quiet (fail)
            go_wp2_with fail
            refine (HD.out _).mono ?_; rintro e w1 ⟨rfl, rfl⟩
            go_wp2_with fail
            refine (HS.out _).mono ?_; rintro e w1 ⟨rfl, rfl⟩
            go_wp2_with fail
            refine (HG.out _).mono ?_; rintro e w1 ⟨rfl, rfl⟩
            go_wp2_with fail
            go_ret
            exact ⟨_, rfl, drewN_still nq, h.still (drewN_still nq), enters_of Tryd.func53 (by kernel_rfl) rfl, fun W hW hw => sign_any hW hlt ⟨hd, HN.out.1, HN.out.2, by rw [hs, hgr]; rfl⟩⟩
end Go.Proofs.YtpccfimjkffkfaaDoor
