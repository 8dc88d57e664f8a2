/-
  Layer 6: the law BtfBuilds, walked.
-/
import Derived.Test.YtmfdojmecpdikaaBAwake
import Derived.Test.YtmfdojmecpdikaaCBuild1
namespace Go.Proofs.Ytmfdojmecpdikaa
open Go Go.RowKit Go.Maps
set_option linter.unusedVariables false
set_option linter.unusedSimpArgs false
set_option maxRecDepth 100000
set_option maxHeartbeats 4000000 in
theorem builds_walk (A : Option Addr) (c : Nat) (l : List Ty) (hlen : l.length ≤ 9223372036854775807) (w : World) (h : TysAt w A l) :
    Calls Try.prog 3 #[.slice A l.length c] w fun e w' => e = .returned (.bool true) ∧ Below w.heap.size w w' := by
  have CB := Lib.hid (build_any A c l hlen w h)
  have CQ := Lib.hid (fun W (hb : Below w.heap.size w W) => qbuild_any A c l hlen W (h.below hb))
  have CA := Lib.hid (fun w => awake_any w)
  cases ho : okB l
  · rw [buildAns_bad ho] at CB
    have HO := Lib.hid ho
    clear ho h
    have e0 : bstr [] = ⟨#[]⟩ := rfl
    rw [e0] at CB
    clear e0
    go_enter Try.func3, Try.ntmps3
    go_wp2_with fail
    go_at_call 6
    refine CB.out.mono ?_
    rintro e w1 ⟨rfl, hb⟩
    have B1 := Lib.hid hb
    clear hb
    go_wp2_with fail
    go_at_call 7
    refine (CQ.out _ B1.out).mono ?_
    rintro e w2 ⟨hb, hc⟩
    have B2 := Lib.hid (B1.out.trans (hb.mono B1.out.size))
    clear hb
    obtain ⟨_, rfl⟩ := hc.resolve_left (fun h => by have := h.1; rw [HO.out] at this; cases this)
    clear hc
    go_wp2_with (go_at_call 8; refine (CA.out _).mono ?_; rintro e w3 ⟨rfl, hb⟩; have B3 := Lib.hid (B2.out.trans (hb.mono B2.out.size)); clear hb)
    go_ret
    exact ⟨rfl, B3.out⟩
  · rw [buildAns_ok ho] at CB
    have hq := qbuild_eq l (by simp only [okB, Bool.and_eq_true] at ho; exact ho.2)
    unfold PostQB at CQ
    rw [hq] at CQ
    clear hq
    have HO := Lib.hid ho
    clear ho h
    generalize bstr (buildF l) = S at *
    go_enter Try.func3, Try.ntmps3
    go_wp2_with fail
    go_at_call 6
    refine CB.out.mono ?_
    rintro e w1 ⟨rfl, hb⟩
    have B1 := Lib.hid hb
    clear hb
    go_wp2_with fail
    go_at_call 7
    refine (CQ.out _ B1.out).mono ?_
    rintro e w2 ⟨hb, hc⟩
    have B2 := Lib.hid (B1.out.trans (hb.mono B1.out.size))
    clear hb
    obtain ⟨_, rfl⟩ := hc.resolve_right (fun h => by have := h.1; rw [HO.out] at this; cases this)
    clear hc
    go_wp2_with (go_at_call 8; refine (CA.out _).mono ?_; rintro e w3 ⟨rfl, hb⟩; have B3 := Lib.hid (B2.out.trans (hb.mono B2.out.size)); clear hb)
    go_ret
    exact ⟨rfl, B3.out⟩
end Go.Proofs.Ytmfdojmecpdikaa
