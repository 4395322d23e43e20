/-
  The walk of spec.DrawRowsCover.
-/
import Derived.Test.YtdcedkjoligekaaDrawAll
namespace Go.Proofs.Ytdcedkjoligekaa
open Go.RowKit
set_option linter.unusedVariables false

theorem drawRowsCover (a : Option Addr) (n c : Nat) (w : World) (h : Bytes w a n) (hn : n ≤ 1048576) (hc : n ≤ c) :
    Calls Try.prog 35 #[.slice a n c] w (RowsAsked w) := by
  have HO := Lib.hid (open_rd a n c w h hn hc)
  clear h
  go_enter Try.func35, Try.ntmps35
  go_wp2_with fail
  refine HO.out.mono ?_
  rintro e w1 ⟨n', rfl, hrd, hap⟩
  have HD := Lib.hid (drawRows hrd (by omega))
  have HA := Lib.hid hap
  clear hrd hap
  go_wp2_with fail
  refine HD.out.mono ?_
  rintro e w2 ⟨a', m, c', rs, rfl, ho, hsm, hl, _, hap2⟩
  have HR := Lib.hid (rows_asked ho hsm hl (HA.out.trans hap2))
  clear ho hsm hap2
  go_wp2
  go_ret
  exact HR.out
end Go.Proofs.Ytdcedkjoligekaa
