/- Names: the walks of the exact laws of NameOk, KeyOf, Alike and HashOf. -/
import Derived.Test.YtalpeeaaaapijaaDoorRows
import Derived.Test.YtalpeeaaaapijaaDoorNmK
namespace Go.Proofs.YtalpeeaaaapijaaDoor
open Go.RowKit

set_option maxRecDepth 100000 in
set_option maxHeartbeats 1000000 in
theorem wNameOk (s : ByteArray) (hm : s.size ≤ maxLen) (w : World) (hT : Tabs w) :
    Calls Tryd.prog 4 #[.string s] w fun e w' => e = .returned (.bool true) ∧ Below w.heap.size w w' := by
  unfold maxLen at hm
  by_cases hbig : (1048576 : Int) < s.size
  · go_enter Tryd.func4, Tryd.ntmps4
    go_wp2_with fail
    go_ret
    exact ⟨rfl, Below.refl _ _⟩
  · have hs : s.size ≤ 1048576 := by omega
    have S := sNameOk s w hs
    have I := fun w' (hb : Below w.heap.size w w') => iNameOk s w' (hT.below hb) hs
    generalize (nameL s).isSome = r at S I
    clear hT
    cases r
    · go_enter Tryd.func4, Tryd.ntmps4
      go_wp2_with (first | (go_at_call 12; refine S.mono ?_; rintro e w1 ⟨rfl, b1⟩) | (go_at_call 20; refine (I w1 b1).mono ?_; rintro e w2 ⟨rfl, b2⟩))
      go_ret
      exact ⟨rfl, b1.trans (b2.mono b1.size)⟩
    · go_enter Tryd.func4, Tryd.ntmps4
      go_wp2_with (first | (go_at_call 12; refine S.mono ?_; rintro e w1 ⟨rfl, b1⟩) | (go_at_call 20; refine (I w1 b1).mono ?_; rintro e w2 ⟨rfl, b2⟩))
      go_ret
      exact ⟨rfl, b1.trans (b2.mono b1.size)⟩

set_option maxRecDepth 100000 in
set_option maxHeartbeats 1000000 in
theorem wKeyOf (s : ByteArray) (hm : s.size ≤ maxLen) (w : World) (hT : Tabs w) :
    Calls Tryd.prog 5 #[.string s] w fun e w' => e = .returned (.bool true) ∧ Below w.heap.size w w' := by
  unfold maxLen at hm
  by_cases hbig : (1048576 : Int) < s.size
  · go_enter Tryd.func5, Tryd.ntmps5
    go_wp2_with fail
    go_ret
    exact ⟨rfl, Below.refl _ _⟩
  · have hs : s.size ≤ 1048576 := by omega
    have S := sKeyOf s w hs
    have I := fun w' (hb : Below w.heap.size w w') => iKeyOf s w' (hT.below hb) hs
    generalize (keyN s).1 = x at S I
    generalize (keyN s).2 = r at S I
    clear hT
    cases r
    · go_enter Tryd.func5, Tryd.ntmps5
      go_wp2_with (first | (go_at_call 21; refine S.mono ?_; rintro e w1 ⟨rfl, b1⟩) | (go_at_call 19; refine (I w1 b1).mono ?_; rintro e w2 ⟨rfl, b2⟩))
      go_ret
      exact ⟨rfl, b1.trans (b2.mono b1.size)⟩
    · go_enter Tryd.func5, Tryd.ntmps5
      go_wp2_with (first | (go_at_call 21; refine S.mono ?_; rintro e w1 ⟨rfl, b1⟩) | (go_at_call 19; refine (I w1 b1).mono ?_; rintro e w2 ⟨rfl, b2⟩))
      go_ret
      exact ⟨rfl, b1.trans (b2.mono b1.size)⟩

set_option maxRecDepth 100000 in
set_option maxHeartbeats 1000000 in
theorem wAlike (a b : ByteArray) (hma : a.size ≤ maxLen) (hmb : b.size ≤ maxLen) (w : World) (hT : Tabs w) :
    Calls Tryd.prog 6 #[.string a, .string b] w fun e w' => e = .returned (.bool true) ∧ Below w.heap.size w w' := by
  unfold maxLen at hma hmb
  by_cases hbig : (1048576 : Int) < a.size
  · go_enter Tryd.func6, Tryd.ntmps6
    go_wp2_with fail
    go_ret
    exact ⟨rfl, Below.refl _ _⟩
  · have ha : a.size ≤ 1048576 := by omega
    by_cases hbig2 : (1048576 : Int) < b.size
    · go_enter Tryd.func6, Tryd.ntmps6
      go_wp2_with fail
      go_ret
      exact ⟨rfl, Below.refl _ _⟩
    · have hb : b.size ≤ 1048576 := by omega
      have S := sAlike a b w ha hb
      have I := fun w' (hbw : Below w.heap.size w w') => iAlike a b w' (hT.below hbw) ha hb
      generalize alikeB a b = r at S I
      clear hT
      cases r
      · go_enter Tryd.func6, Tryd.ntmps6
        go_wp2_with (first | (go_at_call 13; refine S.mono ?_; rintro e w1 ⟨rfl, b1⟩) | (go_at_call 11; refine (I w1 b1).mono ?_; rintro e w2 ⟨rfl, b2⟩))
        go_ret
        exact ⟨rfl, b1.trans (b2.mono b1.size)⟩
      · go_enter Tryd.func6, Tryd.ntmps6
        go_wp2_with (first | (go_at_call 13; refine S.mono ?_; rintro e w1 ⟨rfl, b1⟩) | (go_at_call 11; refine (I w1 b1).mono ?_; rintro e w2 ⟨rfl, b2⟩))
        go_ret
        exact ⟨rfl, b1.trans (b2.mono b1.size)⟩

set_option maxRecDepth 100000 in
set_option maxHeartbeats 1000000 in
theorem wHashOf (s : ByteArray) (hm : s.size ≤ maxLen) (w : World) (hT : Tabs w) (hC : CrcTab w) :
    Calls Tryd.prog 7 #[.string s] w fun e w' => e = .returned (.bool true) ∧ Below w.heap.size w w' := by
  unfold maxLen at hm
  by_cases hbig : (1048576 : Int) < s.size
  · go_enter Tryd.func7, Tryd.ntmps7
    go_wp2_with fail
    go_ret
    exact ⟨rfl, Below.refl _ _⟩
  · have hs : s.size ≤ 1048576 := by omega
    have S := sHashOf s w hs
    have I := fun w' (hb : Below w.heap.size w w') => iHashOf s w' (hT.below hb) (hC.below hb) hs
    generalize hashN s = r at S I
    clear hT hC
    go_enter Tryd.func7, Tryd.ntmps7
    go_wp2_with (first | (go_at_call 22; refine S.mono ?_; rintro e w1 ⟨rfl, b1⟩) | (go_at_call 14; refine (I w1 b1).mono ?_; rintro e w2 ⟨rfl, b2⟩))
    go_ret
    exact ⟨rfl, b1.trans (b2.mono b1.size)⟩

end Go.Proofs.YtalpeeaaaapijaaDoor
