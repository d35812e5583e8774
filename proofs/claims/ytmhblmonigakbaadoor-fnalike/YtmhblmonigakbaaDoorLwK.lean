/- The law of names that are one: its walk. -/
import Derived.Test.YtmhblmonigakbaaDoorRows
import Derived.Test.YtmhblmonigakbaaDoorMo
import Derived.Test.YtmhblmonigakbaaDoorMn
namespace Go.Proofs.YtmhblmonigakbaaDoor
open Go.RowKit

set_option maxRecDepth 100000 in
set_option maxHeartbeats 4000000 in
theorem alike_walk (S : Src) (ok : S.ok) (w : World) (hl : Lies S w) (hT : Tabs w) (hC : CrcTab w) :
    Calls Tryd.prog 3 #[.slice S.a S.len S.cap] w fun e w' => e = .returned (.bool true) ∧ Below w.heap.size w w' := by
  have hlen : S.len ≤ 1048576 := ok.1
  go_enter Tryd.func3, Tryd.ntmps3
  go_wp2_with (first | (go_at_call 12; go_in))
  refine (sdrawAlike_any S ok _ hl).mono ?_
  rintro _ w1 ⟨a, b, ha, hb, rfl, b1⟩
  go_wp2_with fail
  refine (fresh_any S ok w1 (hl.below b1)).mono ?_
  rintro _ w2 ⟨S', rfl, ok', hl', b2⟩
  have D2 : Below w.heap.size w w2 := b1.trans (b2.mono b1.size)
  go_wp2_with fail
  refine (sdrawAlike_any S' ok' w2 hl').mono ?_
  rintro _ w3 ⟨a', c, _, hc, rfl, b3⟩
  have D3 : Below w.heap.size w w3 := D2.trans (b3.mono D2.size)
  clear b1 b2 b3 hl hl' ok ok'
  have IA := fun (x y : ByteArray) (hx : x.size ≤ 1048576) (hy : y.size ≤ 1048576) (w' : World) (hb' : Below w.heap.size w w') => iAlike x y w' (hT.below hb') hx hy
  have cAb := IA a b (by omega) (by omega)
  have cBa := IA b a (by omega) (by omega)
  rw [alike_sym a b] at cBa
  have cAa := IA a a (by omega) (by omega)
  rw [alike_self a] at cAa
  have cNa := fun w' => sNameOk a w' (by omega)
  have cSab := fun w' => sAlike a b w' (by omega) (by omega)
  have cBc := IA b c (by omega) (by omega)
  have cAc := IA a c (by omega) (by omega)
  have cHa := fun w' (hb' : Below w.heap.size w w') => iHashOf a w' (hT.below hb') (hC.below hb') (by omega)
  have cHb := fun w' (hb' : Below w.heap.size w w') => iHashOf b w' (hT.below hb') (hC.below hb') (by omega)
  have H3 : alikeB a b = true → alikeB b c = alikeB a c := fun h => alike_next h c
  have H4 : alikeB a b = true → hashN b = hashN a := fun h => alike_hash h
  have H0 : alikeB a b = true → (nameL a).isSome = true := fun h => alike_name h
  have cDec' := fun w' => sDecode a w' (by omega)
  have cDec : ∀ w', Calls Tryd.prog 19 #[.string a] w' fun e w'' => ∃ v, e = .returned (.tuple #[v, .bool (decN a).isSome]) ∧ IntRow w'' w'.heap.size v ((decN a).getD []) ∧ Below w'.heap.size w' w'' := fun w' => cDec' w'
  have hll : ((decN a).getD []).length ≤ 100 := Nat.le_trans (decN_len a) ha
  have hA := fun (h : (nameL a).isSome = true) => alike_apart h
  have hF := fun (h : (nameL a).isSome = true) => alike_fold h
  have hK := fun (h : (nameL a).isSome = true) => alike_key h
  have cKey := fun w' (hb' : Below w.heap.size w w') => iKeyOf a w' (hT.below hb') (by omega)
  rw [keyN_is a] at cKey
  have hks := keyN_size a
  clear cDec'
  generalize (decN a).getD [] = l at *
  generalize (decN a).isSome = od at *
  have h4 := apart_len l
  have h3 := folds_len (apartN l)
  have cAp := fun v w' h => iApart v l w' h (by omega)
  have cEnD := fun v w' h => sEncode v (apartN l) w' (by omega) h
  have cFo := fun v w' h => iFold v (apartN l) w' h (by omega)
  have cEnE := fun v w' h => sEncode v (foldsN (apartN l)) w' (by omega) h
  have hDs := encN_size (apartN l) (by omega)
  have hEs := encN_size (foldsN (apartN l)) (by omega)
  generalize (⟨(encN (apartN l)).toArray⟩ : ByteArray) = D at *
  generalize (⟨(encN (foldsN (apartN l))).toArray⟩ : ByteArray) = E at *
  generalize foldsN (apartN l) = fl at *
  generalize apartN l = al at *
  generalize (keyN a).1 = K at *
  have cNd := fun w' => sNameOk D w' hDs
  have cNe := fun w' => sNameOk E w' hEs
  have cNk := fun w' => sNameOk K w' hks
  have hAD := fun (h : (nameL a).isSome = true) (h2 : (nameL D).isSome = true) w' hb' => (hA h h2) ▸ IA a D (by omega) hDs w' hb'
  have hAE := fun (h : (nameL a).isSome = true) (h2 : (nameL E).isSome = true) w' hb' => (hF h h2) ▸ IA a E (by omega) hEs w' hb'
  have hKA := fun (h : (nameL a).isSome = true) (h2 : (nameL K).isSome = true) w' hb' => (hK h h2) ▸ IA K a hks (by omega) w' hb'
  clear hA hF hK IA h3 h4 hT hC
  generalize alikeB b c = bc at *
  generalize alikeB a c = ac at *
  generalize hashN a = xa at *
  generalize hashN b = xb at *
  generalize alikeB a b = ab at *
  generalize (nameL a).isSome = na at *
  generalize (nameL D).isSome = nd at *
  generalize (nameL E).isSome = ne at *
  generalize (nameL K).isSome = nk at *
  cases ab
  · clear H0 H3 H4 cBc cAc cHa cHb
    cases na
    · clear hAD hAE hKA
      go_wp2_with fail
      refine (cAb w3 D3).mono ?_
      rintro _ w4 ⟨rfl, b4⟩
      have D4 : Below w.heap.size w w4 := D3.trans (b4.mono D3.size)
      go_wp2_with fail
      refine (cBa w4 D4).mono ?_
      rintro _ w5 ⟨rfl, b5⟩
      have D5 : Below w.heap.size w w5 := D4.trans (b5.mono D4.size)
      go_wp2_with fail
      refine (cAa w5 D5).mono ?_
      rintro _ w6 ⟨rfl, b6⟩
      have D6 : Below w.heap.size w w6 := D5.trans (b6.mono D5.size)
      go_wp2_with fail
      refine (cNa w6).mono ?_
      rintro _ w7 ⟨rfl, b7⟩
      have D7 : Below w.heap.size w w7 := D6.trans (b7.mono D6.size)
      go_wp2_with fail
      refine (cSab w7).mono ?_
      rintro _ w8 ⟨rfl, b8⟩
      have D8 : Below w.heap.size w w8 := D7.trans (b8.mono D7.size)
      go_wp2_with fail
      refine (cDec w8).mono ?_
      rintro _ w9 ⟨v1, rfl, r1, b9⟩
      have D9 : Below w.heap.size w w9 := D8.trans (b9.mono D8.size)
      go_wp2_with fail
      refine (cAp v1 w9 r1.at).mono ?_
      rintro _ w10 ⟨v2, rfl, r2, b10⟩
      have D10 : Below w.heap.size w w10 := D9.trans (b10.mono D9.size)
      have r1b := r1.below b10
      go_wp2_with fail
      refine (cEnD v2 w10 r2.at).mono ?_
      rintro _ w11 ⟨rfl, b11⟩
      have D11 : Below w.heap.size w w11 := D10.trans (b11.mono D10.size)
      have r1c := r1b.below b11
      go_wp2_with fail
      refine (cAp v1 w11 r1c.at).mono ?_
      rintro _ w12 ⟨v3, rfl, r3, b12⟩
      have D12 : Below w.heap.size w w12 := D11.trans (b12.mono D11.size)
      go_wp2_with fail
      refine (cFo v3 w12 r3.at).mono ?_
      rintro _ w13 ⟨v4, rfl, r4, b13⟩
      have D13 : Below w.heap.size w w13 := D12.trans (b13.mono D12.size)
      go_wp2_with fail
      refine (cEnE v4 w13 r4.at).mono ?_
      rintro _ w14 ⟨rfl, b14⟩
      have D14 : Below w.heap.size w w14 := D13.trans (b14.mono D13.size)
      clear r1 r2 r3 r4 r1b r1c
      go_wp2_with fail
      refine (cNa w14).mono ?_
      rintro _ w15 ⟨rfl, b15⟩
      have D15 : Below w.heap.size w w15 := D14.trans (b15.mono D14.size)
      go_wp2_with fail
      refine (cNa w15).mono ?_
      rintro _ w16 ⟨rfl, b16⟩
      have D16 : Below w.heap.size w w16 := D15.trans (b16.mono D15.size)
      go_wp2_with fail
      refine (cKey w16 D16).mono ?_
      rintro _ w17 ⟨rfl, b17⟩
      have D17 : Below w.heap.size w w17 := D16.trans (b17.mono D16.size)
      go_wp2_with fail
      refine (cNa w17).mono ?_
      rintro _ w18 ⟨rfl, b18⟩
      have D18 : Below w.heap.size w w18 := D17.trans (b18.mono D17.size)
      go_wp2
      go_ret
      exact ⟨rfl, D18⟩
    · have hAD2 : Hid _ := hAD rfl
      have hAE2 : Hid _ := hAE rfl
      have hKA2 : Hid _ := hKA rfl
      clear hAD hAE hKA
      go_wp2_with fail
      refine (cAb w3 D3).mono ?_
      rintro _ w4 ⟨rfl, b4⟩
      have D4 : Below w.heap.size w w4 := D3.trans (b4.mono D3.size)
      go_wp2_with fail
      refine (cBa w4 D4).mono ?_
      rintro _ w5 ⟨rfl, b5⟩
      have D5 : Below w.heap.size w w5 := D4.trans (b5.mono D4.size)
      go_wp2_with fail
      refine (cAa w5 D5).mono ?_
      rintro _ w6 ⟨rfl, b6⟩
      have D6 : Below w.heap.size w w6 := D5.trans (b6.mono D5.size)
      go_wp2_with fail
      refine (cNa w6).mono ?_
      rintro _ w7 ⟨rfl, b7⟩
      have D7 : Below w.heap.size w w7 := D6.trans (b7.mono D6.size)
      go_wp2_with fail
      refine (cSab w7).mono ?_
      rintro _ w8 ⟨rfl, b8⟩
      have D8 : Below w.heap.size w w8 := D7.trans (b8.mono D7.size)
      go_wp2_with fail
      refine (cDec w8).mono ?_
      rintro _ w9 ⟨v1, rfl, r1, b9⟩
      have D9 : Below w.heap.size w w9 := D8.trans (b9.mono D8.size)
      go_wp2_with fail
      refine (cAp v1 w9 r1.at).mono ?_
      rintro _ w10 ⟨v2, rfl, r2, b10⟩
      have D10 : Below w.heap.size w w10 := D9.trans (b10.mono D9.size)
      have r1b := r1.below b10
      go_wp2_with fail
      refine (cEnD v2 w10 r2.at).mono ?_
      rintro _ w11 ⟨rfl, b11⟩
      have D11 : Below w.heap.size w w11 := D10.trans (b11.mono D10.size)
      have r1c := r1b.below b11
      go_wp2_with fail
      refine (cAp v1 w11 r1c.at).mono ?_
      rintro _ w12 ⟨v3, rfl, r3, b12⟩
      have D12 : Below w.heap.size w w12 := D11.trans (b12.mono D11.size)
      go_wp2_with fail
      refine (cFo v3 w12 r3.at).mono ?_
      rintro _ w13 ⟨v4, rfl, r4, b13⟩
      have D13 : Below w.heap.size w w13 := D12.trans (b13.mono D12.size)
      go_wp2_with fail
      refine (cEnE v4 w13 r4.at).mono ?_
      rintro _ w14 ⟨rfl, b14⟩
      have D14 : Below w.heap.size w w14 := D13.trans (b14.mono D13.size)
      clear r1 r2 r3 r4 r1b r1c
      go_wp2_with fail
      refine (cNa w14).mono ?_
      rintro _ w15 ⟨rfl, b15⟩
      have D15 : Below w.heap.size w w15 := D14.trans (b15.mono D14.size)
      cases nd
      · clear hAD2
        go_wp2_with fail
        refine (cNd w15).mono ?_
        rintro _ w16 ⟨rfl, b16⟩
        have D16 : Below w.heap.size w w16 := D15.trans (b16.mono D15.size)
        go_wp2_with fail
        refine (cNa w16).mono ?_
        rintro _ w17 ⟨rfl, b17⟩
        have D17 : Below w.heap.size w w17 := D16.trans (b17.mono D16.size)
        cases ne
        · clear hAE2
          go_wp2_with fail
          refine (cNe w17).mono ?_
          rintro _ w18 ⟨rfl, b18⟩
          have D18 : Below w.heap.size w w18 := D17.trans (b18.mono D17.size)
          go_wp2_with fail
          refine (cKey w18 D18).mono ?_
          rintro _ w19 ⟨rfl, b19⟩
          have D19 : Below w.heap.size w w19 := D18.trans (b19.mono D18.size)
          go_wp2_with fail
          refine (cNa w19).mono ?_
          rintro _ w20 ⟨rfl, b20⟩
          have D20 : Below w.heap.size w w20 := D19.trans (b20.mono D19.size)
          cases nk
          · clear hKA2
            go_wp2_with fail
            refine (cNk w20).mono ?_
            rintro _ w21 ⟨rfl, b21⟩
            have D21 : Below w.heap.size w w21 := D20.trans (b21.mono D20.size)
            go_wp2
            go_ret
            exact ⟨rfl, D21⟩
          · have cKa := hKA2.out rfl
            go_wp2_with fail
            refine (cNk w20).mono ?_
            rintro _ w21 ⟨rfl, b21⟩
            have D21 : Below w.heap.size w w21 := D20.trans (b21.mono D20.size)
            go_wp2_with fail
            refine (cKa w21 D21).mono ?_
            rintro _ w22 ⟨rfl, b22⟩
            have D22 : Below w.heap.size w w22 := D21.trans (b22.mono D21.size)
            go_wp2
            go_ret
            exact ⟨rfl, D22⟩
        · have cAe := hAE2.out rfl
          go_wp2_with fail
          refine (cNe w17).mono ?_
          rintro _ w18 ⟨rfl, b18⟩
          have D18 : Below w.heap.size w w18 := D17.trans (b18.mono D17.size)
          go_wp2_with fail
          refine (cAe w18 D18).mono ?_
          rintro _ w19 ⟨rfl, b19⟩
          have D19 : Below w.heap.size w w19 := D18.trans (b19.mono D18.size)
          go_wp2_with fail
          refine (cKey w19 D19).mono ?_
          rintro _ w20 ⟨rfl, b20⟩
          have D20 : Below w.heap.size w w20 := D19.trans (b20.mono D19.size)
          go_wp2_with fail
          refine (cNa w20).mono ?_
          rintro _ w21 ⟨rfl, b21⟩
          have D21 : Below w.heap.size w w21 := D20.trans (b21.mono D20.size)
          cases nk
          · clear hKA2
            go_wp2_with fail
            refine (cNk w21).mono ?_
            rintro _ w22 ⟨rfl, b22⟩
            have D22 : Below w.heap.size w w22 := D21.trans (b22.mono D21.size)
            go_wp2
            go_ret
            exact ⟨rfl, D22⟩
          · have cKa := hKA2.out rfl
            go_wp2_with fail
            refine (cNk w21).mono ?_
            rintro _ w22 ⟨rfl, b22⟩
            have D22 : Below w.heap.size w w22 := D21.trans (b22.mono D21.size)
            go_wp2_with fail
            refine (cKa w22 D22).mono ?_
            rintro _ w23 ⟨rfl, b23⟩
            have D23 : Below w.heap.size w w23 := D22.trans (b23.mono D22.size)
            go_wp2
            go_ret
            exact ⟨rfl, D23⟩
      · have cAd := hAD2.out rfl
        go_wp2_with fail
        refine (cNd w15).mono ?_
        rintro _ w16 ⟨rfl, b16⟩
        have D16 : Below w.heap.size w w16 := D15.trans (b16.mono D15.size)
        go_wp2_with fail
        refine (cAd w16 D16).mono ?_
        rintro _ w17 ⟨rfl, b17⟩
        have D17 : Below w.heap.size w w17 := D16.trans (b17.mono D16.size)
        go_wp2_with fail
        refine (cNa w17).mono ?_
        rintro _ w18 ⟨rfl, b18⟩
        have D18 : Below w.heap.size w w18 := D17.trans (b18.mono D17.size)
        cases ne
        · clear hAE2
          go_wp2_with fail
          refine (cNe w18).mono ?_
          rintro _ w19 ⟨rfl, b19⟩
          have D19 : Below w.heap.size w w19 := D18.trans (b19.mono D18.size)
          go_wp2_with fail
          refine (cKey w19 D19).mono ?_
          rintro _ w20 ⟨rfl, b20⟩
          have D20 : Below w.heap.size w w20 := D19.trans (b20.mono D19.size)
          go_wp2_with fail
          refine (cNa w20).mono ?_
          rintro _ w21 ⟨rfl, b21⟩
          have D21 : Below w.heap.size w w21 := D20.trans (b21.mono D20.size)
          cases nk
          · clear hKA2
            go_wp2_with fail
            refine (cNk w21).mono ?_
            rintro _ w22 ⟨rfl, b22⟩
            have D22 : Below w.heap.size w w22 := D21.trans (b22.mono D21.size)
            go_wp2
            go_ret
            exact ⟨rfl, D22⟩
          · have cKa := hKA2.out rfl
            go_wp2_with fail
            refine (cNk w21).mono ?_
            rintro _ w22 ⟨rfl, b22⟩
            have D22 : Below w.heap.size w w22 := D21.trans (b22.mono D21.size)
            go_wp2_with fail
            refine (cKa w22 D22).mono ?_
            rintro _ w23 ⟨rfl, b23⟩
            have D23 : Below w.heap.size w w23 := D22.trans (b23.mono D22.size)
            go_wp2
            go_ret
            exact ⟨rfl, D23⟩
        · have cAe := hAE2.out rfl
          go_wp2_with fail
          refine (cNe w18).mono ?_
          rintro _ w19 ⟨rfl, b19⟩
          have D19 : Below w.heap.size w w19 := D18.trans (b19.mono D18.size)
          go_wp2_with fail
          refine (cAe w19 D19).mono ?_
          rintro _ w20 ⟨rfl, b20⟩
          have D20 : Below w.heap.size w w20 := D19.trans (b20.mono D19.size)
          go_wp2_with fail
          refine (cKey w20 D20).mono ?_
          rintro _ w21 ⟨rfl, b21⟩
          have D21 : Below w.heap.size w w21 := D20.trans (b21.mono D20.size)
          go_wp2_with fail
          refine (cNa w21).mono ?_
          rintro _ w22 ⟨rfl, b22⟩
          have D22 : Below w.heap.size w w22 := D21.trans (b22.mono D21.size)
          cases nk
          · clear hKA2
            go_wp2_with fail
            refine (cNk w22).mono ?_
            rintro _ w23 ⟨rfl, b23⟩
            have D23 : Below w.heap.size w w23 := D22.trans (b23.mono D22.size)
            go_wp2
            go_ret
            exact ⟨rfl, D23⟩
          · have cKa := hKA2.out rfl
            go_wp2_with fail
            refine (cNk w22).mono ?_
            rintro _ w23 ⟨rfl, b23⟩
            have D23 : Below w.heap.size w w23 := D22.trans (b23.mono D22.size)
            go_wp2_with fail
            refine (cKa w23 D23).mono ?_
            rintro _ w24 ⟨rfl, b24⟩
            have D24 : Below w.heap.size w w24 := D23.trans (b24.mono D23.size)
            go_wp2
            go_ret
            exact ⟨rfl, D24⟩
  · obtain rfl := H0 rfl
    obtain rfl := H3 rfl
    obtain rfl := H4 rfl
    have hAD2 : Hid _ := hAD rfl
    have hAE2 : Hid _ := hAE rfl
    have hKA2 : Hid _ := hKA rfl
    clear hAD hAE hKA
    clear H0 H3 H4
    go_wp2_with fail
    refine (cAb w3 D3).mono ?_
    rintro _ w4 ⟨rfl, b4⟩
    have D4 : Below w.heap.size w w4 := D3.trans (b4.mono D3.size)
    go_wp2_with fail
    refine (cBa w4 D4).mono ?_
    rintro _ w5 ⟨rfl, b5⟩
    have D5 : Below w.heap.size w w5 := D4.trans (b5.mono D4.size)
    go_wp2_with fail
    refine (cAa w5 D5).mono ?_
    rintro _ w6 ⟨rfl, b6⟩
    have D6 : Below w.heap.size w w6 := D5.trans (b6.mono D5.size)
    go_wp2_with fail
    refine (cNa w6).mono ?_
    rintro _ w7 ⟨rfl, b7⟩
    have D7 : Below w.heap.size w w7 := D6.trans (b7.mono D6.size)
    go_wp2_with fail
    refine (cSab w7).mono ?_
    rintro _ w8 ⟨rfl, b8⟩
    have D8 : Below w.heap.size w w8 := D7.trans (b8.mono D7.size)
    cases bc
    · skip
      go_wp2_with fail
      refine (cBc w8 D8).mono ?_
      rintro _ w9 ⟨rfl, b9⟩
      have D9 : Below w.heap.size w w9 := D8.trans (b9.mono D8.size)
      go_wp2_with fail
      refine (cAc w9 D9).mono ?_
      rintro _ w10 ⟨rfl, b10⟩
      have D10 : Below w.heap.size w w10 := D9.trans (b10.mono D9.size)
      go_wp2_with fail
      refine (cHa w10 D10).mono ?_
      rintro _ w11 ⟨rfl, b11⟩
      have D11 : Below w.heap.size w w11 := D10.trans (b11.mono D10.size)
      go_wp2_with fail
      refine (cHb w11 D11).mono ?_
      rintro _ w12 ⟨rfl, b12⟩
      have D12 : Below w.heap.size w w12 := D11.trans (b12.mono D11.size)
      go_wp2_with fail
      refine (cDec w12).mono ?_
      rintro _ w13 ⟨v1, rfl, r1, b13⟩
      have D13 : Below w.heap.size w w13 := D12.trans (b13.mono D12.size)
      go_wp2_with fail
      refine (cAp v1 w13 r1.at).mono ?_
      rintro _ w14 ⟨v2, rfl, r2, b14⟩
      have D14 : Below w.heap.size w w14 := D13.trans (b14.mono D13.size)
      have r1b := r1.below b14
      go_wp2_with fail
      refine (cEnD v2 w14 r2.at).mono ?_
      rintro _ w15 ⟨rfl, b15⟩
      have D15 : Below w.heap.size w w15 := D14.trans (b15.mono D14.size)
      have r1c := r1b.below b15
      go_wp2_with fail
      refine (cAp v1 w15 r1c.at).mono ?_
      rintro _ w16 ⟨v3, rfl, r3, b16⟩
      have D16 : Below w.heap.size w w16 := D15.trans (b16.mono D15.size)
      go_wp2_with fail
      refine (cFo v3 w16 r3.at).mono ?_
      rintro _ w17 ⟨v4, rfl, r4, b17⟩
      have D17 : Below w.heap.size w w17 := D16.trans (b17.mono D16.size)
      go_wp2_with fail
      refine (cEnE v4 w17 r4.at).mono ?_
      rintro _ w18 ⟨rfl, b18⟩
      have D18 : Below w.heap.size w w18 := D17.trans (b18.mono D17.size)
      clear r1 r2 r3 r4 r1b r1c
      go_wp2_with fail
      refine (cNa w18).mono ?_
      rintro _ w19 ⟨rfl, b19⟩
      have D19 : Below w.heap.size w w19 := D18.trans (b19.mono D18.size)
      cases nd
      · clear hAD2
        go_wp2_with fail
        refine (cNd w19).mono ?_
        rintro _ w20 ⟨rfl, b20⟩
        have D20 : Below w.heap.size w w20 := D19.trans (b20.mono D19.size)
        go_wp2_with fail
        refine (cNa w20).mono ?_
        rintro _ w21 ⟨rfl, b21⟩
        have D21 : Below w.heap.size w w21 := D20.trans (b21.mono D20.size)
        cases ne
        · clear hAE2
          go_wp2_with fail
          refine (cNe w21).mono ?_
          rintro _ w22 ⟨rfl, b22⟩
          have D22 : Below w.heap.size w w22 := D21.trans (b22.mono D21.size)
          go_wp2_with fail
          refine (cKey w22 D22).mono ?_
          rintro _ w23 ⟨rfl, b23⟩
          have D23 : Below w.heap.size w w23 := D22.trans (b23.mono D22.size)
          go_wp2_with fail
          refine (cNa w23).mono ?_
          rintro _ w24 ⟨rfl, b24⟩
          have D24 : Below w.heap.size w w24 := D23.trans (b24.mono D23.size)
          cases nk
          · clear hKA2
            go_wp2_with fail
            refine (cNk w24).mono ?_
            rintro _ w25 ⟨rfl, b25⟩
            have D25 : Below w.heap.size w w25 := D24.trans (b25.mono D24.size)
            go_wp2
            go_ret
            exact ⟨rfl, D25⟩
          · have cKa := hKA2.out rfl
            go_wp2_with fail
            refine (cNk w24).mono ?_
            rintro _ w25 ⟨rfl, b25⟩
            have D25 : Below w.heap.size w w25 := D24.trans (b25.mono D24.size)
            go_wp2_with fail
            refine (cKa w25 D25).mono ?_
            rintro _ w26 ⟨rfl, b26⟩
            have D26 : Below w.heap.size w w26 := D25.trans (b26.mono D25.size)
            go_wp2
            go_ret
            exact ⟨rfl, D26⟩
        · have cAe := hAE2.out rfl
          go_wp2_with fail
          refine (cNe w21).mono ?_
          rintro _ w22 ⟨rfl, b22⟩
          have D22 : Below w.heap.size w w22 := D21.trans (b22.mono D21.size)
          go_wp2_with fail
          refine (cAe w22 D22).mono ?_
          rintro _ w23 ⟨rfl, b23⟩
          have D23 : Below w.heap.size w w23 := D22.trans (b23.mono D22.size)
          go_wp2_with fail
          refine (cKey w23 D23).mono ?_
          rintro _ w24 ⟨rfl, b24⟩
          have D24 : Below w.heap.size w w24 := D23.trans (b24.mono D23.size)
          go_wp2_with fail
          refine (cNa w24).mono ?_
          rintro _ w25 ⟨rfl, b25⟩
          have D25 : Below w.heap.size w w25 := D24.trans (b25.mono D24.size)
          cases nk
          · clear hKA2
            go_wp2_with fail
            refine (cNk w25).mono ?_
            rintro _ w26 ⟨rfl, b26⟩
            have D26 : Below w.heap.size w w26 := D25.trans (b26.mono D25.size)
            go_wp2
            go_ret
            exact ⟨rfl, D26⟩
          · have cKa := hKA2.out rfl
            go_wp2_with fail
            refine (cNk w25).mono ?_
            rintro _ w26 ⟨rfl, b26⟩
            have D26 : Below w.heap.size w w26 := D25.trans (b26.mono D25.size)
            go_wp2_with fail
            refine (cKa w26 D26).mono ?_
            rintro _ w27 ⟨rfl, b27⟩
            have D27 : Below w.heap.size w w27 := D26.trans (b27.mono D26.size)
            go_wp2
            go_ret
            exact ⟨rfl, D27⟩
      · have cAd := hAD2.out rfl
        go_wp2_with fail
        refine (cNd w19).mono ?_
        rintro _ w20 ⟨rfl, b20⟩
        have D20 : Below w.heap.size w w20 := D19.trans (b20.mono D19.size)
        go_wp2_with fail
        refine (cAd w20 D20).mono ?_
        rintro _ w21 ⟨rfl, b21⟩
        have D21 : Below w.heap.size w w21 := D20.trans (b21.mono D20.size)
        go_wp2_with fail
        refine (cNa w21).mono ?_
        rintro _ w22 ⟨rfl, b22⟩
        have D22 : Below w.heap.size w w22 := D21.trans (b22.mono D21.size)
        cases ne
        · clear hAE2
          go_wp2_with fail
          refine (cNe w22).mono ?_
          rintro _ w23 ⟨rfl, b23⟩
          have D23 : Below w.heap.size w w23 := D22.trans (b23.mono D22.size)
          go_wp2_with fail
          refine (cKey w23 D23).mono ?_
          rintro _ w24 ⟨rfl, b24⟩
          have D24 : Below w.heap.size w w24 := D23.trans (b24.mono D23.size)
          go_wp2_with fail
          refine (cNa w24).mono ?_
          rintro _ w25 ⟨rfl, b25⟩
          have D25 : Below w.heap.size w w25 := D24.trans (b25.mono D24.size)
          cases nk
          · clear hKA2
            go_wp2_with fail
            refine (cNk w25).mono ?_
            rintro _ w26 ⟨rfl, b26⟩
            have D26 : Below w.heap.size w w26 := D25.trans (b26.mono D25.size)
            go_wp2
            go_ret
            exact ⟨rfl, D26⟩
          · have cKa := hKA2.out rfl
            go_wp2_with fail
            refine (cNk w25).mono ?_
            rintro _ w26 ⟨rfl, b26⟩
            have D26 : Below w.heap.size w w26 := D25.trans (b26.mono D25.size)
            go_wp2_with fail
            refine (cKa w26 D26).mono ?_
            rintro _ w27 ⟨rfl, b27⟩
            have D27 : Below w.heap.size w w27 := D26.trans (b27.mono D26.size)
            go_wp2
            go_ret
            exact ⟨rfl, D27⟩
        · have cAe := hAE2.out rfl
          go_wp2_with fail
          refine (cNe w22).mono ?_
          rintro _ w23 ⟨rfl, b23⟩
          have D23 : Below w.heap.size w w23 := D22.trans (b23.mono D22.size)
          go_wp2_with fail
          refine (cAe w23 D23).mono ?_
          rintro _ w24 ⟨rfl, b24⟩
          have D24 : Below w.heap.size w w24 := D23.trans (b24.mono D23.size)
          go_wp2_with fail
          refine (cKey w24 D24).mono ?_
          rintro _ w25 ⟨rfl, b25⟩
          have D25 : Below w.heap.size w w25 := D24.trans (b25.mono D24.size)
          go_wp2_with fail
          refine (cNa w25).mono ?_
          rintro _ w26 ⟨rfl, b26⟩
          have D26 : Below w.heap.size w w26 := D25.trans (b26.mono D25.size)
          cases nk
          · clear hKA2
            go_wp2_with fail
            refine (cNk w26).mono ?_
            rintro _ w27 ⟨rfl, b27⟩
            have D27 : Below w.heap.size w w27 := D26.trans (b27.mono D26.size)
            go_wp2
            go_ret
            exact ⟨rfl, D27⟩
          · have cKa := hKA2.out rfl
            go_wp2_with fail
            refine (cNk w26).mono ?_
            rintro _ w27 ⟨rfl, b27⟩
            have D27 : Below w.heap.size w w27 := D26.trans (b27.mono D26.size)
            go_wp2_with fail
            refine (cKa w27 D27).mono ?_
            rintro _ w28 ⟨rfl, b28⟩
            have D28 : Below w.heap.size w w28 := D27.trans (b28.mono D27.size)
            go_wp2
            go_ret
            exact ⟨rfl, D28⟩
    · skip
      go_wp2_with fail
      refine (cBc w8 D8).mono ?_
      rintro _ w9 ⟨rfl, b9⟩
      have D9 : Below w.heap.size w w9 := D8.trans (b9.mono D8.size)
      go_wp2_with fail
      refine (cAc w9 D9).mono ?_
      rintro _ w10 ⟨rfl, b10⟩
      have D10 : Below w.heap.size w w10 := D9.trans (b10.mono D9.size)
      go_wp2_with fail
      refine (cHa w10 D10).mono ?_
      rintro _ w11 ⟨rfl, b11⟩
      have D11 : Below w.heap.size w w11 := D10.trans (b11.mono D10.size)
      go_wp2_with fail
      refine (cHb w11 D11).mono ?_
      rintro _ w12 ⟨rfl, b12⟩
      have D12 : Below w.heap.size w w12 := D11.trans (b12.mono D11.size)
      go_wp2_with fail
      refine (cDec w12).mono ?_
      rintro _ w13 ⟨v1, rfl, r1, b13⟩
      have D13 : Below w.heap.size w w13 := D12.trans (b13.mono D12.size)
      go_wp2_with fail
      refine (cAp v1 w13 r1.at).mono ?_
      rintro _ w14 ⟨v2, rfl, r2, b14⟩
      have D14 : Below w.heap.size w w14 := D13.trans (b14.mono D13.size)
      have r1b := r1.below b14
      go_wp2_with fail
      refine (cEnD v2 w14 r2.at).mono ?_
      rintro _ w15 ⟨rfl, b15⟩
      have D15 : Below w.heap.size w w15 := D14.trans (b15.mono D14.size)
      have r1c := r1b.below b15
      go_wp2_with fail
      refine (cAp v1 w15 r1c.at).mono ?_
      rintro _ w16 ⟨v3, rfl, r3, b16⟩
      have D16 : Below w.heap.size w w16 := D15.trans (b16.mono D15.size)
      go_wp2_with fail
      refine (cFo v3 w16 r3.at).mono ?_
      rintro _ w17 ⟨v4, rfl, r4, b17⟩
      have D17 : Below w.heap.size w w17 := D16.trans (b17.mono D16.size)
      go_wp2_with fail
      refine (cEnE v4 w17 r4.at).mono ?_
      rintro _ w18 ⟨rfl, b18⟩
      have D18 : Below w.heap.size w w18 := D17.trans (b18.mono D17.size)
      clear r1 r2 r3 r4 r1b r1c
      go_wp2_with fail
      refine (cNa w18).mono ?_
      rintro _ w19 ⟨rfl, b19⟩
      have D19 : Below w.heap.size w w19 := D18.trans (b19.mono D18.size)
      cases nd
      · clear hAD2
        go_wp2_with fail
        refine (cNd w19).mono ?_
        rintro _ w20 ⟨rfl, b20⟩
        have D20 : Below w.heap.size w w20 := D19.trans (b20.mono D19.size)
        go_wp2_with fail
        refine (cNa w20).mono ?_
        rintro _ w21 ⟨rfl, b21⟩
        have D21 : Below w.heap.size w w21 := D20.trans (b21.mono D20.size)
        cases ne
        · clear hAE2
          go_wp2_with fail
          refine (cNe w21).mono ?_
          rintro _ w22 ⟨rfl, b22⟩
          have D22 : Below w.heap.size w w22 := D21.trans (b22.mono D21.size)
          go_wp2_with fail
          refine (cKey w22 D22).mono ?_
          rintro _ w23 ⟨rfl, b23⟩
          have D23 : Below w.heap.size w w23 := D22.trans (b23.mono D22.size)
          go_wp2_with fail
          refine (cNa w23).mono ?_
          rintro _ w24 ⟨rfl, b24⟩
          have D24 : Below w.heap.size w w24 := D23.trans (b24.mono D23.size)
          cases nk
          · clear hKA2
            go_wp2_with fail
            refine (cNk w24).mono ?_
            rintro _ w25 ⟨rfl, b25⟩
            have D25 : Below w.heap.size w w25 := D24.trans (b25.mono D24.size)
            go_wp2
            go_ret
            exact ⟨rfl, D25⟩
          · have cKa := hKA2.out rfl
            go_wp2_with fail
            refine (cNk w24).mono ?_
            rintro _ w25 ⟨rfl, b25⟩
            have D25 : Below w.heap.size w w25 := D24.trans (b25.mono D24.size)
            go_wp2_with fail
            refine (cKa w25 D25).mono ?_
            rintro _ w26 ⟨rfl, b26⟩
            have D26 : Below w.heap.size w w26 := D25.trans (b26.mono D25.size)
            go_wp2
            go_ret
            exact ⟨rfl, D26⟩
        · have cAe := hAE2.out rfl
          go_wp2_with fail
          refine (cNe w21).mono ?_
          rintro _ w22 ⟨rfl, b22⟩
          have D22 : Below w.heap.size w w22 := D21.trans (b22.mono D21.size)
          go_wp2_with fail
          refine (cAe w22 D22).mono ?_
          rintro _ w23 ⟨rfl, b23⟩
          have D23 : Below w.heap.size w w23 := D22.trans (b23.mono D22.size)
          go_wp2_with fail
          refine (cKey w23 D23).mono ?_
          rintro _ w24 ⟨rfl, b24⟩
          have D24 : Below w.heap.size w w24 := D23.trans (b24.mono D23.size)
          go_wp2_with fail
          refine (cNa w24).mono ?_
          rintro _ w25 ⟨rfl, b25⟩
          have D25 : Below w.heap.size w w25 := D24.trans (b25.mono D24.size)
          cases nk
          · clear hKA2
            go_wp2_with fail
            refine (cNk w25).mono ?_
            rintro _ w26 ⟨rfl, b26⟩
            have D26 : Below w.heap.size w w26 := D25.trans (b26.mono D25.size)
            go_wp2
            go_ret
            exact ⟨rfl, D26⟩
          · have cKa := hKA2.out rfl
            go_wp2_with fail
            refine (cNk w25).mono ?_
            rintro _ w26 ⟨rfl, b26⟩
            have D26 : Below w.heap.size w w26 := D25.trans (b26.mono D25.size)
            go_wp2_with fail
            refine (cKa w26 D26).mono ?_
            rintro _ w27 ⟨rfl, b27⟩
            have D27 : Below w.heap.size w w27 := D26.trans (b27.mono D26.size)
            go_wp2
            go_ret
            exact ⟨rfl, D27⟩
      · have cAd := hAD2.out rfl
        go_wp2_with fail
        refine (cNd w19).mono ?_
        rintro _ w20 ⟨rfl, b20⟩
        have D20 : Below w.heap.size w w20 := D19.trans (b20.mono D19.size)
        go_wp2_with fail
        refine (cAd w20 D20).mono ?_
        rintro _ w21 ⟨rfl, b21⟩
        have D21 : Below w.heap.size w w21 := D20.trans (b21.mono D20.size)
        go_wp2_with fail
        refine (cNa w21).mono ?_
        rintro _ w22 ⟨rfl, b22⟩
        have D22 : Below w.heap.size w w22 := D21.trans (b22.mono D21.size)
        cases ne
        · clear hAE2
          go_wp2_with fail
          refine (cNe w22).mono ?_
          rintro _ w23 ⟨rfl, b23⟩
          have D23 : Below w.heap.size w w23 := D22.trans (b23.mono D22.size)
          go_wp2_with fail
          refine (cKey w23 D23).mono ?_
          rintro _ w24 ⟨rfl, b24⟩
          have D24 : Below w.heap.size w w24 := D23.trans (b24.mono D23.size)
          go_wp2_with fail
          refine (cNa w24).mono ?_
          rintro _ w25 ⟨rfl, b25⟩
          have D25 : Below w.heap.size w w25 := D24.trans (b25.mono D24.size)
          cases nk
          · clear hKA2
            go_wp2_with fail
            refine (cNk w25).mono ?_
            rintro _ w26 ⟨rfl, b26⟩
            have D26 : Below w.heap.size w w26 := D25.trans (b26.mono D25.size)
            go_wp2
            go_ret
            exact ⟨rfl, D26⟩
          · have cKa := hKA2.out rfl
            go_wp2_with fail
            refine (cNk w25).mono ?_
            rintro _ w26 ⟨rfl, b26⟩
            have D26 : Below w.heap.size w w26 := D25.trans (b26.mono D25.size)
            go_wp2_with fail
            refine (cKa w26 D26).mono ?_
            rintro _ w27 ⟨rfl, b27⟩
            have D27 : Below w.heap.size w w27 := D26.trans (b27.mono D26.size)
            go_wp2
            go_ret
            exact ⟨rfl, D27⟩
        · have cAe := hAE2.out rfl
          go_wp2_with fail
          refine (cNe w22).mono ?_
          rintro _ w23 ⟨rfl, b23⟩
          have D23 : Below w.heap.size w w23 := D22.trans (b23.mono D22.size)
          go_wp2_with fail
          refine (cAe w23 D23).mono ?_
          rintro _ w24 ⟨rfl, b24⟩
          have D24 : Below w.heap.size w w24 := D23.trans (b24.mono D23.size)
          go_wp2_with fail
          refine (cKey w24 D24).mono ?_
          rintro _ w25 ⟨rfl, b25⟩
          have D25 : Below w.heap.size w w25 := D24.trans (b25.mono D24.size)
          go_wp2_with fail
          refine (cNa w25).mono ?_
          rintro _ w26 ⟨rfl, b26⟩
          have D26 : Below w.heap.size w w26 := D25.trans (b26.mono D25.size)
          cases nk
          · clear hKA2
            go_wp2_with fail
            refine (cNk w26).mono ?_
            rintro _ w27 ⟨rfl, b27⟩
            have D27 : Below w.heap.size w w27 := D26.trans (b27.mono D26.size)
            go_wp2
            go_ret
            exact ⟨rfl, D27⟩
          · have cKa := hKA2.out rfl
            go_wp2_with fail
            refine (cNk w26).mono ?_
            rintro _ w27 ⟨rfl, b27⟩
            have D27 : Below w.heap.size w w27 := D26.trans (b27.mono D26.size)
            go_wp2_with fail
            refine (cKa w27 D27).mono ?_
            rintro _ w28 ⟨rfl, b28⟩
            have D28 : Below w.heap.size w w28 := D27.trans (b28.mono D27.size)
            go_wp2
            go_ret
            exact ⟨rfl, D28⟩

end Go.Proofs.YtmhblmonigakbaaDoor
