/- The law of the signs: its walk. -/
import Derived.Test.YtappmenbhddaiaaDoorRows
import Derived.Test.YtappmenbhddaiaaDoorSmI
import Derived.Test.YtappmenbhddaiaaDoorIEnc
import Derived.Test.YtappmenbhddaiaaDoorIDcd
import Derived.Test.YtappmenbhddaiaaDoorWDcd
import Derived.Test.YtappmenbhddaiaaDoorSgR
import Derived.Test.YtappmenbhddaiaaDoorSd1
namespace Go.Proofs.YtappmenbhddaiaaDoor
open Go.RowKit

theorem utabs_below {g3 g4 : Nat} {w w' : World} (h : Lib.Utf8Tabs g3 g4 w) (hb : Below w.heap.size w w') : Lib.Utf8Tabs g3 g4 w' :=
  ⟨fun c hc => (hb.cell (p := ⟨g3, c, none⟩) (World.block_lt_of_cell? w _ (h.1 c hc))).trans (h.1 c hc),
   fun i hi => ⟨(hb.cell (p := ⟨g4, 2 * i, none⟩) (World.block_lt_of_cell? w _ (h.2 i hi).1)).trans (h.2 i hi).1, (hb.cell (p := ⟨g4, 2 * i + 1, none⟩) (World.block_lt_of_cell? w _ (h.2 i hi).2)).trans (h.2 i hi).2⟩⟩

theorem beq_str_ne {u v : ByteArray} (h : u ≠ v) : (u == v) = false := by
  have e : (u == v) = (u.data == v.data) := rfl
  rw [e, beq_eq_false_iff_ne]
  intro hd
  apply h
  cases u; cases v; simp_all

set_option maxRecDepth 100000 in
set_option maxHeartbeats 2000000 in
theorem signs_walk (S : Src) (ok : S.ok) (w : World) (hl : Lies S w) (hT : Lib.Utf8Tabs (Tryd.laysValid_ren.g 3) (Tryd.laysValid_ren.g 4) w) :
    Calls Tryd.prog 3 #[.slice S.a S.len S.cap] w fun e w' => e = .returned (.bool true) ∧ Below w.heap.size w w' := by
  have hlen : S.len ≤ 1048576 := ok.1
  go_enter Tryd.func3, Tryd.ntmps3
  go_wp2_with (first | (go_at_call 4; go_in))
  refine (sdrawEncode_any S ok _ hl).mono ?_
  rintro e w1 ⟨l, v, hl6, rfl, r1, b1⟩
  have HIE := fun w' h => iEncode v l w' (by omega) h
  have HSE := fun w' h => sEncode v l w' (by omega) h
  have HDE := dec_enc l
  have hsz : (⟨(encN l).toArray⟩ : ByteArray).size ≤ 24 := by
    show (encN l).toArray.size ≤ 24
    have := encs_len l
    unfold encN
    split
    · simp; omega
    · simp
  have HEM : (⟨(encN l).toArray⟩ : ByteArray) ≠ ⟨#[]⟩ → encN l ≠ [] := fun h e => h (by rw [e])
  generalize (⟨(encN l).toArray⟩ : ByteArray) = u at HIE HSE HDE hsz HEM
  generalize (encN l ≠ []) = ne at HDE HEM
  have HDU := fun w' (h : Lib.Utf8Tabs (Tryd.laysValid_ren.g 3) (Tryd.laysValid_ren.g 4) w') => iDecode u w' (by omega) h
  go_wp2_with fail
  refine (HIE _ r1.at).mono ?_
  rintro e w2 ⟨rfl, b2⟩
  have D2 : Below w.heap.size w w2 := b1.trans (b2.mono b1.size)
  have r2 := r1.below b2
  by_cases hu : u = ⟨#[]⟩
  · subst hu
    clear HDE HEM
    generalize decN ⟨#[]⟩ = q at HDU
    go_wp2_with fail
    refine (HDU _ (utabs_below hT D2)).mono ?_
    rintro e w3 ⟨x, rfl, rx, b3⟩
    have D3 : Below w.heap.size w w3 := D2.trans (b3.mono D2.size)
    have r3 := r2.below b3
    go_wp2_with fail
    refine (HSE _ r3.at).mono ?_
    rintro e w7 ⟨rfl, b7⟩
    have D7 : Below w.heap.size w w7 := D3.trans (b7.mono D3.size)
    have L8 := hl.below D7
    go_wp2_with fail
    refine (sdrawDecode_any S ok _ L8).mono ?_
    rintro e w8 ⟨t, ht, rfl, b8⟩
    have D8 : Below w.heap.size w w8 := D7.trans (b8.mono D7.size)
    have HI := fun w' (h : Lib.Utf8Tabs (Tryd.laysValid_ren.g 3) (Tryd.laysValid_ren.g 4) w') => iDecode t w' (by omega) h
    have HS := fun w' => sDecode t w' (by omega)
    have HD := enc_dec t
    have HL := decN_len t
    cases hd : decN t with
    | none =>
      rw [hd] at HI HS
      go_wp2_with fail
      refine (HI _ (utabs_below hT D8)).mono ?_
      rintro e w9 ⟨y, rfl, r9, b9⟩
      have D9 : Below w.heap.size w w9 := D8.trans (b9.mono D8.size)
      go_wp2_with fail
      refine (HS _).mono ?_
      rintro e w10 ⟨z, rfl, r10, b10⟩
      go_wp2
      go_ret
      exact ⟨rfl, D9.trans (b10.mono D9.size)⟩
    | some m =>
      rw [hd] at HI HS HL
      have hm := HD m hd
      have hml : m.length ≤ 1048576 := by simp at HL; omega
      go_wp2_with fail
      refine (HI _ (utabs_below hT D8)).mono ?_
      rintro e w9 ⟨y, rfl, r9, b9⟩
      have D9 : Below w.heap.size w w9 := D8.trans (b9.mono D8.size)
      go_wp2_with fail
      refine (HS _).mono ?_
      rintro e w10 ⟨z, rfl, r10, b10⟩
      have D10 : Below w.heap.size w w10 := D9.trans (b10.mono D9.size)
      have HE := iEncode y m w10 hml (r9.below b10).at
      rw [hm] at HE
      go_wp2_with (go_at_call 6; refine HE.mono ?_; rintro e w11 ⟨rfl, b11⟩)
      go_ret
      exact ⟨rfl, D10.trans (b11.mono D10.size)⟩
  · have hdu := HDE (HEM hu)
    rw [hdu] at HDU
    have hu1 : (u == (⟨#[]⟩ : ByteArray)) = false := beq_str_ne hu
    have hu2 : (u != (⟨#[]⟩ : ByteArray)) = true := by unfold bne; rw [hu1]; rfl
    have hu3 : ¬ u.toList = [] := fun e => hu (list_ext (by rw [ByteArray.toList_eq] at e; exact e))
    clear HDE HEM hdu
    go_wp2_with fail
    refine (HDU _ (utabs_below hT D2)).mono ?_
    rintro e w3 ⟨x, rfl, rx, b3⟩
    have D3 : Below w.heap.size w w3 := D2.trans (b3.mono D2.size)
    have r3 := r2.below b3
    go_wp2_with fail
    refine (HSE _ r3.at).mono ?_
    rintro e w6 ⟨rfl, b6⟩
    have D6 : Below w.heap.size w w6 := D3.trans (b6.mono D3.size)
    have S1 := sameInts_any x v l l w6 (by omega) (rx.below b6).at (r3.below b6).at
    rw [decide_eq_true rfl] at S1
    go_wp2_with (go_at_call 9; refine S1.mono ?_; rintro e w7 ⟨rfl, b7⟩)
    have D7 : Below w.heap.size w w7 := D6.trans (b7.mono D6.size)
    have L8 := hl.below D7
    go_wp2_with fail
    refine (sdrawDecode_any S ok _ L8).mono ?_
    rintro e w8 ⟨t, ht, rfl, b8⟩
    have D8 : Below w.heap.size w w8 := D7.trans (b8.mono D7.size)
    have HI := fun w' (h : Lib.Utf8Tabs (Tryd.laysValid_ren.g 3) (Tryd.laysValid_ren.g 4) w') => iDecode t w' (by omega) h
    have HS := fun w' => sDecode t w' (by omega)
    have HD := enc_dec t
    have HL := decN_len t
    cases hd : decN t with
    | none =>
      rw [hd] at HI HS
      go_wp2_with fail
      refine (HI _ (utabs_below hT D8)).mono ?_
      rintro e w9 ⟨y, rfl, r9, b9⟩
      have D9 : Below w.heap.size w w9 := D8.trans (b9.mono D8.size)
      go_wp2_with fail
      refine (HS _).mono ?_
      rintro e w10 ⟨z, rfl, r10, b10⟩
      go_wp2
      go_ret
      exact ⟨rfl, D9.trans (b10.mono D9.size)⟩
    | some m =>
      rw [hd] at HI HS HL
      have hm := HD m hd
      have hml : m.length ≤ 1048576 := by simp at HL; omega
      go_wp2_with fail
      refine (HI _ (utabs_below hT D8)).mono ?_
      rintro e w9 ⟨y, rfl, r9, b9⟩
      have D9 : Below w.heap.size w w9 := D8.trans (b9.mono D8.size)
      go_wp2_with fail
      refine (HS _).mono ?_
      rintro e w10 ⟨z, rfl, r10, b10⟩
      have D10 : Below w.heap.size w w10 := D9.trans (b10.mono D9.size)
      have HE := iEncode y m w10 hml (r9.below b10).at
      rw [hm] at HE
      go_wp2_with (go_at_call 6; refine HE.mono ?_; rintro e w11 ⟨rfl, b11⟩)
      go_ret
      exact ⟨rfl, D10.trans (b11.mono D10.size)⟩

end Go.Proofs.YtappmenbhddaiaaDoor
