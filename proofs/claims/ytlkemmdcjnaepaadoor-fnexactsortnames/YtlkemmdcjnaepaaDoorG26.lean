/- Signs in rows: a row more, and spec.Units. Signs in rows: spec.Units. Names in order: spec.l14Units and spec.Starts. -/
import Derived.Test.YtlkemmdcjnaepaaDoorRows
import Derived.Test.YtlkemmdcjnaepaaDoorG19
import Derived.Test.YtlkemmdcjnaepaaDoorG20
import Derived.Test.YtlkemmdcjnaepaaDoorG09
import Derived.Test.YtlkemmdcjnaepaaDoorG25
import Derived.Test.YtlkemmdcjnaepaaDoorG04
import Derived.Deep.Cut
import Derived.Deep.CutRange
import Derived.Deep.RegionWith
namespace Go.Proofs.YtlkemmdcjnaepaaDoor

section
open Go.RowKit

/-- a slice of whole numbers with room for its length -/
def IntsC (w : World) (v : Value) (l : List Int) : Prop := IntsAt w v l ∧ ∃ a cap, v = .slice a l.length cap ∧ l.length ≤ cap
theorem IntsC.below {w w' : World} {v : Value} {l : List Int} (h : IntsC w v l) (b : Below w.heap.size w w') : IntsC w' v l := ⟨h.1.below b, h.2⟩
theorem IntRow.c {w : World} {base : Nat} {v : Value} {l : List Int} (h : IntRow w base v l) : IntsC w v l := by
  refine ⟨h.at, ?_⟩
  rcases h.2 with ⟨rfl, h0⟩ | ⟨g, cap, cur, rfl, hg, hh, hnc, -⟩
  · exact ⟨none, 0, by rw [h0], by omega⟩
  · exact ⟨_, cap, rfl, hnc⟩
theorem elemIn : Tryd.prog.underlying 39 = some (.slice (Tryd.prog.elem 39)) := by kernel_rfl
theorem sizeIn (w : World) : (sizeOf (Tryd.prog.elem 39)).run Tryd.prog w = .ok 1 w := by kernel_rfl
theorem slice_int (a : Option Addr) (len cap f i : Nat) (w : World) (h1 : f ≤ i) (h2 : i ≤ cap) : (Instr.slice 39 (.slice a len cap) (some (.int .i64 (f : Int))) (some (.int .i64 (i : Int))) none).run Tryd.prog w = .ok (sliced a f i cap 1) w := by
  rw [run_slice_lh w 39 a len cap elemIn .i64 .i64 (f : Int) (i : Int) (by omega) (by omega) (by omega), sizeIn]
  simp [Result.andThen]
theorem IntsAt.cut {w : World} {a : Option Addr} {n cap : Nat} {l : List Int} (h : IntsAt w (.slice a n cap) l) (hn : n = l.length) (f i : Nat) (hf : f ≤ i) (hi : i ≤ l.length) (hc : i ≤ cap) : IntsAt w (sliced a f i cap 1) ((l.take i).drop f) := by
  obtain ⟨a', cap', e, hx⟩ := h
  cases e
  have hl : ((l.take i).drop f).length = i - f := by rw [List.length_drop, List.length_take]; omega
  refine ⟨_, _, by rw [hl]; rfl, fun t ht => ?_⟩
  rw [hl] at ht
  obtain ⟨b, off, rfl, hb, hcc⟩ := hx (f + t) (by omega)
  refine ⟨b, off + f, by rw [if_neg (by omega)]; simp [Addr.add], hb, ?_⟩
  rw [Nat.add_assoc, hcc]
  congr 2
  simp [List.getD, show f + t < i by omega]
theorem Tryd.infoIn1 : (Tryd.prog.info? 39).map (fun i => (i.zero, i.size, i.bytes)) = some (some (.slice none 0 0), 1, 24) := by kernel_rfl
theorem cell_one_row (w : World) (u : Value) : ∀ j y, [u][j]? = some y → (w.alloc (.cells #[u] 39)).cell? ((⟨w.heap.size, 0, none⟩ : Addr).add j) = some y := by
  intro j y h
  match j, h with
  | 0, h => simp at h; subst h; rw [Addr.add_lit, World.cell?_alloc_mark]; rfl
  | j + 1, h => simp at h
theorem vD_old {us : List Value} {u : Value} {t : Nat} (h : t < us.length) : vD (us ++ [u]) t = vD us t := by simp [vD, List.getD, List.getElem?_append_left h]
theorem vD_new {us : List Value} {u : Value} : vD (us ++ [u]) us.length = u := by simp [vD, List.getD]
theorem lD_old {ls : List (List Int)} {l : List Int} {t : Nat} (h : t < ls.length) : lD (ls ++ [l]) t = lD ls t := by simp [lD, List.getD, List.getElem?_append_left h]
theorem lD_new {ls : List (List Int)} {l : List Int} : lD (ls ++ [l]) ls.length = l := by simp [lD, List.getD]
/-- a row more, onto rows that are the call's own -/
theorem append_row (w : World) {ops : Array Oper} {rest : List Oper} {o : Oper} {a : Act} {Q : Exit → Act → World → Prop} (hgd : o.guard = none) (s x : Operand)
    (ho : o.op = .call { callee := .builtin .append, args := #[s, x], argTypes := #[56, 56] }) (base : Nat)
    (v u : Value) (us : List Value) (ls : List (List Int)) (l : List Int) (hl : ls.length + 1 ≤ 1099511627776) (hown : RwsRow w base v us ls) (hu : IntRow w base u l)
    (hne : ∀ t, t < ls.length → (vD us t).ownBlock = none ∨ (vD us t).ownBlock ≠ u.ownBlock) (hs : a.eval s = v) (hx : a.eval x = .slice (some ⟨w.heap.size, 0, none⟩) 1 1)
    (hbase : base ≤ w.heap.size)
    (h : ∀ v' w', RwsRow w' base v' (us ++ [u]) (ls ++ [l]) → Below base w w' → wpList Tryd.prog ops Q rest (a.put o.dst v') w') :
    wpList Tryd.prog ops Q (o :: rest) a (w.alloc (.cells #[u] 39)) := by
  obtain ⟨i0, hi, hz0, hz1, hz2⟩ := info_parts Tryd.infoIn1
  have hul := hown.ulen
  refine wpList_append_own _ hgd s x 56 ho base 39 i0 (.slice none 0 0) 1 24 Tryd.underlying56 hi hz0 hz1 hz2 rfl (by decide) v ls.length us hs (World.ownsRow.alloc hown.out _) ⟨w.heap.size, 0, none⟩ 1 1 [u] hx rfl (cell_one_row _ _) ?_ (by unfold maxLen; omega) (by omega) (by simp; omega) ?_
  · intro y hy
    obtain ⟨p, c, rfl, -⟩ := hu.at
    simp at hy; subst hy; rfl
  · intro v' w' hown' hgrow _
    have kin : ∀ {y : Value} {m : List Int}, IntRow w base y m → IntRow w' base y m := fun hy => World.ownsRow.kept (World.ownsRow.alloc hy _) hgrow (own_ne hy hown.out (by decide))
    refine h v' w' ⟨by rw [List.length_append]; exact hown', fun t ht => ?_, fun p t hp ht hpt => ?_⟩ ?_
    · rw [List.length_append, List.length_singleton] at ht
      by_cases e : t < ls.length
      · rw [vD_old (by omega), lD_old e]; exact kin (hown.inn t e)
      · obtain rfl : t = ls.length := by omega
        rw [lD_new, ← hul, vD_new]; exact kin hu
    · rw [List.length_append, List.length_singleton] at hp ht
      by_cases e1 : p < ls.length
      · by_cases e2 : t < ls.length
        · rw [vD_old (by omega), vD_old (by omega)]; exact hown.ap p t e1 e2 hpt
        · obtain rfl : t = us.length := by omega
          rw [vD_old (by omega), vD_new]; exact hne p e1
      · obtain rfl : p = us.length := by omega
        have e2 : t < ls.length := by omega
        rw [vD_new, vD_old (t := t) (by omega)]
        rcases hne t e2 with h1 | h1
        · cases hq : u.ownBlock with
          | none => exact .inl rfl
          | some q => right; rw [h1]; simp
        · right; exact fun e => h1 e.symm
    · refine ((Below.refl base w).alloc hbase _).grown hgrow (by simp; omega) fun k hk => (World.ownsRow.lt hown.out k hk).1
theorem fresh_row {w0 w : World} {base lo : Nat} {v u : Value} {us : List Value} {ls : List (List Int)} {l : List Int} (h : RwsRow w0 base v us ls) (hu : IntRow w lo u l) (hs : w0.heap.size ≤ lo) : ∀ t, t < ls.length → (vD us t).ownBlock = none ∨ (vD us t).ownBlock ≠ u.ownBlock := by
  intro t ht
  cases e : (vD us t).ownBlock with
  | none => exact .inl rfl
  | some k =>
    right
    intro e2
    have h1 := (World.ownsRow.lt (h.inn t ht) k e).2
    have h2 := (World.ownsRow.lt hu k e2.symm).1
    omega

/-- what stands while signs are put into rows: the rows up to f, the open one from f to i -/
structure UnI (l : List Int) (n f i : Nat) (us : List (List Int)) : Prop where
  right : UnR (l.take f) us
  at' : (i ≤ n ∧ f < i) ∨ (i = n + 1 ∧ f = n)
  mid : ∀ t, f < t → t < i → t < n → clsN (l.getD t 0) ≠ 0
  beg : us ≠ [] → f < n → clsN (l.getD f 0) = 0
theorem UnI.start (l : List Int) : UnI l l.length 0 1 [] := ⟨UnR.nil, by omega, fun t h1 h2 _ => by omega, fun h => absurd rfl h⟩
theorem UnI.go {l : List Int} {f i : Nat} {us : List (List Int)} (h : UnI l l.length f i us) (hi : i < l.length) (hc : clsN (l.getD i 0) ≠ 0) : UnI l l.length f (i + 1) us :=
  ⟨h.right, by have := h.at'; omega, fun t h1 h2 h3 => by
    by_cases e : t = i
    · subst e; exact hc
    · exact h.mid t h1 (by omega) h3, h.beg⟩
theorem UnI.shut {l : List Int} {f i : Nat} {us : List (List Int)} (h : UnI l l.length f i us) (hi : i ≤ l.length) (hc : i = l.length ∨ clsN (l.getD i 0) = 0) : UnI l l.length i (i + 1) (us ++ [(l.take i).drop f]) := by
  have hf : f < i := by have := h.at'; omega
  have hm : (l.take i).drop f = l.getD f 0 :: (l.take i).drop (f + 1) := by
    rw [List.drop_eq_getElem_cons (by rw [List.length_take]; omega)]
    congr 1
    simp [List.getD, show f < l.length by omega]
  refine ⟨?_, by omega, fun t h1 h2 _ => by omega, fun _ h1 => hc.resolve_left (by omega)⟩
  have key := h.right.more (l.getD f 0) ((l.take i).drop (f + 1)) hm (fun x hx => ?_) (fun hne => h.beg hne (by omega))
  · have e : l.take f ++ (l.take i).drop f = l.take i := by
      have := List.take_append_drop f (l.take i)
      rwa [List.take_take, Nat.min_eq_left (by omega)] at this
    rwa [e] at key
  · obtain ⟨q, hq, rfl⟩ := List.getElem_of_mem hx
    rw [List.length_drop, List.length_take] at hq
    have := h.mid (f + 1 + q) (by omega) (by omega) (by omega)
    simpa [List.getD, show f + 1 + q < l.length by omega] using this
theorem UnI.done {l : List Int} {f i : Nat} {us : List (List Int)} (h : UnI l l.length f i us) (hi : ¬ i ≤ l.length) : us = unitsN l := by
  have hf : f = l.length := by have := h.at'; omega
  have := h.right
  rw [hf, List.take_length] at this
  exact units_uniq us l this
theorem UnI.len {l : List Int} {f i : Nat} {us : List (List Int)} (h : UnI l l.length f i us) : us.length ≤ l.length := by
  have h1 := units_uniq us _ h.right
  have h2 := units_len (l.take f)
  rw [← h1, List.length_take] at h2
  omega
end

section
open Go.RowKit

set_option maxRecDepth 100000 in
set_option maxHeartbeats 2000000 in
theorem sUnits (v : Value) (l : List Int) (w : World) (hl : l.length ≤ 1048576) (hv : IntsC w v l) :
    Calls Tryd.prog 69 #[v] w fun e w' => ∃ u us, e = .returned u ∧ RwsRow w' w.heap.size u us (unitsN l) ∧ Below w.heap.size w w' := by
  obtain ⟨hva, a, cap, rfl, hcap⟩ := hv
  have HGO : Hid (∀ f i us, UnI l l.length f i us → i < l.length → clsN (l.getD i 0) ≠ 0 → UnI l l.length f (i + 1) us) := fun f i us h => h.go
  have HSH : Hid (∀ f i us, UnI l l.length f i us → i ≤ l.length → (i = l.length ∨ clsN (l.getD i 0) = 0) → UnI l l.length i (i + 1) (us ++ [(l.take i).drop f])) := fun f i us h => h.shut
  have HDN : Hid (∀ f i us, UnI l l.length f i us → ¬ i ≤ l.length → us = unitsN l) := fun f i us h => h.done
  have HLN : Hid (∀ f i us, UnI l l.length f i us → us.length ≤ l.length) := fun f i us h => h.len
  have HAT : Hid (∀ f i us, UnI l l.length f i us → i ≤ l.length → f < i) := fun f i us h hi => by have := h.at'; omega
  have HCT : Hid (∀ W f i, Below w.heap.size w W → f ≤ i → i ≤ l.length → IntsAt W (sliced a f i cap 1) ((l.take i).drop f)) := fun W f i h h1 h2 => (hva.below h).cut rfl f i h1 h2 (by omega)
  have HCL : Hid (∀ f i, f < i → i ≤ l.length → (l.take i).drop f ≠ [] ∧ ((l.take i).drop f).length ≤ l.length) := fun f i h1 h2 => by
    have e : ((l.take i).drop f).length = i - f := by rw [List.length_drop, List.length_take]; omega
    exact ⟨fun h => by rw [h] at e; simp at e; omega, by omega⟩
  have HST := UnI.start l
  obtain ⟨a2, c2, e0, hcs⟩ := id hva
  cases e0
  generalize unitsN l = r at HDN ⊢
  obtain ⟨n, HN⟩ : ∃ n, Hid (n = l.length) := ⟨_, rfl⟩
  rw [← HN.out] at hcs hl hcap HGO HSH HDN HLN HAT HCT HCL HST ⊢
  clear hva
  have hE : RwsRow (w.alloc (.cells #[] 39)) w.heap.size (.slice (some ⟨w.heap.size, 0, none⟩) 0 0) [] [] := ⟨World.ownsRow_lit w #[] 0 (Nat.le_refl _) (by decide) rfl, fun t ht => by simp at ht, fun s t hs => by simp at hs⟩
  go_enter Tryd.func69, Tryd.ntmps69
  go_wp2
  go_loopw [3, 4, 5] (fun ov fv iv wr => ∃ (f i : Nat) (us : List Value) (ls : List (List Int)), (1 ≤ i ∧ i ≤ n + 1) ∧ iv = .int .i64 i ∧ fv = .int .i64 f ∧ RwsRow wr w.heap.size ov us ls ∧ UnI l n f i ls ∧ Below w.heap.size w wr) (fun _ _ iv _ => n + 1 - (intOf iv).toNat)
  case atStart => exact ⟨0, 1, [], [], ⟨by omega, by omega⟩, rfl, rfl, hE, HST, below_lit _ _⟩
  case round =>
    obtain ⟨f, i, us, ls, ⟨hi1, hi2⟩, rfl, rfl, hrow, HU, hbel⟩ := hrel
    clear hE HST
    by_cases hle : i ≤ n
    · have hfi := HAT.out f i ls HU hle
      obtain ⟨hne, hml⟩ := HCL.out f i hfi hle
      have hsl := fun w' => slice_int a n cap f i w' (by omega) (by omega)
      have HCU := fun W h => HCT.out W f i h (by omega) hle
      have hlln := HLN.out f i ls HU
      have HS1 := HSH.out f i ls HU hle
      have HG1 := HGO.out f i ls HU
      generalize (l.take i).drop f = m at hne hml HCU HS1
      generalize sliced a f i cap 1 = U at hsl HCU
      have hwi : IntKind.i64.wrap ((i : Int) + 1) = (i : Int) + 1 := by rw [IntKind.wrap_i64]; omega
      clear HCT HCL HSH HGO HAT HLN
      by_cases hin : i = n
      · subst hin
        have HSX := HS1 (.inl rfl)
        have hbX := hbel
        have rowX := hrow
        clear HS1 HG1 hcs
        go_wp2_with (first | (at_builtin; (refine append_row w8 rfl (.tmp 25) (.tmp 32) rfl w.heap.size _ _ us ls m (by omega) rw8 (row8.mono hbX.size) nw8 rfl rfl (Nat.le_trans hbX.size b8'.size) ?_; intro v9 w9 row9 b9)) | (at_builtin; (refine append_ints _ rfl (.tmp 26) (.tmp 30) rfl wr.heap.size _ _ [] m hne (by simp; omega) (lit_at wr #[] [] 0 rfl rfl (by decide)) (HCU _ (hbX.trans ((below_lit wr _).mono hbX.size))) rfl rfl (below_lit wr _).size ?_; intro v8 w8 row8 b8; rw [List.nil_append] at row8; have b8' := (below_lit wr (.cells #[] 3)).trans (b8.mono (Nat.le_refl _)); have rw8 := rowX.below b8'; have nw8 := fresh_row rowX row8 (Nat.le_refl _); obtain ⟨p8, c8, rfl, -⟩ := row8.at)))
        go_roundw
        case rel => exact ⟨i, i + 1, _, _, ⟨by omega, by omega⟩, by go_num, rfl, row9, HSX, (hbX.trans (b8'.mono hbX.size)).trans b9⟩
        case measure => simp [intOf]
      · have hilt : i < n := by omega
        have hne' : ¬ (i : Int) = (n : Int) := by omega
        obtain ⟨b1, o1, rfl, hb1, hc1⟩ := hcs i hilt
        have hc1' := (hbel.cell (p := ⟨b1, o1 + i, none⟩) hb1).trans hc1
        have HC := sClass (l.getD i 0) wr
        have HG2 := HG1 hilt
        have HS2 : clsN (l.getD i 0) = 0 → _ := fun h => HS1 (.inr h)
        generalize clsN (l.getD i 0) = kc at HC HG2 HS2
        generalize l.getD i 0 = d at hc1' HC
        clear hc1 hcs HS1 HG1
        go_wp2_with fail
        refine HC.mono ?_
        rintro e w2 ⟨rfl, b2⟩
        have rowX := hrow.below b2
        have hbX := hbel.trans (b2.mono hbel.size)
        clear hrow b2 hbel HC
        by_cases hk : kc = 0
        · have HSX := HS2 hk
          have hkb : (kc == 0) = true := by simp [hk]
          clear HG2 HS2
          go_wp2_with (first | (at_builtin; (refine append_row w8 rfl (.tmp 25) (.tmp 32) rfl w.heap.size _ _ us ls m (by omega) rw8 (row8.mono hbX.size) nw8 rfl rfl (Nat.le_trans hbX.size b8'.size) ?_; intro v9 w9 row9 b9)) | (at_builtin; (refine append_ints _ rfl (.tmp 26) (.tmp 30) rfl w2.heap.size _ _ [] m hne (by simp; omega) (lit_at w2 #[] [] 0 rfl rfl (by decide)) (HCU _ (hbX.trans ((below_lit w2 _).mono hbX.size))) rfl rfl (below_lit w2 _).size ?_; intro v8 w8 row8 b8; rw [List.nil_append] at row8; have b8' := (below_lit w2 (.cells #[] 3)).trans (b8.mono (Nat.le_refl _)); have rw8 := rowX.below b8'; have nw8 := fresh_row rowX row8 (Nat.le_refl _); obtain ⟨p8, c8, rfl, -⟩ := row8.at)))
          go_roundw
          case rel => exact ⟨i, i + 1, _, _, ⟨by omega, by omega⟩, by go_num, rfl, row9, HSX, (hbX.trans (b8'.mono hbX.size)).trans b9⟩
          case measure => simp [intOf]; omega
        · have HGX := HG2 hk
          have hkb : (kc == 0) = false := by simp [hk]
          clear HG2 HS2
          go_wp2
          go_roundw
          case rel => exact ⟨f, i + 1, _, _, ⟨by omega, by omega⟩, by go_num, rfl, rowX, HGX, hbX⟩
          case measure => simp [intOf]; omega
    · obtain rfl : i = n + 1 := by omega
      have hr := HDN.out f _ ls HU (by omega)
      subst hr
      go_wp2
      go_ret
      exact ⟨_, _, rfl, hrow, hbel⟩
end

section
open Go.RowKit

theorem RwsRow.mono {w : World} {base base' : Nat} {v : Value} {us : List Value} {ls : List (List Int)} (h : RwsRow w base v us ls) (hb : base' ≤ base) : RwsRow w base' v us ls :=
  ⟨World.ownsRow.mono h.out hb, fun t ht => World.ownsRow.mono (h.inn t ht) hb, h.ap⟩
set_option maxRecDepth 100000 in
theorem l14Units_any (s : ByteArray) (w : World) (hs : s.size ≤ 1048576) :
    Calls Tryd.prog 48 #[.string s] w fun e w' => ∃ u us, e = .returned u ∧ RwsRow w' w.heap.size u us (un14 s) ∧ Below w.heap.size w w' := by
  have K1 := l14Key_any s w hs
  have hks := key14_size s hs
  have K2 : ∀ W, Calls Tryd.prog 41 #[.string (key14 s)] W fun e w'' => ∃ v, e = .returned (.tuple #[v, .bool (decN (key14 s)).isSome]) ∧ IntRow w'' W.heap.size v ((decN (key14 s)).getD []) ∧ Below W.heap.size W w'' := fun W => sDecode (key14 s) W hks
  have hl : ((decN (key14 s)).getD []).length ≤ 1048576 := Nat.le_trans (decN_len _) hks
  have HU : Hid (un14 s = unitsN ((decN (key14 s)).getD [])) := rfl
  generalize un14 s = r at HU ⊢
  generalize (decN (key14 s)).isSome = q at K2
  generalize (decN (key14 s)).getD [] = l at K2 hl HU
  generalize key14 s = k at K1 K2
  go_enter Tryd.func48, Tryd.ntmps48
  go_wp2_with fail
  refine K1.mono ?_
  rintro e w1 ⟨rfl, b1⟩
  go_wp2_with fail
  refine (K2 w1).mono ?_
  rintro e w2 ⟨v, rfl, row, b2⟩
  have B2 := b1.trans (b2.mono b1.size)
  go_wp2_with fail
  refine (sUnits v l w2 hl row.c).mono ?_
  rintro e w3 ⟨u, us, rfl, row3, b3⟩
  go_wp2
  go_ret
  exact ⟨_, us, rfl, by rw [HU.out]; exact row3.mono B2.size, B2.trans (b3.mono B2.size)⟩

theorem pre_short {p n : List (List Int)} (h : n.length < p.length) : p.isPrefixOf n = false := by
  cases e : p.isPrefixOf n with
  | false => rfl
  | true => have := (List.isPrefixOf_iff_prefix.1 e).length_le; omega
theorem pre_no {p n : List (List Int)} {t : Nat} (ht : t < p.length) (hl : p.length ≤ n.length) (h : lD n t ≠ lD p t) : p.isPrefixOf n = false := by
  cases e : p.isPrefixOf n with
  | false => rfl
  | true =>
    obtain ⟨r, rfl⟩ := List.isPrefixOf_iff_prefix.1 e
    exact absurd (by simp [lD, List.getD, List.getElem?_append_left ht]) h
theorem pre_yes {p n : List (List Int)} (hl : p.length ≤ n.length) (h : ∀ t, t < p.length → lD n t = lD p t) : p.isPrefixOf n = true := by
  refine List.isPrefixOf_iff_prefix.2 ⟨n.drop p.length, ?_⟩
  have e : n.take p.length = p := by
    refine ls_ext _ _ (by rw [List.length_take]; omega) fun t ht => ?_
    rw [List.length_take] at ht
    have := h t (by omega)
    rw [← this]
    simp [lD, List.getD, show t < p.length by omega]
  have := List.take_append_drop p.length n
  rwa [e] at this
theorem un14_row (s : ByteArray) (hs : s.size ≤ 1048576) : (un14 s).length ≤ 1048576 ∧ ∀ t, t < (un14 s).length → (lD (un14 s) t).length ≤ 1048576 := by
  have hl : ((decN (key14 s)).getD []).length ≤ 1048576 := Nat.le_trans (decN_len _) (key14_size s hs)
  refine ⟨Nat.le_trans (units_len _) hl, fun t ht => ?_⟩
  have h1 := tot_take (un14 s) t ht
  have h2 := tot_take_le (un14 s) (t + 1)
  have h3 : tot (un14 s) = ((decN (key14 s)).getD []).length := by rw [tot_flat]; exact congrArg _ (units_right _).all
  omega

set_option maxRecDepth 100000 in
set_option maxHeartbeats 2000000 in
theorem sStarts (a b : ByteArray) (w : World) (ha : a.size ≤ 1048576) (hb : b.size ≤ 1048576) :
    Calls Tryd.prog 26 #[.string a, .string b] w fun e w' => e = .returned (.bool (startsN a b)) ∧ Below w.heap.size w w' := by
  have N1 := sNameOk a w ha
  have N2 := fun W => sNameOk b W hb
  have U1 := fun W => l14Units_any a W ha
  have U2 := fun W => l14Units_any b W hb
  obtain ⟨lA, lA2⟩ := un14_row a ha
  obtain ⟨lB, lB2⟩ := un14_row b hb
  have HE : Hid (startsN a b = ((nameL a).isSome && ((nameL b).isSome && (un14 b).isPrefixOf (un14 a)))) := rfl
  generalize startsN a b = r at HE ⊢
  generalize (nameL a).isSome = qa at N1 HE
  generalize (nameL b).isSome = qb at N2 HE
  generalize un14 a = A at U1 HE lA lA2
  generalize un14 b = B at U2 HE lB lB2
  go_enter Tryd.func26, Tryd.ntmps26
  cases qa
  · obtain rfl : r = false := HE.out
    go_wp2_with fail
    refine N1.mono ?_
    rintro e w1 ⟨rfl, b1⟩
    go_wp2
    go_ret
    exact ⟨rfl, b1⟩
  go_wp2_with fail
  refine N1.mono ?_
  rintro e w1 ⟨rfl, b1⟩
  cases qb
  · obtain rfl : r = false := HE.out
    go_wp2_with fail
    refine (N2 w1).mono ?_
    rintro e w2 ⟨rfl, b2⟩
    go_wp2
    go_ret
    exact ⟨rfl, b1.trans (b2.mono b1.size)⟩
  have HE2 : Hid (r = B.isPrefixOf A) := HE.out
  clear HE
  go_wp2_with fail
  refine (N2 w1).mono ?_
  rintro e w2 ⟨rfl, b2⟩
  have B2 := b1.trans (b2.mono b1.size)
  go_wp2_with fail
  refine (U1 w2).mono ?_
  rintro e w3 ⟨ua, usa, rfl, ra, b3⟩
  have B3 := B2.trans (b3.mono B2.size)
  go_wp2_with fail
  refine (U2 w3).mono ?_
  rintro e w4 ⟨ub, usb, rfl, rb, b4⟩
  have B4 := B3.trans (b4.mono B3.size)
  obtain ⟨vs, va, ca, rfl, hva⟩ := (ra.below b4).at
  obtain ⟨us, vb, cb, rfl, hvb⟩ := rb.at
  clear N1 N2 U1 U2 b1 b2 b3 b4 ra rb B2 B3
  by_cases hlen : (A.length : Int) < (B.length : Int)
  · obtain rfl : r = false := by rw [HE2.out]; exact pre_short (by omega)
    go_wp2
    go_ret
    exact ⟨rfl, B4⟩
  have HYE : Hid ((∀ t, t < B.length → lD A t = lD B t) → r = true) := fun h => by rw [HE2.out]; exact pre_yes (by omega) h
  have HNO : Hid (∀ t, t < B.length → lD A t ≠ lD B t → r = false) := fun t ht h => by rw [HE2.out]; exact pre_no ht (by omega) h
  obtain ⟨n, HN⟩ : ∃ n, Hid (n = B.length) := ⟨_, rfl⟩
  obtain ⟨m, HM⟩ : ∃ m, Hid (m = A.length) := ⟨_, rfl⟩
  rw [← HN.out] at hvb HYE HNO lB lB2 hlen ⊢
  rw [← HM.out] at hva lA lA2 hlen ⊢
  clear HE2
  have hmb : decide (m < n) = false := decide_eq_false (by omega)
  go_wp2
  go_loopw [7] (fun i wr => ∃ k : Nat, k ≤ n ∧ i = .int .i64 k ∧ Hid (∀ t, t < k → lD A t = lD B t) ∧ Below w4.heap.size w4 wr) (fun i _ => n - (intOf i).toNat)
  case atStart => exact ⟨0, Nat.zero_le _, rfl, fun t ht => by omega, Below.refl _ _⟩
  case round =>
    obtain ⟨k, hk, rfl, HEQ, hbel⟩ := hrel
    by_cases hlt : k < n
    · obtain ⟨⟨b1, o1, rfl, hb1, hc1⟩, hi1⟩ := hva k (by omega)
      obtain ⟨⟨b2, o2, rfl, hb2, hc2⟩, hi2⟩ := hvb k hlt
      have hc1' := (hbel.cell (p := ⟨b1, o1 + k, none⟩) hb1).trans hc1
      have hc2' := (hbel.cell (p := ⟨b2, o2 + k, none⟩) hb2).trans hc2
      have hcall := fun W (h : Below w4.heap.size w4 W) => same14_any (vD vs k) (vD us k) (lD A k) (lD B k) W (Nat.le_trans (lA2 k (by omega)) (by decide)) (hi1.below h) (hi2.below h)
      have hkn : (k : Int) < (n : Int) := by omega
      have hkm : (k : Int) < (m : Int) := by omega
      have hk0 : (0 : Int) ≤ (k : Int) := by omega
      have HK : Hid (decide (lD A k = lD B k) = true → ∀ t, t < k + 1 → lD A t = lD B t) := fun h t ht => by
        by_cases e : t = k
        · subst e; exact of_decide_eq_true h
        · exact HEQ.out t (by omega)
      have HF : Hid (decide (lD A k = lD B k) = false → r = false) := fun h => HNO.out k hlt (of_decide_eq_false h)
      generalize decide (lD A k = lD B k) = q at hcall HK HF
      obtain ⟨s1, hs1⟩ : ∃ s1, s1 = vD vs k := ⟨_, rfl⟩
      obtain ⟨s2, hs2⟩ : ∃ s2, s2 = vD us k := ⟨_, rfl⟩
      rw [← hs1] at hc1' hcall
      rw [← hs2] at hc2' hcall
      obtain ⟨p1, z1, rfl⟩ : ∃ p1 z1, s1 = .slice p1 (lD A k).length z1 := by obtain ⟨x, y, h, -⟩ := hi1; exact ⟨x, y, hs1.trans h⟩
      obtain ⟨p2, z2, rfl⟩ : ∃ p2 z2, s2 = .slice p2 (lD B k).length z2 := by obtain ⟨x, y, h, -⟩ := hi2; exact ⟨x, y, hs2.trans h⟩
      clear hc1 hc2 hi1 hi2 hva hvb HYE HNO HEQ hs1 hs2 lA2 lB2
      go_upto_region 10 with fail
      go_cut [40] from 25 to 40 (fun bv wx => bv = .bool (!q) ∧ Below wr.heap.size wr wx)
      case first =>
        go_region_with (go_at_call 51; refine (hcall wr.drew ⟨hbel.os, hbel.tape, hbel.output, hbel.size, hbel.block⟩).mono ?_; rintro e w5 ⟨rfl, b5⟩)
        all_goals (try go_wp2_with fail)
        all_goals (try go_simp)
        all_goals go_meet
        all_goals exact ⟨rfl, ⟨b5.os, b5.tape, b5.output, b5.size, b5.block⟩⟩
      case rest =>
        obtain ⟨rfl, hbx⟩ := hcut
        have hbel2 := hbel.trans (hbx.mono hbel.size)
        clear hc1' hc2' hcall
        cases q
        · obtain rfl := HF.out rfl
          go_wp2
          go_ret
          exact ⟨rfl, B4.trans (hbel2.mono B4.size)⟩
        · have hE := HK.out rfl
          go_wp2
          go_roundw
          case rel => exact ⟨k + 1, by omega, by go_num, hE, hbel2⟩
          case measure => simp [intOf]; omega
    · obtain rfl : k = n := by omega
      obtain rfl := HYE.out HEQ.out
      go_wp2
      go_ret
      exact ⟨rfl, B4.trans (hbel.mono B4.size)⟩
end

end Go.Proofs.YtlkemmdcjnaepaaDoor
