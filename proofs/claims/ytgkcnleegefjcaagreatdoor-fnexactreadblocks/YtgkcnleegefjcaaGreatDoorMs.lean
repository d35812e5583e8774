/- Directories: spec.l5Drop, Drop: what they answer. Directories: spec.l5Respell, Drop, Respell: what they answer. Directories: spec.Drop, Respell: what they answer. Directories: spec.l5Add: what it answers. Directories: spec.l5Add: the walk. Directories: spec.l5Add: the walk where an entry is added. Directories: spec.Add: what it answers. -/
import Derived.Test.YtgkcnleegefjcaaGreatDoorRows
import Derived.Test.YtgkcnleegefjcaaGreatDoorMr
import Derived.Test.YtgkcnleegefjcaaGreatDoorMq
namespace Go.Proofs.YtgkcnleegefjcaaGreatDoor

section
open Go.RowKit

theorem ents_take {w : World} {g o n cap' : Nat} {d : List En} (hva : ∀ t, t < n → CellsE w g (o + t * 4) d[t]!) (hg : g < w.heap.size) (hn : n = d.length) (i : Nat) (hi : i ≤ n) : EntsAt w (.slice (some ⟨g, o, none⟩) i cap') (d.take i) := by
  refine ⟨_, _, by rw [List.length_take]; congr; omega, fun h => (by cases h), fun t ht => ⟨g, o, rfl, hg, ?_⟩⟩
  rw [List.length_take] at ht
  have e : (d.take i)[t]! = d[t]! := by
    rw [getElem!_pos _ t (by rw [List.length_take]; exact ht), getElem!_pos d t (by omega), List.getElem_take]
  rw [e]; exact hva t (by omega)
theorem ents_drop {w : World} {g o n cap : Nat} {d : List En} (hva : ∀ t, t < n → CellsE w g (o + t * 4) d[t]!) (hg : g < w.heap.size) (hn : n = d.length) (i m : Nat) (hi : i ≤ n) (hm : m = n - i) (o' : Nat) (ho : m = 0 ∨ o' = o + i * 4) : EntsAt w (.slice (some ⟨g, o', none⟩) m cap) (d.drop i) := by
  refine ⟨_, _, by rw [List.length_drop, hm, hn], fun h => (by cases h), fun t ht => ⟨g, o', rfl, hg, ?_⟩⟩
  rw [List.length_drop] at ht
  have e : (d.drop i)[t]! = d[i + t]! := by
    rw [getElem!_pos _ t (by rw [List.length_drop]; exact ht), getElem!_pos d (i + t) (by omega), List.getElem_drop]
  rcases ho with h0 | rfl
  · omega
  · rw [e, show o + i * 4 + t * 4 = o + (i + t) * 4 by omega]; exact hva (i + t) (by omega)

def dropL (d : List En) (s : ByteArray) : List En := match atN d s with | some i => d.eraseIdx i | none => d
theorem dropN_eq {d : List En} (hr : dirB d = true) (s : ByteArray) : dropN d s = (dropL d s, (atN d s).isSome) := by
  unfold dropN dropL; rw [if_pos hr]; cases atN d s <;> rfl

set_option maxRecDepth 100000 in
set_option maxHeartbeats 1000000 in
theorem l5Drop_any (v : Value) (d : List En) (s : ByteArray) (base : Nat) (w : World) (hv : EntRow w base v d) (hd : Shorts d) (hs : s.size ≤ 1048576) (hl : d.length ≤ 1048576) (hbase : base ≤ w.heap.size) :
    Calls Tryz.prog 149 #[v, .string s] w fun e w' => ∃ u, e = .returned (.tuple #[u, .bool (atN d s).isSome]) ∧ EntRow w' base u (dropL d s) ∧ Below base w w' := by
  have HA := l5At_any v d s w hv.at hd hs hl
  cases ha : atN d s with
  | none =>
    have HR : Hid (dropL d s = d) := by show _ = _; unfold dropL; rw [ha]
    rw [atZ_none ha] at HA
    obtain ⟨a, ca, rfl, -, -⟩ := hv.at
    go_enter Tryz.func149, Tryz.ntmps149
    go_wp2_with (go_at_call 145; refine HA.mono ?_; rintro e w2 ⟨rfl, b2⟩)
    go_ret2
    exact ⟨_, rfl, by rw [HR.out]; exact hv.below b2, b2.mono hbase⟩
  | some i =>
    have HR : Hid (dropL d s = d.take i ++ d.drop (i + 1)) := by show _ = _; unfold dropL; rw [ha]; exact List.eraseIdx_eq_take_drop_succ d i
    rw [atZ_some ha] at HA
    obtain ⟨hi, -⟩ := atN_is ha
    have hat := hv.at
    rcases hv.2 with ⟨rfl, h0⟩ | ⟨g, cap, cur, rfl, hg, hh, hnc, hcp, hcs, htake⟩
    · omega
    · obtain ⟨_, _, e0, -, hva⟩ := hat
      cases e0
      have hva' : ∀ t, t < d.length → CellsE w g (0 + t * 4) d[t]! := fun t ht => by
        obtain ⟨b, o, e, _, h⟩ := hva t ht
        cases e; exact h
      have hgl := lt_of_block hh
      have HT : Hid (∀ w', Below w.heap.size w w' → ∀ c, EntsAt w' (.slice (some ⟨g, 0, none⟩) i c) (d.take i)) := fun w' hb c => ents_take (fun t ht => (hva' t ht).below hgl hb) (Nat.lt_of_lt_of_le hgl hb.size) rfl i (by omega)
      have HDR : Hid (∀ w', Below w.heap.size w w' → ∀ o' m c, m = d.length - (i + 1) → (m = 0 ∨ o' = 0 + (i + 1) * 4) → EntsAt w' (.slice (some ⟨g, o', none⟩) m c) (d.drop (i + 1))) := fun w' hb o' m c hm ho => ents_drop (fun t ht => (hva' t ht).below hgl hb) (Nat.lt_of_lt_of_le hgl hb.size) rfl (i + 1) m (by omega) hm o' ho
      have hll : (d.take i).length + (d.drop (i + 1)).length ≤ 1048576 := by simp; omega
      clear hva hva' hcs htake
      generalize dropL d s = r at HR ⊢
      obtain ⟨n, HN⟩ : ∃ n, Hid (n = d.length) := ⟨_, rfl⟩
      rw [← HN.out] at hi hnc HDR HA hl ⊢
      generalize d.take i = p at HT HR hll
      generalize d.drop (i + 1) = q at HDR HR hll
      have hi0 : ¬ ((i : Int) < 0) := by omega
      have hi1 : (0 : Int) ≤ (i : Int) := by omega
      have hin : (i : Int) ≤ (cap : Int) := by omega
      clear hv hh
      by_cases hf : cap = i + 1
      · obtain rfl : n = i + 1 := by omega
        subst hf
        have hzw : IntKind.i64.wrap ((i : Int) + 1) = (i : Int) + 1 := by rw [IntKind.wrap_i64]; omega
        go_enter Tryz.func149, Tryz.ntmps149
        go_wp2_with (first | (go_at_call 145; refine HA.mono ?_; rintro e w2 ⟨rfl, b2⟩; have bl := below_lit w2 (.cells #[] 118); have b3 := b2.trans (bl.mono b2.size); have row3 := lit_ents w2) | (at_builtin; refine append_ents _ rfl (.tmp 14) (.tmp 17) rfl w2.heap.size _ _ [] p (by simp; omega) row3 (HT.out _ b3 _) rfl rfl bl.size ?_; intro v4 w4 row4 b4; rw [List.nil_append] at row4; have b5 := b3.trans (b4.mono b2.size); have hs4 := Nat.le_trans bl.size b4.size; have HE := HDR.out _ b5 0 0 0 (by omega) (.inl rfl)) | (at_builtin; refine append_ents _ rfl (.tmp 19) (.tmp 23) rfl w2.heap.size _ _ p q (by omega) row4 HE rfl rfl hs4 ?_; intro v6 w6 row6 b6))
        go_ret2
        exact ⟨_, rfl, by rw [HR.out]; exact row6.mono (Nat.le_trans hbase b2.size), (b5.mono hbase).trans (b6.mono (Nat.le_trans hbase b2.size))⟩
      · have hj1 : (i : Int) + 1 ≤ (n : Int) := by omega
        have hj2 : (i : Int) + 1 ≤ (cap : Int) := by omega
        have hzw : IntKind.i64.wrap ((i : Int) + 1) = (i : Int) + 1 := by rw [IntKind.wrap_i64]; omega
        have hf1 : ¬ (cap - (i + 1) = 0) := by omega
        have hf2 : (cap - (i + 1) == 0) = false := by rw [beq_eq_false_iff_ne]; exact hf1
        go_enter Tryz.func149, Tryz.ntmps149
        go_wp2_with (first | (go_at_call 145; refine HA.mono ?_; rintro e w2 ⟨rfl, b2⟩; have bl := below_lit w2 (.cells #[] 118); have b3 := b2.trans (bl.mono b2.size); have row3 := lit_ents w2) | (at_builtin; refine append_ents _ rfl (.tmp 14) (.tmp 17) rfl w2.heap.size _ _ [] p (by simp; omega) row3 (HT.out _ b3 _) rfl rfl bl.size ?_; intro v4 w4 row4 b4; rw [List.nil_append] at row4; have b5 := b3.trans (b4.mono b2.size); have hs4 := Nat.le_trans bl.size b4.size; have HE := HDR.out _ b5 ((i + 1) * 4) (n - (i + 1)) (cap - (i + 1)) rfl (.inr (by omega))) | (at_builtin; refine append_ents _ rfl (.tmp 19) (.tmp 23) rfl w2.heap.size _ _ p q (by omega) row4 HE rfl rfl hs4 ?_; intro v6 w6 row6 b6))
        go_ret2
        exact ⟨_, rfl, by rw [HR.out]; exact row6.mono (Nat.le_trans hbase b2.size), (b5.mono hbase).trans (b6.mono (Nat.le_trans hbase b2.size))⟩
end

section
open Go.RowKit

theorem flatE_set2 : ∀ (l : List En) (t : Nat) (s : ByteArray) (id : Int), t < l.length → ((flatE l).set (t * 4 + 2) (.string s)).set (t * 4 + 3) (.int .i64 id) = flatE (l.set t (respE l[t]! s id))
  | [], t, s, id, h => by simp at h
  | x :: l, 0, s, id, _ => by simp [flatE_cons, encE, respE]
  | x :: l, t + 1, s, id, h => by
    have ih := flatE_set2 l t s id (by simpa using h)
    have e : (x :: l)[t + 1]! = l[t]! := rfl
    rw [e, List.set_cons_succ, flatE_cons, flatE_cons, ← ih]
    simp only [encE, List.cons_append, List.nil_append]
    rw [show (t + 1) * 4 = t * 4 + 1 + 1 + 1 + 1 by omega]
    simp only [List.set_cons_succ]

def respL (d : List En) (s : ByteArray) (id : Int) : List En := match atN d s with | some i => if idB id then d.set i (respE d[i]! s id) else d | none => d
def respB (d : List En) (s : ByteArray) (id : Int) : Bool := (atN d s).isSome && idB id
theorem respN_eq {d : List En} (hr : dirB d = true) (s : ByteArray) (id : Int) : respN d s id = (respL d s id, respB d s id) := by
  unfold respN respL respB; rw [if_pos hr]
  cases atN d s with
  | none => rfl
  | some i => cases h : idB id <;> simp

set_option maxRecDepth 100000 in
set_option maxHeartbeats 1000000 in
theorem l5Respell_any (v : Value) (d : List En) (s : ByteArray) (id : Int) (base : Nat) (w : World) (hv : EntRow w base v d) (hd : Shorts d) (hs : s.size ≤ 1048576) (hl : d.length ≤ 1048576) (hbase : base ≤ w.heap.size) :
    Calls Tryz.prog 192 #[v, .string s, .int .i64 id] w fun e w' => ∃ u, e = .returned (.tuple #[u, .bool (respB d s id)]) ∧ EntRow w' base u (respL d s id) ∧ Below base w w' := by
  have HA := l5At_any v d s w hv.at hd hs hl
  have HI := fun w' => in_any id 1 100000 w'
  have HB : Hid (idB id = inB id 1 100000) := rfl
  cases ha : atN d s with
  | none =>
    have HR : Hid (respL d s id = d) := by show _ = _; unfold respL; rw [ha]
    have HRB : Hid (respB d s id = false) := by show _ = _; unfold respB; rw [ha]; rfl
    rw [atZ_none ha] at HA
    obtain ⟨a, ca, rfl, -, -⟩ := hv.at
    go_enter Tryz.func192, Tryz.ntmps192
    go_wp2_with (go_at_call 145; refine HA.mono ?_; rintro e w2 ⟨rfl, b2⟩)
    go_ret2
    exact ⟨_, by rw [HRB.out]; rfl, by rw [HR.out]; exact hv.below b2, b2.mono hbase⟩
  | some i =>
    rw [atZ_some ha] at HA
    obtain ⟨hi, -⟩ := atN_is ha
    have hi0 : ¬ ((i : Int) < 0) := by omega
    have hd0 : decide ((i : Int) < 0) = false := decide_eq_false hi0
    cases hb : idB id
    · have HR : Hid (respL d s id = d) := by show _ = _; unfold respL; rw [ha]; simp [hb]
      have HRB : Hid (respB d s id = false) := by show _ = _; unfold respB; rw [hb, Bool.and_false]
      rw [← HB.out, hb] at HI
      obtain ⟨a, ca, rfl, -, -⟩ := hv.at
      go_enter Tryz.func192, Tryz.ntmps192
      go_wp2_with (first | (go_at_call 145; refine HA.mono ?_; rintro e w2 ⟨rfl, b2⟩) | (go_at_call 48; refine (HI _).mono ?_; rintro e w3 ⟨rfl, rfl⟩))
      go_ret2
      exact ⟨_, by rw [HRB.out]; rfl, by rw [HR.out]; exact hv.below b2, b2.mono hbase⟩
    · have HR : Hid (respL d s id = d.set i (respE d[i]! s id)) := by show _ = _; unfold respL; rw [ha]; simp [hb]
      have HRB : Hid (respB d s id = true) := by show _ = _; unfold respB; rw [ha, hb]; rfl
      rw [← HB.out, hb] at HI
      rcases hv.2 with ⟨rfl, h0⟩ | ⟨g, cap, cur, rfl, hg, hh, hnc, hcp, hcs, htake⟩
      · omega
      · have HP : Hid (∀ w2, Below w.heap.size w w2 → (EntRow ((w2.setCell ⟨g, i * 4 + 2, none⟩ (.string s)).setCell ⟨g, i * 4 + 3, none⟩ (.int .i64 id)) base (.slice (some ⟨g, 0, none⟩) d.length cap) (respL d s id)) ∧ (∀ j, j < d.length * 4 → (∃ u, w2.cell? ⟨g, j, none⟩ = some u) ∧ w2.frozen? ⟨g, j, none⟩ = false)) := fun w2 hb2 => by
          have h2 := hv.below hb2
          refine ⟨?_, fun j hj => row_cells h2 j hj⟩
          have h3 := (h2.stored (i * 4 + 2) (.string s)).1
          have h4 := (h3.stored (i * 4 + 3) (.int .i64 id)).1
          rw [flatE_set2 d i s id hi] at h4
          unfold EntRow
          rw [HR.out, List.length_set]
          exact h4
        clear hcs htake hh hv
        generalize respL d s id = r at HR HP ⊢
        generalize respB d s id = rb at HRB ⊢
        generalize d.length = n at *
        have hin : (i : Int) < (n : Int) := by omega
        go_enter Tryz.func192, Tryz.ntmps192
        go_wp2_with (first | (go_at_call 145; refine HA.mono ?_; rintro e w2 ⟨rfl, b2⟩; obtain ⟨h2, hcc⟩ := HP.out _ b2; obtain ⟨⟨u2, d2⟩, f2⟩ := hcc (i * 4 + 2) (by omega); obtain ⟨⟨u3, d3⟩, f3⟩ := hcc (i * 4 + 3) (by omega); have HS : Hid _ := h2; clear h2 hcc) | (go_at_call 48; refine (HI _).mono ?_; rintro e w3 ⟨rfl, rfl⟩))
        go_ret2
        exact ⟨_, by rw [HRB.out]; rfl, HS.out, ((b2.mono hbase).setCell hg _).setCell hg _⟩
end

section
open Go.RowKit
end

section
open Go.RowKit

theorem ins_all {l : List En} {e : En} (h : ∀ x ∈ l, lessB x e.hash e.index = true) : insN l e = l ++ [e] := by
  unfold insN
  have h1 := List.takeWhile_append_of_pos (p := fun x => lessB x e.hash e.index) (l₂ := []) h
  have h2 := List.dropWhile_append_of_pos (p := fun x => lessB x e.hash e.index) (l₂ := []) h
  rw [List.append_nil] at h1 h2
  rw [h1, h2]; simp
theorem ins_new {l : List En} {e x : En} (h : ∀ y ∈ l, lessB y e.hash e.index = true) (hx : lessB x e.hash e.index = false) : insN (l ++ [x]) e = l ++ [e] ++ [x] := by
  unfold insN
  rw [List.takeWhile_append_of_pos h, List.dropWhile_append_of_pos h, List.takeWhile_cons, List.dropWhile_cons, hx]
  simp
theorem ins_on {l : List En} {e : En} (h : ∃ y ∈ l, lessB y e.hash e.index = false) (x : En) : insN (l ++ [x]) e = insN l e ++ [x] := by
  induction l with
  | nil => obtain ⟨y, hy, _⟩ := h; cases hy
  | cons z l ih =>
    by_cases hz : lessB z e.hash e.index = true
    · have h' : ∃ y ∈ l, lessB y e.hash e.index = false := by
        obtain ⟨y, hy, h2⟩ := h
        rcases List.mem_cons.1 hy with rfl | hy
        · rw [hz] at h2; cases h2
        · exact ⟨y, hy, h2⟩
      have := ih h'
      unfold insN at this ⊢
      simp only [List.cons_append, List.takeWhile_cons, List.dropWhile_cons, hz, if_true]
      rw [this]
    · have hz' : lessB z e.hash e.index = false := by simpa using hz
      unfold insN
      simp [hz']
/-- has the new entry been put, at place j? -/
def putB (d : List En) (e : En) (j : Nat) : Bool := (d.take j).any fun x => !lessB x e.hash e.index
/-- the row so far -/
def putL (d : List En) (e : En) (j : Nat) : List En := if putB d e j then insN (d.take j) e else d.take j
theorem putB_zero (d : List En) (e : En) : putB d e 0 = false := by unfold putB; simp
theorem putL_zero (d : List En) (e : En) : putL d e 0 = [] := by unfold putL; rw [putB_zero]; simp
theorem ents_snoc {d : List En} {j : Nat} (hj : j < d.length) : d.take (j + 1) = d.take j ++ [d[j]!] := by
  rw [List.take_succ_eq_append_getElem hj, getElem!_pos d j hj]
theorem putB_step {d : List En} {e : En} {j : Nat} (hj : j < d.length) : putB d e (j + 1) = (putB d e j || !lessB d[j]! e.hash e.index) := by
  unfold putB; rw [ents_snoc hj]; simp
theorem put_not {d : List En} {e : En} {j : Nat} (h : putB d e j = false) : ∀ x ∈ d.take j, lessB x e.hash e.index = true := by
  unfold putB at h
  rw [List.any_eq_false] at h
  intro x hx
  simpa using h x hx
theorem put_is {d : List En} {e : En} {j : Nat} (h : putB d e j = true) : ∃ x ∈ d.take j, lessB x e.hash e.index = false := by
  unfold putB at h
  rw [List.any_eq_true] at h
  obtain ⟨x, hx, h2⟩ := h
  exact ⟨x, hx, by simpa using h2⟩
theorem putL_on {d : List En} {e : En} {j : Nat} (hj : j < d.length) (h : putB d e j = true) : putL d e j ++ [d[j]!] = putL d e (j + 1) ∧ putB d e (j + 1) = true := by
  have h2 : putB d e (j + 1) = true := by rw [putB_step hj, h]; rfl
  refine ⟨?_, h2⟩
  unfold putL
  rw [h, h2, if_pos rfl, if_pos rfl, ents_snoc hj, ins_on (put_is h)]
theorem putL_new {d : List En} {e : En} {j : Nat} (hj : j < d.length) (h : putB d e j = false) (hx : lessB d[j]! e.hash e.index = false) : putL d e j ++ [e] ++ [d[j]!] = putL d e (j + 1) ∧ putB d e (j + 1) = true := by
  have h2 : putB d e (j + 1) = true := by rw [putB_step hj, hx]; simp
  refine ⟨?_, h2⟩
  unfold putL
  rw [h, h2, if_pos rfl, if_neg Bool.false_ne_true, ents_snoc hj, ins_new (put_not h) hx]
theorem putL_less {d : List En} {e : En} {j : Nat} (hj : j < d.length) (h : putB d e j = false) (hx : lessB d[j]! e.hash e.index = true) : putL d e j ++ [d[j]!] = putL d e (j + 1) ∧ putB d e (j + 1) = false := by
  have h2 : putB d e (j + 1) = false := by rw [putB_step hj, hx, h]; rfl
  refine ⟨?_, h2⟩
  unfold putL
  rw [h, h2, if_neg Bool.false_ne_true, if_neg Bool.false_ne_true, ents_snoc hj]
theorem putL_end (d : List En) (e : En) : (putB d e d.length = true → putL d e d.length = insN d e) ∧ (putB d e d.length = false → putL d e d.length ++ [e] = insN d e) := by
  constructor
  · intro h; unfold putL; rw [h, if_pos rfl, List.take_length]
  · intro h
    have := put_not h
    unfold putL; rw [h, if_neg Bool.false_ne_true]
    rw [List.take_length] at this ⊢
    exact (ins_all this).symm
theorem putL_len (d : List En) (e : En) (j : Nat) : (putL d e j).length ≤ d.length + 1 := by
  unfold putL
  split
  · rw [ins_len, List.length_take]; omega
  · rw [List.length_take]; omega

def addL (d : List En) (s : ByteArray) (id : Int) : List En := if addOk d s id then insN d (newE d s id) else d
theorem addN_eq {d : List En} (hr : dirB d = true) (s : ByteArray) (id : Int) : addN d s id = (addL d s id, addOk d s id) := by
  unfold addN addL; rw [if_pos hr]; cases addOk d s id <;> rfl
theorem addL_no {d : List En} {s : ByteArray} {id : Int} (h : addOk d s id = false) : addL d s id = d := by unfold addL; rw [h]; rfl
theorem addL_yes {d : List En} {s : ByteArray} {id : Int} (h : addOk d s id = true) : addL d s id = insN d (newE d s id) := by unfold addL; rw [h]; rfl
end

section
open Go.RowKit

theorem addOk_no {d : List En} {s : ByteArray} {id : Int} (h : (nameL s).isSome = false ∨ (atN d s).isSome = true ∨ idB id = false ∨ 12 ≤ d.length) : addOk d s id = false := by
  cases ho : addOk d s id
  · rfl
  · obtain ⟨h1, h2, h3, h4⟩ := addOk_iff.1 ho
    rcases h with h | h | h | h
    · rw [h] at h1; cases h1
    · rw [h2] at h; cases h
    · rw [h] at h3; cases h3
    · omega

set_option maxRecDepth 100000 in
set_option maxHeartbeats 2000000 in
theorem l5Add_no (v : Value) (d : List En) (s : ByteArray) (id : Int) (base : Nat) (w : World) (hv : EntRow w base v d) (hd : Shorts d) (hs : s.size ≤ 1048576) (hl : d.length ≤ 1048576) (hbase : base ≤ w.heap.size) (ho : addOk d s id = false) :
    Calls Tryz.prog 147 #[v, .string s, .int .i64 id] w fun e w' => ∃ u, e = .returned (.tuple #[u, .bool false]) ∧ EntRow w' base u d ∧ Below base w w' := by
  have HN := sNameOk s w hs
  have HA := fun w' (hb : Below w.heap.size w w') => l5At_any v d s w' (hv.at.below hb) hd hs hl
  have HI := fun w' => in_any id 1 100000 w'
  have HB : Hid (idB id = inB id 1 100000) := rfl
  rw [← HB.out] at HI
  obtain ⟨a, ca, rfl, -, -⟩ := hv.at
  cases hn : (nameL s).isSome
  · rw [hn] at HN
    go_enter Tryz.func147, Tryz.ntmps147
    go_wp2_with (first | (go_at_call 94; refine HN.mono ?_; rintro e w2 ⟨rfl, b2⟩) | (go_at_call 145; refine (HA w2 b2).mono ?_; rintro e w3 ⟨rfl, b3⟩; have b4 := b2.trans (b3.mono b2.size)) | (go_at_call 48; refine (HI _).mono ?_; rintro e w9 ⟨rfl, rfl⟩))
    go_ret2
    exact ⟨_, rfl, hv.below b2, b2.mono hbase⟩
  · rw [hn] at HN
    cases ha : atN d s with
    | some i =>
      rw [atZ_some ha] at HA
      have hi0 : (0 : Int) ≤ (i : Int) := by omega
      have hi1 : decide ((0 : Int) ≤ (i : Int)) = true := decide_eq_true hi0
      go_enter Tryz.func147, Tryz.ntmps147
      go_wp2_with (first | (go_at_call 94; refine HN.mono ?_; rintro e w2 ⟨rfl, b2⟩) | (go_at_call 145; refine (HA w2 b2).mono ?_; rintro e w3 ⟨rfl, b3⟩; have b4 := b2.trans (b3.mono b2.size)) | (go_at_call 48; refine (HI _).mono ?_; rintro e w9 ⟨rfl, rfl⟩))
      go_ret2
      exact ⟨_, rfl, hv.below b4, b4.mono hbase⟩
    | none =>
      rw [atZ_none ha] at HA
      cases hb : idB id
      · rw [hb] at HI
        go_enter Tryz.func147, Tryz.ntmps147
        go_wp2_with (first | (go_at_call 94; refine HN.mono ?_; rintro e w2 ⟨rfl, b2⟩) | (go_at_call 145; refine (HA w2 b2).mono ?_; rintro e w3 ⟨rfl, b3⟩; have b4 := b2.trans (b3.mono b2.size)) | (go_at_call 48; refine (HI _).mono ?_; rintro e w9 ⟨rfl, rfl⟩))
        go_ret2
        exact ⟨_, rfl, hv.below b4, b4.mono hbase⟩
      · rw [hb] at HI
        have hlen : 12 ≤ d.length := by
          rcases Nat.lt_or_ge d.length 12 with h | h
          · rw [addOk_iff.2 ⟨hn, ha, hb, h⟩] at ho; cases ho
          · exact h
        obtain ⟨n, HL⟩ : ∃ n, Hid (n = d.length) := ⟨_, rfl⟩
        rw [← HL.out] at hlen HA ⊢
        have hle : (12 : Int) ≤ (n : Int) := by omega
        have hd1 : decide (12 ≤ n) = true := decide_eq_true hlen
        go_enter Tryz.func147, Tryz.ntmps147
        go_wp2_with (first | (go_at_call 94; refine HN.mono ?_; rintro e w2 ⟨rfl, b2⟩) | (go_at_call 145; refine (HA w2 b2).mono ?_; rintro e w3 ⟨rfl, b3⟩; have b4 := b2.trans (b3.mono b2.size)) | (go_at_call 48; refine (HI _).mono ?_; rintro e w9 ⟨rfl, rfl⟩))
        go_ret2
        exact ⟨_, rfl, by rw [HL.out]; exact hv.below b4, b4.mono hbase⟩
end

section
open Go.RowKit

theorem lst_take {d : List En} {h : Int} {j : Nat} (hj : j < d.length) : lstN h 0 (d.take (j + 1)) = if d[j]!.hash = h ∧ d[j]!.index = lstN h 0 (d.take j) then lstN h 0 (d.take j) + 1 else lstN h 0 (d.take j) := by
  rw [ents_snoc hj, lstN_snoc]
theorem lst_take_range (d : List En) (h : Int) (j : Nat) : 0 ≤ lstN h 0 (d.take j) ∧ lstN h 0 (d.take j) ≤ d.length := by
  have := lstN_range h 0 (d.take j)
  have h2 : (d.take j).length ≤ d.length := by rw [List.length_take]; omega
  omega

set_option maxRecDepth 100000 in
set_option maxHeartbeats 2000000 in
theorem l5Add_yes (v : Value) (d : List En) (s : ByteArray) (id : Int) (base : Nat) (w : World) (hv : EntRow w base v d) (hd : Shorts d) (hs : s.size ≤ 1048576) (hl : d.length ≤ 1048576) (hbase : base ≤ w.heap.size) (ho : addOk d s id = true) :
    Calls Tryz.prog 147 #[v, .string s, .int .i64 id] w fun e w' => ∃ u, e = .returned (.tuple #[u, .bool true]) ∧ EntRow w' base u (insN d (newE d s id)) ∧ Below base w w' := by
  have HN := sNameOk s w hs
  have HA := fun w' (hb : Below w.heap.size w w') => l5At_any v d s w' (hv.at.below hb) hd hs hl
  have HI := fun w' => in_any id 1 100000 w'
  have HB : Hid (idB id = inB id 1 100000) := rfl
  have HH := fun w' => sHashOf s w' hs
  obtain ⟨hn, ha, hb, h12⟩ := addOk_iff.1 ho
  rw [← HB.out, hb] at HI
  rw [hn] at HN
  rw [atZ_none ha] at HA
  have HNE : Hid (newE d s id = ⟨hashN s, lstN (hashN s) 0 d, s, id⟩) := rfl
  generalize newE d s id = E at HNE ⊢
  generalize hashN s = h at HH HNE
  have HLS : Hid (∀ j, j < d.length → lstN h 0 (d.take (j + 1)) = if d[j]!.hash = h ∧ d[j]!.index = lstN h 0 (d.take j) then lstN h 0 (d.take j) + 1 else lstN h 0 (d.take j)) := fun j hj => lst_take hj
  have HLR : Hid (∀ j, 0 ≤ lstN h 0 (d.take j) ∧ lstN h 0 (d.take j) ≤ d.length) := fun j => lst_take_range d h j
  have HLE : Hid (lstN h 0 (d.take d.length) = lstN h 0 d) := by show _ = _; rw [List.take_length]
  obtain ⟨a, ca, rfl, -, hva⟩ := hv.at
  obtain ⟨n, HL⟩ : ∃ n, Hid (n = d.length) := ⟨_, rfl⟩
  rw [← HL.out] at h12 hva hl HA HLS HLR HLE ⊢
  have hle : ¬ ((12 : Int) ≤ (n : Int)) := by omega
  have hd1 : decide (12 ≤ n) = false := decide_eq_false (by omega)
  clear hd hn ha hb
  go_enter Tryz.func147, Tryz.ntmps147
  go_wp2_with (first | (go_at_call 94; refine HN.mono ?_; rintro e w2 ⟨rfl, b2⟩) | (go_at_call 145; refine (HA w2 b2).mono ?_; rintro e w3 ⟨rfl, b3⟩; have b4 := b2.trans (b3.mono b2.size)) | (go_at_call 48; refine (HI _).mono ?_; rintro e w9 ⟨rfl, rfl⟩) | (go_at_call 120; refine (HH _).mono ?_; rintro e w5 ⟨rfl, b5⟩; have b5 := b4.trans (b5.mono b4.size)))
  go_loop [9, 10] (fun kv iv => ∃ j : Nat, j ≤ n ∧ iv = .int .i64 j ∧ ∃ K : Int, kv = .int .i64 K ∧ Hid (K = lstN h 0 (d.take j))) (fun _ iv => n - (intOf iv).toNat)
  case atStart => exact ⟨0, Nat.zero_le _, rfl, 0, rfl, by show (0 : Int) = _; rw [List.take_zero]; rfl⟩
  case round =>
    obtain ⟨j, hj, rfl, K, rfl, HK⟩ := hrel
    have hKr := HLR.out j
    rw [← HK.out] at hKr
    by_cases hlt : j < n
    · obtain ⟨b1, o1, rfl, hb1, hc1⟩ := hva j hlt
      have hc1 := hc1.below hb1 b5
      have HS : Hid _ := HLS.out j hlt
      rw [← HK.out] at HS
      generalize d[j]! = x at hc1 HS
      obtain ⟨x0, x1, x2, x3⟩ := x
      have k0 := hc1.c0
      have k1 := hc1.c1
      dsimp only at k0 k1 HS
      have hjn : (j : Int) < (n : Int) := by omega
      have hj0 : (0 : Int) ≤ (j : Int) := by omega
      have hKw : IntKind.i64.wrap (K + 1) = K + 1 := by rw [IntKind.wrap_i64]; omega
      by_cases e0 : x0 = h
      · by_cases e1 : x1 = K
        · have HG : Hid (K + 1 = lstN h 0 (d.take (j + 1))) := by show _ = _; rw [HS.out, if_pos ⟨e0, e1⟩]
          have n0 : (x0 == h) = true := by simp [e0]
          have n1 : (x1 == K) = true := by simp [e1]
          clear e0 e1 HS hc1
          go_wp2
          go_round
          case rel => exact ⟨j + 1, by omega, by go_num, K + 1, by go_num, HG.out⟩
          case measure => simp [intOf]; omega
        · have HG : Hid (K = lstN h 0 (d.take (j + 1))) := by show _ = _; rw [HS.out, if_neg (fun h => e1 h.2)]
          have n0 : (x0 == h) = true := by simp [e0]
          have n1 : (x1 == K) = false := by simp [e1]
          clear e0 e1 HS hc1
          go_wp2
          go_round
          case rel => exact ⟨j + 1, by omega, by go_num, K, rfl, HG.out⟩
          case measure => simp [intOf]; omega
      · have HG : Hid (K = lstN h 0 (d.take (j + 1))) := by show _ = _; rw [HS.out, if_neg (fun h => e0 h.1)]
        have n0 : (x0 == h) = false := by simp [e0]
        clear e0 HS hc1
        go_wp2
        go_round
        case rel => exact ⟨j + 1, by omega, by go_num, K, rfl, HG.out⟩
        case measure => simp [intOf]; omega
    · obtain rfl : n = j := by omega
      have HE : Hid (E = ⟨h, K, s, id⟩) := by show _ = _; rw [HNE.out, HK.out, HLE.out]
      have row6 := lit_ents w5
      have b6 := below_lit w5 (.cells #[] 118)
      have HPL : Hid (∀ j, (putL d E j).length ≤ n + 1) := fun j => by rw [HL.out]; exact putL_len d E j
      have HON : Hid (∀ j, j < n → putB d E j = true → putL d E j ++ [d[j]!] = putL d E (j + 1) ∧ putB d E (j + 1) = true) := fun j hj => putL_on (by rw [← HL.out]; exact hj)
      have HNW : Hid (∀ j, j < n → putB d E j = false → lessB d[j]! h K = false → putL d E j ++ [⟨h, K, s, id⟩] ++ [d[j]!] = putL d E (j + 1) ∧ putB d E (j + 1) = true) := fun j hj h1 h2 => by
        have := putL_new (e := E) (by rw [← HL.out]; exact hj) h1 (by rw [HE.out]; exact h2)
        rw [← HE.out]; exact this
      have HLS2 : Hid (∀ j, j < n → putB d E j = false → lessB d[j]! h K = true → putL d E j ++ [d[j]!] = putL d E (j + 1) ∧ putB d E (j + 1) = false) := fun j hj h1 h2 => putL_less (by rw [← HL.out]; exact hj) h1 (by rw [HE.out]; exact h2)
      have HEN : Hid ((putB d E n = true → putL d E n = insN d E) ∧ (putB d E n = false → putL d E n ++ [⟨h, K, s, id⟩] = insN d E)) := by
        show _ ∧ _
        rw [HL.out, ← HE.out]; exact putL_end d E
      have HZ : Hid (putB d E 0 = false ∧ putL d E 0 = []) := ⟨putB_zero d E, putL_zero d E⟩
      obtain ⟨R, HRR⟩ : ∃ R, Hid (R = insN d E) := ⟨_, rfl⟩
      rw [← HRR.out] at HEN
      generalize hpb : putB d E = pB at HON HNW HLS2 HEN HZ
      generalize hpl : putL d E = pL at HON HNW HLS2 HEN HZ HPL
      clear hpb hpl HLS HLR HLE HNE HE HK
      go_wp2
      go_loopw [11, 12, 13] (fun ov pv iv wr => ∃ j : Nat, j ≤ n ∧ iv = .int .i64 j ∧ ∃ p : Bool, pv = .bool p ∧ Hid (pB j = p) ∧ EntRow wr w5.heap.size ov (pL j) ∧ Below w5.heap.size w5 wr) (fun _ _ iv _ => n - (intOf iv).toNat)
      case atStart => exact ⟨0, Nat.zero_le _, rfl, false, rfl, HZ.out.1, by rw [HZ.out.2]; exact row6, b6⟩
      case round =>
        obtain ⟨j, hj, rfl, p, rfl, HP, row, hbel⟩ := hrel
        have hql := HPL.out j
        by_cases hlt : j < n
        · obtain ⟨b1, o1, rfl, hb1, hc1⟩ := hva j hlt
          have hjn : (j : Int) < (n : Int) := by omega
          have hj0 : (0 : Int) ≤ (j : Int) := by omega
          have hbw : Below w.heap.size w wr := b5.trans (hbel.mono b5.size)
          have HX1 := HON.out j hlt
          have HX2 := HNW.out j hlt
          have HX3 := HLS2.out j hlt
          have HLE := fun w' => l5Less_any d[j]! h K w'
          generalize lessB d[j]! h K = ls at HLE HX2 HX3
          generalize d[j]! = x at hc1 HX1 HX2 HX3 HLE
          obtain ⟨x0, x1, x2, x3⟩ := x
          obtain ⟨q, HQ⟩ : ∃ q, Hid (q = pL j) := ⟨_, rfl⟩
          rw [← HQ.out] at row HX1 HX2 HX3 hql
          rw [HP.out] at HX1 HX2 HX3
          have k0 := (hc1.below hb1 hbw).c0
          have k1 := (hc1.below hb1 hbw).c1
          have k2 := (hc1.below hb1 hbw).c2
          have k3 := (hc1.below hb1 hbw).c3
          dsimp only at k0 k1 k2 k3 HLE
          have hcw : ∀ w', Below wr.heap.size wr w' → (w'.cell? ⟨b1, o1 + j * 4, none⟩ = some (.int .i64 x0) ∧ w'.cell? ⟨b1, o1 + j * 4 + 1, none⟩ = some (.int .i64 x1)) ∧ w'.cell? ⟨b1, o1 + j * 4 + 2, none⟩ = some (.string x2) ∧ w'.cell? ⟨b1, o1 + j * 4 + 3, none⟩ = some (.int .i64 x3) := fun w' hb => by
            have hc := hc1.below hb1 (hbw.trans (hb.mono hbw.size))
            exact ⟨⟨hc.c0, hc.c1⟩, hc.c2, hc.c3⟩
          have hb1' : b1 < w5.heap.size := Nat.lt_of_lt_of_le hb1 b5.size
          have hcw5 : ∀ w', Below w5.heap.size w5 w' → (w'.cell? ⟨b1, o1 + j * 4, none⟩ = some (.int .i64 x0) ∧ w'.cell? ⟨b1, o1 + j * 4 + 1, none⟩ = some (.int .i64 x1)) ∧ w'.cell? ⟨b1, o1 + j * 4 + 2, none⟩ = some (.string x2) ∧ w'.cell? ⟨b1, o1 + j * 4 + 3, none⟩ = some (.int .i64 x3) := fun w' hb => by
            have hc := hc1.below hb1 (b5.trans (hb.mono b5.size))
            exact ⟨⟨hc.c0, hc.c1⟩, hc.c2, hc.c3⟩
          have HCW : Hid _ := hcw
          have HCW5 : Hid _ := hcw5
          clear hcw hcw5 hc1 hva HON HNW HLS2
          cases p
          · cases ls
            · have HG : Hid _ := HX2 rfl rfl
              clear HX1 HX2 HX3
              go_wp2_with (first | (go_at_call 152; refine (HLE _).mono ?_; rintro e w7 ⟨rfl, b7⟩; have rowA := row.below b7; have bA := hbel.trans (b7.mono hbel.size)) | (at_builtin; refine append_ents _ rfl (.tmp 79) (.tmp 85) rfl w5.heap.size _ _ (q) [⟨h, K, s, id⟩] (by simp; omega) (rowA.below (below_lit w7 _)) (one_ent w7 ⟨h, K, s, id⟩) rfl rfl (Nat.le_trans bA.size (below_lit w7 _).size) ?_; intro v8 w8 row8 b8; have bB := (bA.trans ((below_lit w7 _).mono bA.size)).trans b8; obtain ⟨⟨m0, m1⟩, m2, m3⟩ := HCW5.out w8 bB) | (at_builtin; refine append_ents _ rfl (.tmp 87) (.tmp 92) rfl w5.heap.size _ _ (q ++ [⟨h, K, s, id⟩]) [⟨x0, x1, x2, x3⟩] (by simp; omega) (row8.below (below_lit w8 _)) (one_ent w8 ⟨x0, x1, x2, x3⟩) rfl rfl (Nat.le_trans bB.size (below_lit w8 _).size) ?_; intro v9 w9 row9 b9))
              go_roundw
              case rel => exact ⟨j + 1, by omega, by go_num, true, rfl, HG.out.2, by rw [← HG.out.1]; exact row9, (bB.trans ((below_lit w8 _).mono bB.size)).trans b9⟩
              case measure => simp [intOf]; omega
            · have HG : Hid _ := HX3 rfl rfl
              clear HX1 HX2 HX3
              go_wp2_with (first | (go_at_call 152; refine (HLE _).mono ?_; rintro e w7 ⟨rfl, b7⟩; have rowA := row.below b7; have bA := hbel.trans (b7.mono hbel.size); obtain ⟨⟨m0, m1⟩, m2, m3⟩ := HCW5.out w7 bA) | (at_builtin; refine append_ents _ rfl (.tmp 87) (.tmp 92) rfl w5.heap.size _ _ (q) [⟨x0, x1, x2, x3⟩] (by simp; omega) (rowA.below (below_lit w7 _)) (one_ent w7 ⟨x0, x1, x2, x3⟩) rfl rfl (Nat.le_trans bA.size (below_lit w7 _).size) ?_; intro v9 w9 row9 b9))
              go_roundw
              case rel => exact ⟨j + 1, by omega, by go_num, false, rfl, HG.out.2, by rw [← HG.out.1]; exact row9, (bA.trans ((below_lit w7 _).mono bA.size)).trans b9⟩
              case measure => simp [intOf]; omega
          · have HG : Hid _ := HX1 rfl
            clear HX1 HX2 HX3
            go_wp2_with (at_builtin; refine append_ents _ rfl (.tmp 87) (.tmp 92) rfl w5.heap.size _ _ (q) [⟨x0, x1, x2, x3⟩] (by simp; omega) (row.below (below_lit wr _)) (one_ent wr ⟨x0, x1, x2, x3⟩) rfl rfl (Nat.le_trans hbel.size (below_lit wr _).size) ?_; intro v9 w9 row9 b9)
            go_roundw
            case rel => exact ⟨j + 1, by omega, by go_num, true, rfl, HG.out.2, by rw [← HG.out.1]; exact row9, (hbel.trans ((below_lit wr _).mono hbel.size)).trans b9⟩
            case measure => simp [intOf]; omega
        · obtain rfl : n = j := by omega
          obtain ⟨q, HQ⟩ : ∃ q, Hid (q = pL n) := ⟨_, rfl⟩
          rw [← HQ.out] at row hql HEN
          rw [HP.out] at HEN
          have hbs := Nat.le_trans hbase b5.size
          cases p
          · have HG : Hid (q ++ [⟨h, K, s, id⟩] = R) := HEN.out.2 rfl
            clear HEN
            go_wp2_with (at_builtin; refine append_ents _ rfl (.tmp 96) (.tmp 102) rfl w5.heap.size _ _ (q) [⟨h, K, s, id⟩] (by simp; omega) (row.below (below_lit wr _)) (one_ent wr ⟨h, K, s, id⟩) rfl rfl (Nat.le_trans hbel.size (below_lit wr _).size) ?_; intro v9 w9 row9 b9)
            go_ret2
            exact ⟨_, rfl, by rw [← HRR.out, ← HG.out]; exact row9.mono hbs, (b5.mono hbase).trans (((hbel.trans ((below_lit wr _).mono hbel.size)).trans b9).mono hbs)⟩
          · have HG : Hid (q = R) := HEN.out.1 rfl
            clear HEN
            go_wp2
            go_ret2
            exact ⟨_, rfl, by rw [← HRR.out, ← HG.out]; exact row.mono hbs, (b5.mono hbase).trans (hbel.mono hbs)⟩
end

section
open Go.RowKit

set_option maxRecDepth 100000 in
set_option maxHeartbeats 1000000 in
theorem l5Add_any (v : Value) (d : List En) (s : ByteArray) (id : Int) (base : Nat) (w : World) (hv : EntRow w base v d) (hd : Shorts d) (hs : s.size ≤ 1048576) (hl : d.length ≤ 1048576) (hbase : base ≤ w.heap.size) :
    Calls Tryz.prog 147 #[v, .string s, .int .i64 id] w fun e w' => ∃ u, e = .returned (.tuple #[u, .bool (addOk d s id)]) ∧ EntRow w' base u (addL d s id) ∧ Below base w w' := by
  cases ho : addOk d s id
  · rw [addL_no ho]; exact l5Add_no v d s id base w hv hd hs hl hbase ho
  · rw [addL_yes ho]; exact l5Add_yes v d s id base w hv hd hs hl hbase ho
end

end Go.Proofs.YtgkcnleegefjcaaGreatDoor
