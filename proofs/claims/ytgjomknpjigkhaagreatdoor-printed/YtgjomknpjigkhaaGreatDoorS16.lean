import Derived.Test.YtgjomknpjigkhaaGreatDoorS15
import Derived.Laws.Rows
namespace Go.Proofs.YtgjomknpjigkhaaGreatDoor
set_option maxRecDepth 100000
set_option maxHeartbeats 4000000
section
open Go.RowKit
theorem info129:(Tryz.prog.info? 129).map (fun i=>(i.zero,i.size,i.bytes))=some (some (.agg #[.string ⟨#[]⟩,.string ⟨#[]⟩,.int .i64 0]),3,40):=by kernel_rfl
def tcells (ts:List Tk):List Value:=ts.flatMap fun t=>[.string t.kind,.string t.text,.int .i64 t.line]
theorem tcells_append (a b:List Tk):tcells (a++b)=tcells a++tcells b:=by simp [tcells]
def ahead (ts:List Tk):(List Tk×Nat) ⊕ Nat→(List Tk×Nat) ⊕ Nat
 | .inl (us,m)=>.inl (ts++us,m)
 | .inr m=>.inr m
theorem tk_cell {W:World} {a b c:Value}:∀ (j:Nat) (x:Value),[a,b,c][j]?=some x→(W.alloc (.cells #[a,b,c] 129)).cell? ((⟨W.heap.size,0,none⟩:Addr).add j)=some x:=by
 intro j x hx
 rw [Addr.add_lit,Nat.zero_add,(CellsAt.new W #[a,b,c] 129).cell]
 match j with
 | 0=>simpa using hx
 | 1=>simpa using hx
 | 2=>simpa using hx
 | j+3=>simp at hx
def strEnd:ByteArray:=⟨#[101,110,100]⟩
def ScanTo (w:World) (r:(List Tk×Nat) ⊕ Nat) (e:Ending) (w':World):Prop:=match r with
 | .inl (ts,m)=>∃ v,e=.returned v∧w'.ownsRow w.heap.size 129 3 v (ts.length+1) (tcells (ts++[⟨strEnd,⟨#[]⟩,m⟩]))
 | .inr l=>e=gaveUp 5 l
theorem scan_calls {w:World} (s:ByteArray) (hs:s.size≤1000000):Calls Tryz.prog 133 #[.string s] w fun e w'=>ScanTo w (scanOf s.size s 1) e w'∧Keeps [] w w':=by
 obtain ⟨i0,hi0,hz0,hz1,hz2⟩:=info_parts info129
 generalize hR:scanOf s.size s 1=R
 go_enter Tryz.func133,Tryz.ntmps133
 go_wp2_with fail
 go_loopw [0,3,4] (fun x y z wr=>∃ (k l:Nat) (s':ByteArray) (ts:List Tk),x=.string s'∧z=.int .i64 l∧s'.size≤k∧s'.size≤s.size∧ts.length+s'.size≤s.size∧l+s'.size≤s.size+1∧wr.ownsRow w.heap.size 129 3 y ts.length (tcells ts)∧Keeps [] w wr∧ahead ts (scanOf k s' l)=R) (fun x _ _ _=>match x with | .string t=>t.size | _=>0)
 case atStart=>exact ⟨s.size,1,s,[],rfl,rfl,Nat.le_refl _,Nat.le_refl _,by simp,by omega,World.ownsRow_nil ..,Keeps.refl _ _,by rw [←hR];cases scanOf s.size s 1 <;> rfl⟩
 case round=>
  obtain ⟨k,l,s',ts,rfl,rfl,hk,hs',htl,hll,own,kr,hres⟩:=hrel
  by_cases h0:0<s'.size
  ·obtain ⟨k,rfl⟩:∃ k',k=k' + 1:=⟨k - 1,by omega⟩
   rw [scanOf,if_neg (by omega)] at hres
   have h0I:(0:Int)<s'.size:=by omega
   have h1I:(1:Int)≤s'.size:=by omega
   have hl:=ltr_at h0
   clear hR
   by_cases c10:ltr s' 0=10
   ·rw [if_pos c10] at hres
    have e10:(ltr s' 0 == 10)=true:=by rw [c10];rfl
    have Hres:=hide hres
    have hsz:(s'.extract 1 s'.size).size=s'.size - 1:=by rw [ByteArray.size_extract];omega
    clear hres c10
    go_wp2_with fail
    go_roundw
    ·exact ⟨k,l+1,s'.extract 1 s'.size,ts,rfl,by simp,by omega,by omega,by omega,by omega,own,kr,Hres.out⟩
    ·show (s'.extract 1 s'.size).size<s'.size;omega
   ·rw [if_neg c10] at hres
    have e10:(ltr s' 0 == 10)=false:=by rw [beq_eq_false_iff_ne];exact c10
    clear c10
    by_cases c32:ltr s' 0=32
    ·rw [if_pos (.inl c32)] at hres
     have e32:(ltr s' 0 == 32)=true:=by rw [c32];rfl
     have Hres:=hide hres
     have hsz:(s'.extract 1 s'.size).size=s'.size - 1:=by rw [ByteArray.size_extract];omega
     clear hres c32
     go_wp2_with fail
     go_roundw
     ·exact ⟨k,l,s'.extract 1 s'.size,ts,rfl,rfl,by omega,by omega,by omega,by omega,own,kr,Hres.out⟩
     ·show (s'.extract 1 s'.size).size<s'.size;omega
    ·have e32:(ltr s' 0 == 32)=false:=by rw [beq_eq_false_iff_ne];exact c32
     by_cases c9:ltr s' 0=9
     ·rw [if_pos (.inr c9)] at hres
      have e9:(ltr s' 0 == 9)=true:=by rw [c9];rfl
      have Hres:=hide hres
      have hsz:(s'.extract 1 s'.size).size=s'.size - 1:=by rw [ByteArray.size_extract];omega
      clear hres c32 c9
      go_wp2_with fail
      go_roundw
      ·exact ⟨k,l,s'.extract 1 s'.size,ts,rfl,rfl,by omega,by omega,by omega,by omega,own,kr,Hres.out⟩
      ·show (s'.extract 1 s'.size).size<s'.size;omega
     ·rw [if_neg (fun h=>h.elim c32 c9)] at hres
      have e9:(ltr s' 0 == 9)=false:=by rw [beq_eq_false_iff_ne];exact c9
      clear c32 c9
      by_cases c37:ltr s' 0=37
      ·rw [if_pos c37] at hres
       have e37:(ltr s' 0 == 37)=true:=by rw [c37];rfl
       have hp1:1≤spanOf notEol s':=spanOf_pos h0 (by rw [c37];rfl)
       have hp2:=spanOf_le notEol s'
       have hx:=hide (fun w=>span_notEol (w:=w) s' (by omega))
       generalize spanOf notEol s' = n at hres hp1 hp2 hx
       have Hres:=hide hres
       have hsz:(s'.extract n s'.size).size=s'.size - n:=by rw [ByteArray.size_extract];omega
       have hnI:(n:Int)≤s'.size:=by omega
       clear hres c37
       go_wp2_with fail
       refine (hx.out _).mono ?_
       rintro e w1 ⟨rfl,rfl⟩
       go_wp2_with fail
       go_roundw
       ·exact ⟨k,l,s'.extract n s'.size,ts,rfl,rfl,by omega,by omega,by omega,by omega,own,kr,Hres.out⟩
       ·show (s'.extract n s'.size).size<s'.size;omega
      ·rw [if_neg c37] at hres
       have e37:(ltr s' 0 == 37)=false:=by rw [beq_eq_false_iff_ne];exact c37
       clear c37
       have hcut:=hide (fun w=>cut_calls (w:=w) s' h0 (by omega) l)
       cases hc:cutOf s' with
       | none=>
        rw [hc] at hres hcut
        have Hres:=hide hres
        clear hres
        go_wp2_with fail
        refine (hcut.out _).mono ?_
        rintro e w1 ⟨hce,rfl⟩
        cases hce
        refine ⟨rfl,?_,kr⟩
        rw [←Hres.out]
        rfl
       | some r=>
        obtain ⟨kd,n⟩:=r
        obtain ⟨hn1,hn2⟩:=cutOf_range h0 hc
        rw [hc] at hres hcut
        have hah:ahead (ts++[⟨kd,s'.extract 0 n,l⟩]) (scanOf k (s'.extract n s'.size) l)=R:=by
         rw [←hres]
         show _=ahead ts (match scanOf k (s'.extract n s'.size) l with
          | .inl (ts,m)=>.inl (⟨kd,s'.extract 0 n,l⟩ :: ts,m)
          | .inr m=>.inr m)
         cases scanOf k (s'.extract n s'.size) l with
         | inl q=>simp [ahead]
         | inr m=>rfl
        have Hah:=hide hah
        have hsz:(s'.extract n s'.size).size=s'.size - n:=by rw [ByteArray.size_extract];omega
        have hnI:(n:Int)≤s'.size:=by omega
        clear hres hah hc
        obtain ⟨ay,cy,hy⟩:=ownE_len own
        subst hy
        have kB:=Keeps.alloc [] wr (.cells #[.string kd,.string (s'.extract 0 n),.int .i64 l] 129)
        have ownB:=ownsRow_kept own kB (by simp)
        have hone:=tk_cell (W:=wr) (a:=.string kd) (b:=.string (s'.extract 0 n)) (c:=.int .i64 l)
        have hszB:w.heap.size≤(wr.alloc (.cells #[.string kd,.string (s'.extract 0 n),.int .i64 l] 129)).heap.size:=by rw [sizeE_alloc];have:=kr.size;omega
        go_wp2_with fail
        refine (hcut.out _).mono ?_
        rintro e w1 ⟨hce,rfl⟩
        cases hce
        go_wp2_with (at_builtin;refine wpList_append_own_at _ rfl _ _ 125 rfl w.heap.size 129 i0 (.agg #[.string ⟨#[]⟩,.string ⟨#[]⟩,.int .i64 0]) 3 40 Tryz.underlying125 hi0 hz0 hz1 hz2 rfl (by decide) _ ts.length (tcells ts) rfl ownB ⟨w1.heap.size,0,none⟩ 1 1 [.string kd,.string (s'.extract 0 n),.int .i64 l] rfl (by simp) hone (by simp [Value.oneCell']) (by unfold maxLen;omega) (by omega) hszB ?_)
        intro v' W2 own2 grow2 nil2 at2
        have k2:=grownBy_keeps' grow2 (Value.slice ay ts.length cy).ownBlock.toList (fun r e=>.inl (by simp [e]))
        have kf:Keeps [] w W2:=(kr.trans kB).trans_new k2 fun j hj=>.inr (ownE_base own j (by simpa using hj)).1
        go_wp2_with fail
        go_roundw
        ·exact ⟨k,l,s'.extract n s'.size,ts++[⟨kd,s'.extract 0 n,l⟩],rfl,rfl,by omega,by omega,by rw [List.length_append,List.length_singleton];omega,by omega,by rw [tcells_append,List.length_append];exact own2,kf,Hah.out⟩
        ·show (s'.extract n s'.size).size<s'.size;omega
  ·have hz:s'.size=0:=by omega
   have hI:¬ (0:Int)<s'.size:=by omega
   have hsc:scanOf k s' l=.inl ([],l):=by cases k <;> simp [scanOf,hz]
   rw [hsc] at hres
   simp only [ahead,List.append_nil] at hres
   have Hres:=hide hres
   clear hres hsc hR
   obtain ⟨ay,cy,hy⟩:=ownE_len own
   subst hy
   have kB:=Keeps.alloc [] wr (.cells #[.string ⟨#[101,110,100]⟩,.string ⟨#[]⟩,.int .i64 l] 129)
   have ownB:=ownsRow_kept own kB (by simp)
   have hone:=tk_cell (W:=wr) (a:=.string ⟨#[101,110,100]⟩) (b:=.string ⟨#[]⟩) (c:=.int .i64 l)
   have hszB:w.heap.size≤(wr.alloc (.cells #[.string ⟨#[101,110,100]⟩,.string ⟨#[]⟩,.int .i64 l] 129)).heap.size:=by rw [sizeE_alloc];have:=kr.size;omega
   go_wp2_with (at_builtin;refine wpList_append_own_at _ rfl _ _ 125 rfl w.heap.size 129 i0 (.agg #[.string ⟨#[]⟩,.string ⟨#[]⟩,.int .i64 0]) 3 40 Tryz.underlying125 hi0 hz0 hz1 hz2 rfl (by decide) _ ts.length (tcells ts) rfl ownB ⟨wr.heap.size,0,none⟩ 1 1 [.string ⟨#[101,110,100]⟩,.string ⟨#[]⟩,.int .i64 l] rfl (by simp) hone (by simp [Value.oneCell']) (by unfold maxLen;omega) (by omega) hszB ?_)
   intro v' W2 own2 grow2 nil2 at2
   have k2:=grownBy_keeps' grow2 (Value.slice ay ts.length cy).ownBlock.toList (fun r e=>.inl (by simp [e]))
   have kf:Keeps [] w W2:=(kr.trans kB).trans_new k2 fun j hj=>.inr (ownE_base own j (by simpa using hj)).1
   go_wp2_with fail
   go_ret
   rw [←Hres.out]
   exact ⟨⟨_,rfl,by rw [tcells_append];exact own2⟩,kf⟩
end
section
open Go.RowKit
def KindP (k:ByteArray) (p:Sg→Bool):Prop:=∀ g,((kindOf g).toList == k.toList)=p g
theorem kind_dec {k:ByteArray} {p:Sg→Bool} (h:∀ g,decide (kindOf g=k)=p g):KindP k p:=fun g=>by
 rw [←h g,Bool.eq_iff_iff,str_eq,decide_eq_true_iff]
theorem kp_name:KindP ⟨#[78,65,77,69]⟩ isNameG:=kind_dec fun g=>by cases g <;> first | rfl | decide
theorem kp_int:KindP ⟨#[73,78,84]⟩ isIntG:=kind_dec fun g=>by cases g <;> first | rfl | decide
theorem kp_var:KindP ⟨#[86,65,82]⟩ isVarG:=kind_dec fun g=>by cases g <;> first | rfl | decide
theorem kp_dom:KindP ⟨#[100,111,109]⟩ isDomG:=kind_dec fun g=>by cases g <;> first | rfl | decide
theorem kp_rel:KindP ⟨#[114,101,108]⟩ isRelG:=kind_dec fun g=>by cases g <;> first | rfl | decide
theorem kp_lp:KindP ⟨#[40]⟩ isLpG:=kind_dec fun g=>by cases g <;> first | rfl | decide
theorem kp_rp:KindP ⟨#[41]⟩ isRpG:=kind_dec fun g=>by cases g <;> first | rfl | decide
theorem kp_comma:KindP ⟨#[44]⟩ isCommaG:=kind_dec fun g=>by cases g <;> first | rfl | decide
theorem kp_semi:KindP ⟨#[59]⟩ isSemiG:=kind_dec fun g=>by cases g <;> first | rfl | decide
theorem kp_dot:KindP ⟨#[46]⟩ isDotG:=kind_dec fun g=>by cases g <;> first | rfl | decide
theorem kp_bang:KindP ⟨#[33]⟩ isBangG:=kind_dec fun g=>by cases g <;> first | rfl | decide
theorem kp_arrow:KindP ⟨#[58,45]⟩ isArrowG:=kind_dec fun g=>by cases g <;> first | rfl | decide
theorem kp_fin:KindP ⟨#[101,110,100]⟩ isFinG:=kind_dec fun g=>by cases g <;> first | rfl | decide
def tokC (t:Tn):List Value:=[.string (kindOf t.g),.string (txt t.g),.int .i64 t.line]
def tokV (t:Tn):Value:=.agg #[.string (kindOf t.g),.string (txt t.g),.int .i64 t.line]
def tokCs (ts:List Tn):List Value:=ts.flatMap tokC
theorem tokCs_append (a b:List Tn):tokCs (a++b)=tokCs a++tokCs b:=by simp [tokCs]
def PTok (w:World) (g o:Nat) (us:List Tn):Prop:=∃ cs,CellsAt w g cs∧∀ (j:Nat) (t:Tn),us[j]?=some t→cs[o+j * 3]?=some (.string (kindOf t.g))∧cs[o+j * 3+1]?=some (.string (txt t.g))∧cs[o+j * 3+2]?=some (.int .i64 t.line)
theorem PTok.keeps {w w':World} {g o:Nat} {us:List Tn} {T:List Nat} (h:PTok w g o us) (k:Keeps T w w') (hg:g∉T):PTok w' g o us:=by
 obtain ⟨cs,h1,h2⟩:=h
 exact ⟨cs,h1.keeps k hg,h2⟩
theorem PTok.tail {w:World} {g o:Nat} {t:Tn} {us:List Tn} (h:PTok w g o (t :: us)):PTok w g (o+3) us:=by
 obtain ⟨cs,h1,h2⟩:=h
 refine ⟨cs,h1,fun j u hu=>?_⟩
 have:=h2 (j+1) u (by simpa using hu)
 rw [show o+(j+1) * 3=o+3+j * 3 by omega] at this
 exact this
theorem PTok.head {w:World} {g o:Nat} {t:Tn} {us:List Tn} (h:PTok w g o (t :: us)):w.cell? ⟨g,o,none⟩=some (.string (kindOf t.g))∧w.cell? ⟨g,o+1,none⟩=some (.string (txt t.g))∧w.cell? ⟨g,o+2,none⟩=some (.int .i64 t.line):=by
 obtain ⟨cs,h1,h2⟩:=h
 obtain ⟨a,b,c⟩:=h2 0 t rfl
 exact ⟨by rw [h1.cell];exact a,by rw [h1.cell];exact b,by rw [h1.cell];exact c⟩
def PAt (w:World) (b g:Nat) (us:List Tn):Prop:=∃ o c,CellsAt w b #[.slice (some ⟨g,o,none⟩) us.length c]∧us.length≤c∧PTok w g o us∧g≠b
theorem PAt.keeps {w w':World} {b g:Nat} {us:List Tn} {T:List Nat} (h:PAt w b g us) (k:Keeps T w w') (hb:b∉T) (hg:g∉T):PAt w' b g us:=by
 obtain ⟨o,c,h1,h2,h3,h4⟩:=h
 exact ⟨o,c,h1.keeps k hb,h2,h3.keeps k hg,h4⟩
theorem PAt.lt {w:World} {b g:Nat} {us:List Tn} (h:PAt w b g us):b<w.heap.size∧g<w.heap.size:=by
 obtain ⟨o,c,h1,h2,⟨cs,h3,_⟩,h4⟩:=h
 exact ⟨h1.lt,h3.lt⟩
theorem sees_calls {w:World} {b g:Nat} {k:ByteArray} {p:Sg→Bool} (hk:KindP k p) {us:List Tn} (h:PAt w b g us) (hne:us≠[]) (hl:us.length≤1000000):Calls Tryz.prog 198 #[.pointer (some ⟨b,0,none⟩),.string k] w fun e w'=>e=.returned (.bool (sees p us))∧w' = w:=by
 cases us with
 | nil=>exact absurd rfl hne
 | cons t us=>
  obtain ⟨o,c,hb,hc,ht,hg⟩:=h
  obtain ⟨c0,c1,c2⟩:=ht.head
  have hcell:=hb.cell 0
  have hlI:(0:Int)<((t :: us).length:Nat):=by simp
  have hs:sees p (t :: us)=((kindOf t.g).toList == k.toList):=(hk t.g).symm
  rw [hs]
  generalize (t :: us).length=n at *
  clear hs hb ht
  go_enter Tryz.func198,Tryz.ntmps198
  go_wp2_with fail
  go_ret
  exact ⟨rfl,rfl⟩
def TakeTo (b g:Nat) (r:Except Nat (Tn×List Tn)) (e:Ending) (w':World):Prop:=match r with
 | .ok (t,us)=>e=.returned (tokV t)∧PAt w' b g us
 | .error l=>e=gaveUp 5 l
theorem size_set (w:World) (a:Addr) (v:Value):(w.setCell a v).heap.size=w.heap.size:=by simp [World.setCell]
theorem ret_cell {fn:Func} {p:Tmp} {ty:TypeId} (h:fn.results=#[.cell p ty]) (tmps:Array Value) {w:World} {g:Nat} {cs:Array Value} {fs:Array Field} (hc:CellsAt w g cs) (hu:Tryz.prog.underlying ty=some (.struct fs)) (hi:(Tryz.prog.info? ty).map (·.size)=some cs.size) (hp:tmps.getD p undef=.pointer (some ⟨g,0,none⟩)):(results fn tmps).run Tryz.prog w=.ok (.agg cs) w:=by
 obtain ⟨t,ht⟩:=hc
 exact results_cell_row h tmps w g t cs (0,0) _ hp ht hu rfl hi
theorem size129:(Tryz.prog.info? 129).map (·.size)=some 3:=by kernel_rfl
theorem take_calls {w:World} {b g:Nat} {k:ByteArray} {p:Sg→Bool} (hk:KindP k p) (hf:NoFin p) {us:List Tn} (h:PAt w b g us) (he:Ended us) (hl:us.length≤1000000):Calls Tryz.prog 250 #[.pointer (some ⟨b,0,none⟩),.string k] w fun e w'=>TakeTo b g (takeG p us) e w'∧Keeps [b] w w':=by
 cases us with
 | nil=>obtain ⟨_,_,h⟩:=he.cons;cases h
 | cons t us=>
  obtain ⟨o,c,hb,hc,ht,hg⟩:=h
  obtain ⟨c0,c1,c2⟩:=ht.head
  have hs:=hk t.g
  have k1:=Keeps.alloc [] w (.cells #[.string ⟨#[]⟩,.string ⟨#[]⟩,.int .i64 0] 129)
  have hb1:=hb.keeps k1 (by simp)
  have ht1:=ht.keeps k1 (by simp)
  obtain ⟨d0,d1,d2⟩:=ht1.head
  have k2:=k1.trans (Keeps.alloc [] (w.alloc (.cells #[.string ⟨#[]⟩,.string ⟨#[]⟩,.int .i64 0] 129)) (.cells #[.string (kindOf t.g),.string (txt t.g),.int .i64 t.line] 129))
  have hb2:=hb.keeps k2 (by simp)
  have f2:=hb2.frozen 0
  have hcell1:=hb1.cell 0
  have hcell2:=hb2.cell 0
  have hlI:(0:Int)<((t :: us).length:Nat):=by simp
  have hl1:(1:Int)≤((t :: us).length:Nat):=by simp;omega
  have hnl:us.length=(t :: us).length - 1:=by simp
  generalize hn:(t :: us).length=n at *
  cases hp:p t.g with
  | false=>
   rw [hp] at hs
   have hg5:=hide (fun w=>giveUp_calls (w:=w) 5 t.line)
   have hr:takeG p (t :: us)=.error t.line:=by simp only [takeG];rw [if_neg (by rw [hp];decide)]
   rw [hr]
   have k3:=hide (k2.mono (T':=[b]) (by simp))
   clear k2 k1 hr ht ht1 hb hb1 hb2 hn he hnl c0 c1 c2 hk
   go_enter Tryz.func250,Tryz.ntmps250
   go_wp2_with fail
   refine (hg5.out _).mono ?_
   rintro e w1 ⟨rfl,rfl⟩
   exact ⟨rfl,rfl,k3.out⟩
  | true=>
   rw [hp] at hs
   have hr:takeG p (t :: us)=.ok (t,us):=by simp only [takeG];rw [if_pos hp]
   rw [hr]
   have hblt:=hb.lt
   have hu2:us≠[]:=by obtain ⟨_,_,h⟩:=(he.tail (hf.no hp)).cons;rw [h];simp
   have hn2:2≤n:=by rw [←hn];cases us with | nil=>exact absurd rfl hu2 | cons _ _=>simp
   have hc1:¬ c=1:=by omega
   have hglt:g<w.heap.size:=by obtain ⟨cs,h,_⟩:=ht;exact h.lt
   have Hb:=hide hb
   have Ht:=hide ht
   have Hnl:=hide hnl
   clear ht ht1 hb hb1 hb2 hn he hnl c0 c1 c2 hk k1 k2 hr hp
   go_enter Tryz.func250,Tryz.ntmps250
   go_wp2_with fail
   have hA:=((CellsAt.new (w.setCell ⟨b,0,none⟩ (.slice (some ⟨g,o+3,none⟩) (n - 1) (c - 1))) #[.string (kindOf t.g),.string (txt t.g),.int .i64 t.line] 129).keeps (Keeps.alloc [] _ (.cells #[.string (kindOf t.g),.string (txt t.g),.int .i64 t.line] 129)) (by simp))
   rw [size_set] at hA
   have kF:=(Keeps.setCell w ⟨b,0,none⟩ (.slice (some ⟨g,o+3,none⟩) (n - 1) (c - 1))).trans (((Keeps.alloc [b] (w.setCell ⟨b,0,none⟩ (.slice (some ⟨g,o+3,none⟩) (n - 1) (c - 1))) (.cells #[.string (kindOf t.g),.string (txt t.g),.int .i64 t.line] 129))).trans (Keeps.alloc [b] ((w.setCell ⟨b,0,none⟩ (.slice (some ⟨g,o+3,none⟩) (n - 1) (c - 1))).alloc (.cells #[.string (kindOf t.g),.string (txt t.g),.int .i64 t.line] 129)) (.cells #[.string (kindOf t.g),.string (txt t.g),.int .i64 t.line] 129)))
   have hb3:=((Hb.out.setCell 0 (.slice (some ⟨g,o+3,none⟩) (n - 1) (c - 1))).keeps (Keeps.alloc [] _ (.cells #[.string (kindOf t.g),.string (txt t.g),.int .i64 t.line] 129)) (by simp)).keeps (Keeps.alloc [] _ (.cells #[.string (kindOf t.g),.string (txt t.g),.int .i64 t.line] 129)) (by simp)
   refine bodyPost_ret (v:=tokV t) (ret_cell (p:=4) (ty:=129) (by kernel_rfl) _ hA Tryz.underlying129 size129 rfl) rfl ⟨⟨rfl,o+3,c - 1,by rw [Hnl.out];exact hb3,by rw [Hnl.out];omega,Ht.out.tail.keeps kF (by simp;exact hg),hg⟩,kF⟩
end
section
open Go.RowKit
structure Res3 (w:World) (r:Nat) (a0 a1 a2 x0 x1 x2:Value):Prop where
 c0:w.cell? ⟨r,0,none⟩=some a0
 f0:w.frozen? ⟨r,0,none⟩=false
 c1:(w.setCell ⟨r,0,none⟩ x0).cell? ⟨r,1,none⟩=some a1
 f1:(w.setCell ⟨r,0,none⟩ x0).frozen? ⟨r,1,none⟩=false
 c2:((w.setCell ⟨r,0,none⟩ x0).setCell ⟨r,1,none⟩ x1).cell? ⟨r,2,none⟩=some a2
 f2:((w.setCell ⟨r,0,none⟩ x0).setCell ⟨r,1,none⟩ x1).frozen? ⟨r,2,none⟩=false
 at_:CellsAt (((w.setCell ⟨r,0,none⟩ x0).setCell ⟨r,1,none⟩ x1).setCell ⟨r,2,none⟩ x2) r #[x0,x1,x2]
 keep:Keeps [r] w (((w.setCell ⟨r,0,none⟩ x0).setCell ⟨r,1,none⟩ x1).setCell ⟨r,2,none⟩ x2)
theorem res3 {w:World} {r:Nat} {a0 a1 a2:Value} (h:CellsAt w r #[a0,a1,a2]) (x0 x1 x2:Value):Res3 w r a0 a1 a2 x0 x1 x2:=by
 have h1:=h.setCell 0 x0
 have h2:=h1.setCell 1 x1
 have h3:=h2.setCell 2 x2
 exact ⟨h.cell 0,h.frozen 0,h1.cell 1,h1.frozen 1,h2.cell 2,h2.frozen 2,h3,(((Keeps.setCell w ⟨r,0,none⟩ x0).trans (Keeps.setCell (w.setCell ⟨r,0,none⟩ x0) ⟨r,1,none⟩ x1)).trans (Keeps.setCell ((w.setCell ⟨r,0,none⟩ x0).setCell ⟨r,1,none⟩ x1) ⟨r,2,none⟩ x2))⟩
structure Res4 (w:World) (r:Nat) (a0 a1 a2 a3 x0 x1 x2 x3:Value):Prop where
 c0:w.cell? ⟨r,0,none⟩=some a0
 f0:w.frozen? ⟨r,0,none⟩=false
 c1:(w.setCell ⟨r,0,none⟩ x0).cell? ⟨r,1,none⟩=some a1
 f1:(w.setCell ⟨r,0,none⟩ x0).frozen? ⟨r,1,none⟩=false
 c2:((w.setCell ⟨r,0,none⟩ x0).setCell ⟨r,1,none⟩ x1).cell? ⟨r,2,none⟩=some a2
 f2:((w.setCell ⟨r,0,none⟩ x0).setCell ⟨r,1,none⟩ x1).frozen? ⟨r,2,none⟩=false
 c3:(((w.setCell ⟨r,0,none⟩ x0).setCell ⟨r,1,none⟩ x1).setCell ⟨r,2,none⟩ x2).cell? ⟨r,3,none⟩=some a3
 f3:(((w.setCell ⟨r,0,none⟩ x0).setCell ⟨r,1,none⟩ x1).setCell ⟨r,2,none⟩ x2).frozen? ⟨r,3,none⟩=false
 at_:CellsAt ((((w.setCell ⟨r,0,none⟩ x0).setCell ⟨r,1,none⟩ x1).setCell ⟨r,2,none⟩ x2).setCell ⟨r,3,none⟩ x3) r #[x0,x1,x2,x3]
 keep:Keeps [r] w ((((w.setCell ⟨r,0,none⟩ x0).setCell ⟨r,1,none⟩ x1).setCell ⟨r,2,none⟩ x2).setCell ⟨r,3,none⟩ x3)
theorem res4 {w:World} {r:Nat} {a0 a1 a2 a3:Value} (h:CellsAt w r #[a0,a1,a2,a3]) (x0 x1 x2 x3:Value):Res4 w r a0 a1 a2 a3 x0 x1 x2 x3:=by
 have h1:=h.setCell 0 x0
 have h2:=h1.setCell 1 x1
 have h3:=h2.setCell 2 x2
 have h4:=h3.setCell 3 x3
 exact ⟨h.cell 0,h.frozen 0,h1.cell 1,h1.frozen 1,h2.cell 2,h2.frozen 2,h3.cell 3,h3.frozen 3,h4,((((Keeps.setCell w ⟨r,0,none⟩ x0).trans (Keeps.setCell (w.setCell ⟨r,0,none⟩ x0) ⟨r,1,none⟩ x1)).trans (Keeps.setCell ((w.setCell ⟨r,0,none⟩ x0).setCell ⟨r,1,none⟩ x1) ⟨r,2,none⟩ x2)).trans (Keeps.setCell (((w.setCell ⟨r,0,none⟩ x0).setCell ⟨r,1,none⟩ x1).setCell ⟨r,2,none⟩ x2) ⟨r,3,none⟩ x3))⟩
structure Res5 (w:World) (r:Nat) (a0 a1 a2 a3 a4 x0 x1 x2 x3 x4:Value):Prop where
 c0:w.cell? ⟨r,0,none⟩=some a0
 f0:w.frozen? ⟨r,0,none⟩=false
 c1:(w.setCell ⟨r,0,none⟩ x0).cell? ⟨r,1,none⟩=some a1
 f1:(w.setCell ⟨r,0,none⟩ x0).frozen? ⟨r,1,none⟩=false
 c2:((w.setCell ⟨r,0,none⟩ x0).setCell ⟨r,1,none⟩ x1).cell? ⟨r,2,none⟩=some a2
 f2:((w.setCell ⟨r,0,none⟩ x0).setCell ⟨r,1,none⟩ x1).frozen? ⟨r,2,none⟩=false
 c3:(((w.setCell ⟨r,0,none⟩ x0).setCell ⟨r,1,none⟩ x1).setCell ⟨r,2,none⟩ x2).cell? ⟨r,3,none⟩=some a3
 f3:(((w.setCell ⟨r,0,none⟩ x0).setCell ⟨r,1,none⟩ x1).setCell ⟨r,2,none⟩ x2).frozen? ⟨r,3,none⟩=false
 c4:((((w.setCell ⟨r,0,none⟩ x0).setCell ⟨r,1,none⟩ x1).setCell ⟨r,2,none⟩ x2).setCell ⟨r,3,none⟩ x3).cell? ⟨r,4,none⟩=some a4
 f4:((((w.setCell ⟨r,0,none⟩ x0).setCell ⟨r,1,none⟩ x1).setCell ⟨r,2,none⟩ x2).setCell ⟨r,3,none⟩ x3).frozen? ⟨r,4,none⟩=false
 at_:CellsAt (((((w.setCell ⟨r,0,none⟩ x0).setCell ⟨r,1,none⟩ x1).setCell ⟨r,2,none⟩ x2).setCell ⟨r,3,none⟩ x3).setCell ⟨r,4,none⟩ x4) r #[x0,x1,x2,x3,x4]
 keep:Keeps [r] w (((((w.setCell ⟨r,0,none⟩ x0).setCell ⟨r,1,none⟩ x1).setCell ⟨r,2,none⟩ x2).setCell ⟨r,3,none⟩ x3).setCell ⟨r,4,none⟩ x4)
theorem res5 {w:World} {r:Nat} {a0 a1 a2 a3 a4:Value} (h:CellsAt w r #[a0,a1,a2,a3,a4]) (x0 x1 x2 x3 x4:Value):Res5 w r a0 a1 a2 a3 a4 x0 x1 x2 x3 x4:=by
 have h1:=h.setCell 0 x0
 have h2:=h1.setCell 1 x1
 have h3:=h2.setCell 2 x2
 have h4:=h3.setCell 3 x3
 have h5:=h4.setCell 4 x4
 exact ⟨h.cell 0,h.frozen 0,h1.cell 1,h1.frozen 1,h2.cell 2,h2.frozen 2,h3.cell 3,h3.frozen 3,h4.cell 4,h4.frozen 4,h5,(((((Keeps.setCell w ⟨r,0,none⟩ x0).trans (Keeps.setCell (w.setCell ⟨r,0,none⟩ x0) ⟨r,1,none⟩ x1)).trans (Keeps.setCell ((w.setCell ⟨r,0,none⟩ x0).setCell ⟨r,1,none⟩ x1) ⟨r,2,none⟩ x2)).trans (Keeps.setCell (((w.setCell ⟨r,0,none⟩ x0).setCell ⟨r,1,none⟩ x1).setCell ⟨r,2,none⟩ x2) ⟨r,3,none⟩ x3)).trans (Keeps.setCell ((((w.setCell ⟨r,0,none⟩ x0).setCell ⟨r,1,none⟩ x1).setCell ⟨r,2,none⟩ x2).setCell ⟨r,3,none⟩ x3) ⟨r,4,none⟩ x4))⟩
theorem sees_take_ok {p:Sg→Bool} {us:List Tn} (h:sees p us=true):∃ t,takeG p us=.ok (t,us.tail):=by
 obtain ⟨t,_,_,h3⟩:=takeG_sees h
 exact ⟨t,h3⟩
theorem takes_calls {w:World} {b g:Nat} {k:ByteArray} {p:Sg→Bool} (hk:KindP k p) (hf:NoFin p) {us:List Tn} (h:PAt w b g us) (he:Ended us) (hl:us.length≤1000000):Calls Tryz.prog 249 #[.pointer (some ⟨b,0,none⟩),.string k] w fun e w'=>e=.returned (.bool (sees p us))∧PAt w' b g (if sees p us then us.tail else us)∧Keeps [b] w w':=by
 have hne:us≠[]:=by obtain ⟨_,_,h⟩:=he.cons;rw [h];simp
 have h1:=hide (sees_calls hk h hne hl)
 have h2:=hide (take_calls hk hf h he hl)
 cases hs:sees p us with
 | true=>
  obtain ⟨t,ht⟩:=sees_take_ok hs
  rw [hs] at h1
  rw [ht] at h2
  clear h
  go_enter Tryz.func249,Tryz.ntmps249
  go_wp2_with fail
  refine h1.out.mono ?_
  rintro e w1 ⟨rfl,rfl⟩
  go_wp2_with fail
  refine h2.out.mono ?_
  rintro e w1 ⟨⟨rfl,hp⟩,k1⟩
  go_wp2_with fail
  go_ret
  exact ⟨rfl,hp,k1⟩
 | false=>
  rw [hs] at h1
  have hP:=hide h
  clear h h2
  go_enter Tryz.func249,Tryz.ntmps249
  go_wp2_with fail
  refine h1.out.mono ?_
  rintro e w1 ⟨rfl,rfl⟩
  go_wp2_with fail
  go_ret
  exact ⟨rfl,hP.out,Keeps.refl _ _⟩
theorem alloc_at (w:World) {b g:Nat} {us:List Tn} (h:PAt w b g us) (o:Obj):PAt (w.alloc o) b g us:=h.keeps (Keeps.alloc [] w o) (by simp) (by simp)
theorem column_calls {w:World} {b g:Nat} {us:List Tn} (h:PAt w b g us) (he:Ended us) (hl:us.length≤1000000):Calls Tryz.prog 252 #[.pointer (some ⟨b,0,none⟩)] w fun e w'=>TakeTo b g (takeG isNameG us) e w'∧Keeps [b] w w':=by
 have h2:=hide (take_calls kp_name rfl (alloc_at w h (.cells #[.string ⟨#[]⟩,.string ⟨#[]⟩,.int .i64 0] 129)) he hl)
 have kA:=Keeps.alloc [b] w (.cells #[.string ⟨#[]⟩,.string ⟨#[]⟩,.int .i64 0] 129)
 have hA:=CellsAt.new w #[.string ⟨#[]⟩,.string ⟨#[]⟩,.int .i64 0] 129
 obtain ⟨hblt,hglt⟩:=h.lt
 cases hr:takeG isNameG us with
 | error l=>
  rw [hr] at h2
  go_enter Tryz.func252,Tryz.ntmps252
  go_wp2_with fail
  refine h2.out.mono ?_
  rintro e w1 ⟨rfl,k1⟩
  exact ⟨rfl,rfl,kA.trans k1⟩
 | ok q=>
  obtain ⟨t,vs⟩:=q
  rw [hr] at h2
  go_enter Tryz.func252,Tryz.ntmps252
  go_wp2_with fail
  refine h2.out.mono ?_
  rintro e w1 ⟨⟨rfl,hp⟩,k1⟩
  have hR:=res3 (hA.keeps k1 (by simp;omega)) (.string (kindOf t.g)) (.string (txt t.g)) (.int .i64 t.line)
  obtain ⟨c0,f0,c1,f1,c2,f2,hat,hk⟩:=hR
  have Hat:=hide hat
  have Hk:=hide hk
  clear hat hk
  unfold tokV
  go_wp2_with fail
  refine bodyPost_ret (v:=tokV t) (ret_cell (p:=2) (ty:=129) (by kernel_rfl) _ Hat.out Tryz.underlying129 size129 rfl) rfl ⟨⟨rfl,hp.keeps Hk.out (by simp;omega) (by simp;omega)⟩,(kA.trans k1).trans_new Hk.out (by simp)⟩
theorem term_take {us:List Tn}:takeG isTermG us=if sees isVarG us then takeG isVarG us else takeG isIntG us:=by
 cases us with
 | nil=>rfl
 | cons t us=>
  simp only [takeG,sees]
  obtain ⟨g,l⟩:=t
  cases g <;> simp [isTermG,isVarG,isIntG]
theorem term_calls {w:World} {b g:Nat} {us:List Tn} (h:PAt w b g us) (he:Ended us) (hl:us.length≤1000000):Calls Tryz.prog 298 #[.pointer (some ⟨b,0,none⟩)] w fun e w'=>TakeTo b g (takeG isTermG us) e w'∧Keeps [b] w w':=by
 have hne:us≠[]:=by obtain ⟨_,_,h⟩:=he.cons;rw [h];simp
 have h1:=hide (sees_calls kp_var (alloc_at w h (.cells #[.string ⟨#[]⟩,.string ⟨#[]⟩,.int .i64 0] 129)) hne hl)
 have h2:=hide (take_calls kp_var rfl (alloc_at w h (.cells #[.string ⟨#[]⟩,.string ⟨#[]⟩,.int .i64 0] 129)) he hl)
 have h3:=hide (take_calls kp_int rfl (alloc_at w h (.cells #[.string ⟨#[]⟩,.string ⟨#[]⟩,.int .i64 0] 129)) he hl)
 have kA:=Keeps.alloc [b] w (.cells #[.string ⟨#[]⟩,.string ⟨#[]⟩,.int .i64 0] 129)
 have hA:=CellsAt.new w #[.string ⟨#[]⟩,.string ⟨#[]⟩,.int .i64 0] 129
 obtain ⟨hblt,hglt⟩:=h.lt
 clear h
 rw [term_take]
 cases hs:sees isVarG us with
 | true=>
  rw [if_pos rfl]
  rw [hs] at h1
  cases hr:takeG isVarG us with
  | error l=>
   rw [hr] at h2
   go_enter Tryz.func298,Tryz.ntmps298
   go_wp2_with fail
   refine h1.out.mono ?_
   rintro e w1 ⟨rfl,rfl⟩
   go_wp2_with fail
   refine h2.out.mono ?_
   rintro e w1 ⟨rfl,k1⟩
   exact ⟨rfl,rfl,kA.trans k1⟩
  | ok q=>
   obtain ⟨t,vs⟩:=q
   rw [hr] at h2
   go_enter Tryz.func298,Tryz.ntmps298
   go_wp2_with fail
   refine h1.out.mono ?_
   rintro e w1 ⟨rfl,rfl⟩
   go_wp2_with fail
   refine h2.out.mono ?_
   rintro e w1 ⟨⟨rfl,hp⟩,k1⟩
   have hR:=res3 (hA.keeps k1 (by simp;omega)) (.string (kindOf t.g)) (.string (txt t.g)) (.int .i64 t.line)
   obtain ⟨c0,f0,c1,f1,c2,f2,hat,hk⟩:=hR
   have Hat:=hide hat
   have Hk:=hide hk
   clear hat hk
   unfold tokV
   go_wp2_with fail
   refine bodyPost_ret (v:=tokV t) (ret_cell (p:=2) (ty:=129) (by kernel_rfl) _ Hat.out Tryz.underlying129 size129 rfl) rfl ⟨⟨rfl,hp.keeps Hk.out (by simp;omega) (by simp;omega)⟩,(kA.trans k1).trans_new Hk.out (by simp)⟩
 | false=>
  rw [if_neg (by decide)]
  rw [hs] at h1
  cases hr:takeG isIntG us with
  | error l=>
   rw [hr] at h3
   go_enter Tryz.func298,Tryz.ntmps298
   go_wp2_with fail
   refine h1.out.mono ?_
   rintro e w1 ⟨rfl,rfl⟩
   go_wp2_with fail
   refine h3.out.mono ?_
   rintro e w1 ⟨rfl,k1⟩
   exact ⟨rfl,rfl,kA.trans k1⟩
  | ok q=>
   obtain ⟨t,vs⟩:=q
   rw [hr] at h3
   go_enter Tryz.func298,Tryz.ntmps298
   go_wp2_with fail
   refine h1.out.mono ?_
   rintro e w1 ⟨rfl,rfl⟩
   go_wp2_with fail
   refine h3.out.mono ?_
   rintro e w1 ⟨⟨rfl,hp⟩,k1⟩
   have hR:=res3 (hA.keeps k1 (by simp;omega)) (.string (kindOf t.g)) (.string (txt t.g)) (.int .i64 t.line)
   obtain ⟨c0,f0,c1,f1,c2,f2,hat,hk⟩:=hR
   have Hat:=hide hat
   have Hk:=hide hk
   clear hat hk
   unfold tokV
   go_wp2_with fail
   refine bodyPost_ret (v:=tokV t) (ret_cell (p:=2) (ty:=129) (by kernel_rfl) _ Hat.out Tryz.underlying129 size129 rfl) rfl ⟨⟨rfl,hp.keeps Hk.out (by simp;omega) (by simp;omega)⟩,(kA.trans k1).trans_new Hk.out (by simp)⟩
end
end Go.Proofs.YtgjomknpjigkhaaGreatDoor
