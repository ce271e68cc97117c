import Derived.Test.YtgjomknpjigkhaaGreatDoorS32
namespace Go.Proofs.YtgjomknpjigkhaaGreatDoor
set_option maxRecDepth 100000
set_option maxHeartbeats 4000000
section
open Go.RowKit
theorem hang1_calls {w:World} {g C n cc:Nat} {vals:List Nat} (hg:CellsAt w g (natC vals)) (hC:CellsAt w C #[.slice (some ⟨g,0,none⟩) n cc]) (hn:vals.length=n) (v:Nat) (l:AtomM×Bool) (va:Option Addr) (vn vc:Nat) (hl:l.1.rel<n) (hv:v<64) (hvl:vals.getD l.1.rel 0<64):Calls Tryz.prog 256 #[.int .i64 (v:Int),.agg #[.int .i64 (l.1.rel:Int),.slice va vn vc,.bool l.2],.pointer (some ⟨C,0,none⟩)] w fun e w'=>e=.returned (.int .i64 ((hangG vals v l:Nat):Int))∧Keeps [] w w':=by
 have hgl:=hg.lt
 have hCl:=hC.lt
 have c0:=hC.cell 0
 have g0:w.cell? ⟨g,l.1.rel,none⟩=some (.int .i64 ((vals.getD l.1.rel 0:Nat):Int)):=by rw [hg.cell];exact natC_at (by omega)
 have hor:=or_val (a:=v) (b:=vals.getD l.1.rel 0) (by omega) (by omega)
 have hlI:(l.1.rel:Int)<n:=by omega
 have hG:hangG vals v l=v ||| vals.getD l.1.rel 0:=rfl
 rw [hG]
 generalize vals.getD l.1.rel 0=M at *
 have kA:=Keeps.alloc [] w (.cells #[.int .i64 (l.1.rel:Int),.slice va vn vc,.bool l.2] 279)
 clear hg hC hG
 go_enter Tryz.func256,Tryz.ntmps256
 go_wp2_with fail
 go_ret
 exact ⟨rfl,kA⟩
theorem run_fn {o : Oper} {a : Act} {w : World} (f : Nat) (x : Operand) (xs : Array Operand) (tys : Array TypeId) (hop : o.op = .call { callee := .value x, args := xs, argTypes := tys }) (caps : List Value) (hcal : a.eval x = .func (.func f) #[] caps.toArray) (fn : Func) (hf : Tryz.prog.funcs[f]? = some fn) (hname : (fn.name == "runtime.NumGoroutine") = false) (hbody : fn.body.isNone = false) (vs : List Value) (hx : xs.toList.map a.eval ++ caps = vs) : (execOp a.eval o).run Tryz.prog w = .ok (.enter f vs.toArray) w := by
 have hx':xs.map a.eval++caps.toArray=vs.toArray:=by subst hx;apply Array.ext';simp
 have hn' : ¬ fn.name = "runtime.NumGoroutine" := by simpa using hname
 have hb':¬ fn.body=none:=by intro e;rw [e] at hbody;cases hbody
 simp only [execOp,hop,resolve,hcal,Deferred.ofValue,invoke,callFunc]
 simp [hf,hx']
 rw [if_neg hn',if_neg hb']
theorem step_fn {ops : Array Oper} {o : Oper} {a : Act} {w : World} {K : Act → World → Prop} {Q : Exit → Act → World → Prop} {E : Prop} (hg : o.guard = none) (f : Nat) (x : Operand) (xs : Array Operand) (tys : Array TypeId) (hop : o.op = .call { callee := .value x, args := xs, argTypes := tys }) (caps : List Value) (hcal : a.eval x = .func (.func f) #[] caps.toArray) (fn : Func) (hf : Tryz.prog.funcs[f]? = some fn) (hname : (fn.name == "runtime.NumGoroutine") = false) (hbody : fn.body.isNone = false) (vs : List Value) (hx : xs.toList.map a.eval ++ caps = vs)
  (h:Calls Tryz.prog f vs.toArray w fun
   | .returned v,w''=>K (a.put o.dst v) w''
   | .panicked chain,w''=>Q (.panic chain) a w''
   | .outgrown,_=>LetsOut Q):if Region.wanted o (yielded ops a.tmps)=true then Oper.wp Tryz.prog o a w K Q else E:=by
 have hw:Region.wanted o (yielded ops a.tmps)=true:=by simp [Region.wanted,hg]
 rw [if_pos hw]
 unfold Oper.wp
 rw [run_fn f x xs tys hop caps hcal fn hf hname hbody vs hx]
 exact h
structure Spr (w wr:World) (g C n cc:Nat) (Inv:List Nat→Prop) (vals:List Nat):Prop where
 row:CellsAt wr g (natC vals)
 cap:CellsAt wr C #[.slice (some ⟨g,0,none⟩) n cc]
 inv:Inv vals
 keep:Keeps [g] w wr
theorem Spr.go {w wr w':World} {g C n cc:Nat} {Inv:List Nat→Prop} {vals:List Nat} (h:Spr w wr g C n cc Inv vals) (k:Keeps [] wr w'):Spr w w' g C n cc Inv vals:=⟨h.row.keeps k (by simp),h.cap.keeps k (by simp),h.inv,h.keep.trans (k.mono (by simp))⟩
theorem Spr.put {w wr:World} {g C n cc:Nat} {Inv:List Nat→Prop} {vals:List Nat} (h:Spr w wr g C n cc Inv vals) (hgC:C≠g) {i x:Nat} (hI:Inv (vals.set i x)):Spr w (wr.setCell ⟨g,i,none⟩ (.int .i64 (x:Int))) g C n cc Inv (vals.set i x):=by
 have h1:=h.row.setCell i (.int .i64 (x:Int))
 rw [natC_set] at h1
 exact ⟨h1,h.cap.keeps (Keeps.setCell wr ⟨g,i,none⟩ _) (by simpa using hgC),hI,h.keep.trans (Keeps.setCell wr ⟨g,i,none⟩ _)⟩
theorem keepsG {w0 w wr:World} {g:Nat} (k0:Keeps [] w0 w) (hg:w0.heap.size≤g) (k:Keeps [g] w wr):Keeps [] w0 wr:=k0.trans_new k (fun j hj=>.inr (by have e:j=g:=(by simpa using hj);omega))
def tv:Value→Nat | .bool true=>1 | _=>0
def doneC (cs:List ClauseM):Nat→AtomM×Bool→Prop:=fun h l=>∃ c∈cs,c.head.rel=h∧l∈c.lits
def doneL (cs:List ClauseM) (r:Nat) (ls:List (AtomM×Bool)):Nat→AtomM×Bool→Prop:=fun h l=>doneC cs h l∨(h=r∧l∈ls)
theorem done_start {cs:List ClauseM} {r:Nat} {ls:List (AtomM×Bool)} {h:Nat} {l:AtomM×Bool} (hd:doneL cs r (ls.take 0) h l):doneC cs h l:=by
 rcases hd with q | ⟨_,q⟩
 ·exact q
 ·simp at q
theorem done_next {cs:List ClauseM} {c:ClauseM} {h:Nat} {l:AtomM×Bool} (hd:doneC (cs++[c]) h l):doneL cs c.head.rel (c.lits.take c.lits.length) h l:=by
 obtain ⟨c',hc,h1,h2⟩:=hd
 rcases List.mem_append.1 hc with q | q
 ·exact .inl ⟨c',q,h1,h2⟩
 ·have e:c' = c:=by simpa using q
  subst e
  exact .inr ⟨h1.symm,by rw [List.take_length];exact h2⟩
set_option maxHeartbeats 16000000 in
theorem spread256_calls {w0 w:World} {mb B g C n cc U:Nat} {m:Mean} {Inv:List Nat→Prop} (hm:MeanAt w0 mb B m) (k0:Keeps [] w0 w) (hg0:w0.heap.size≤g) (hgC:C≠g) (H:GrowOk m.clauses hangG U n Inv) (h64:∀ vals,Inv vals→∀ i,vals.getD i 0<64) (hl:m.clauses.length≤52) (hl4:∀ c∈m.clauses,c.lits.length≤4) {vals:List Nat} (h:Spr w w g C n cc Inv vals):Calls Tryz.prog 255 #[.pointer (some ⟨B,0,none⟩),.slice (some ⟨g,0,none⟩) n cc,.func (.func 256) #[] #[.pointer (some ⟨C,0,none⟩)]] w fun e w'=>e=.returned (.tuple #[])∧∃ vals',Spr w w' g C n cc Inv vals'∧StableG hangG m.clauses vals':=by
 obtain ⟨a,ccl,la,lc,hBl,hpos,hcl⟩:=mean_clause hm
 have hsz0:=k0.size
 have Hcl:=hide (fun (W:World) (k:Keeps [] w0 W)=>hcl k)
 have Hpos:=hide hpos
 have Hh:=hide h
 have HH:=hide H
 have H64:=hide h64
 have Hl4:=hide hl4
 have hglt:=h.row.lt
 have hClt:=h.cap.lt
 clear hcl hpos hm h H h64 hl4
 go_enter Tryz.func255,Tryz.ntmps255
 go_wp2_with fail
 go_loopw [6] (fun y wr=>∃ (b:Bool) (vs:List Nat),y=.bool b∧Spr w wr g C n cc Inv vs∧(b=false→StableG hangG m.clauses vs)) (fun y wr=>2 * (n * U - sumAt wr g)+tv y)
 case atStart=>exact ⟨true,vals,rfl,Hh.out,by simp⟩
 case round=>
  obtain ⟨b,vs,rfl,hS,hst⟩:=hrel
  have HS:=hide hS
  clear hS Hh
  cases b with
  | false=>
   have Hst:=hide (hst rfl)
   clear hst
   go_wp2_with fail
   go_end0
   exact ⟨rfl,vs,HS.out,Hst.out⟩
  | true=>
   clear hst
   have kr:=keepsG k0 hg0 HS.out.keep
   obtain ⟨b6,_⟩:=Hcl.out wr kr
   have hszr:=HS.out.keep.size
   go_wp2_with fail
   go_loopw [6,18] (fun y x wr=>∃ (i:Nat) (b:Bool) (v2:List Nat),y=.bool b∧x=.int .i64 i∧i≤m.clauses.length∧Spr w wr g C n cc Inv v2∧PassSt hangG vs v2 b (doneC (m.clauses.take i))) (fun _ x _=>m.clauses.length - (intOf x).toNat)
   case atStart=>exact ⟨0,false,vs,rfl,rfl,by omega,HS.out,.inr ⟨rfl,rfl,fun h l hd=>by obtain ⟨c,hc,_⟩:=hd;simp at hc⟩⟩
   case round=>
    clear b6 kr
    obtain ⟨i,b,v2,rfl,rfl,hil,hS2,hP2⟩:=hrel
    have kr2:=keepsG k0 hg0 hS2.keep
    have hsz2:=hS2.keep.size
    have HS2:=hide hS2
    have HP2:=hide hP2
    clear hS2 hP2
    by_cases hlt:i<m.clauses.length
    ·obtain ⟨c,hc⟩:∃ c,m.clauses[i]?=some c:=⟨_,List.getElem?_eq_getElem hlt⟩
     have hcm:=List.mem_of_getElem? hc
     obtain ⟨gk,g2,hgk,hgl,hg2,hg2l⟩:=Hpos.out c hcm
     subst hgk
     obtain ⟨_,_,_,hcells⟩:=Hcl.out _ kr2
     obtain ⟨ha,hc',va,vc,ls,c0,c1,c2,hrow,hlrow,hlits⟩:=hcells i gk c hc rfl
     have hiI:(i:Int)<m.clauses.length:=by omega
     have Hlr:=hide hlrow
     have Hlits:=hide hlits
     have Htake:Hid (m.clauses.take (i+1)=m.clauses.take i++[c]):=hide (by rw [List.take_add_one,hc];rfl)
     have h4:=Hl4.out c hcm
     have Hcm:=hide hcm
     have Hrl:=hide (HH.out.rels c hcm)
     have kK:=Keeps.alloc [] wr (.cells #[.int .i64 (c.head.rel:Int),.slice ha c.head.terms.length hc',.slice va c.lits.length vc] 154)
     have hK:=CellsAt.new wr #[.int .i64 (c.head.rel:Int),.slice ha c.head.terms.length hc',.slice va c.lits.length vc] 154
     have e2:=hK.cell 2
     have HK:=hide hK
     have hcb:∀ j,j<w.heap.size→j≠wr.heap.size:=fun j hj=>by omega
     have hcbg:=hcb g hglt
     have hcbC:=hcb C hClt
     clear hcells hrow hlrow hlits hc hcm hK hcb
     generalize hcbn:wr.heap.size=cb at *
     go_wp2_with fail
     go_loopw [6,25] (fun y x wr=>∃ (j:Nat) (b:Bool) (v3:List Nat),y=.bool b∧x=.int .i64 j∧j≤c.lits.length∧Spr w wr g C n cc Inv v3∧CellsAt wr cb #[.int .i64 (c.head.rel:Int),.slice ha c.head.terms.length hc',.slice va c.lits.length vc]∧PassSt hangG vs v3 b (doneL (m.clauses.take i) c.head.rel (c.lits.take j))) (fun _ x _=>c.lits.length - (intOf x).toNat)
     case atStart=>exact ⟨0,b,v2,rfl,rfl,by omega,HS2.out.go kK,HK.out,HP2.out.mono (fun h l hd=>done_start hd)⟩
     case round=>
      clear c0 c1 c2 kK HK e2 HS2 HP2 kr2
      obtain ⟨j,b,v3,rfl,rfl,hjl,hS3,hcl3,hP3⟩:=hrel
      have kr3:=keepsG k0 hg0 hS3.keep
      have hsz3:=hS3.keep.size
      have HS3:=hide hS3
      have HP3:=hide hP3
      have Hcl3:=hide hcl3
      have hcbl:=hcl3.lt
      clear hS3 hP3 hcl3
      by_cases hjlt:j<c.lits.length
      ·obtain ⟨l,hl⟩:∃ l,c.lits[j]?=some l:=⟨_,List.getElem?_eq_getElem hjlt⟩
       have hlm:=List.mem_of_getElem? hl
       obtain ⟨v,hv1,hv2⟩:=Hlits.out.at hl
       obtain ⟨x1,x2,hvv⟩:=ownE_len hv2
       subst hvv
       have hcr:=ownsRow_kept Hlr.out kr3 (by simp)
       obtain ⟨gt,hgt⟩:=ownE_pos2 hcr (by omega)
       subst hgt
       have d0:wr.cell? ⟨gt,j * 3,none⟩=some (.int .i64 (l.1.rel:Int)):=ownE_cells hcr (by have:=hv1 0 (by omega);rw [Nat.add_zero] at this;rw [this];rfl)
       have d1:wr.cell? ⟨gt,j * 3+1,none⟩=some (.slice x1 l.1.terms.length x2):=ownE_cells hcr (by rw [hv1 1 (by omega)];rfl)
       have d2:wr.cell? ⟨gt,j * 3+2,none⟩=some (.bool l.2):=ownE_cells hcr (by rw [hv1 2 (by omega)];rfl)
       have hgtl:gt<wr.heap.size:=(ownE_lt hcr gt rfl).2
       have hjI:(j:Int)<c.lits.length:=by omega
       have kL:=Keeps.alloc [] wr (.cells #[.int .i64 (l.1.rel:Int),.slice x1 l.1.terms.length x2,.bool l.2] 279)
       have hLc:=CellsAt.new wr #[.int .i64 (l.1.rel:Int),.slice x1 l.1.terms.length x2,.bool l.2] 279
       have hlen:=HH.out.len HS3.out.inv
       have hhr:c.head.rel<v3.length:=by rw [hlen];exact Hrl.out.1
       have hlr2:l.1.rel<n:=Hrl.out.2 l hlm
       have hv64:=H64.out v3 HS3.out.inv
       have hS4:=HS3.out.go kL
       have hc4:=Hcl3.out.keeps kL (by simp)
       have f0:=hc4.cell 0
       have f1:(wr.alloc (.cells #[.int .i64 (l.1.rel:Int),.slice x1 l.1.terms.length x2,.bool l.2] 279)).cell? ⟨g,c.head.rel,none⟩=some (.int .i64 ((v3.getD c.head.rel 0:Nat):Int)):=by rw [hS4.row.cell];exact natC_at hhr
       have l0:=hLc.cell 0
       have l1:=hLc.cell 1
       have l2:=hLc.cell 2
       have kLd:=kL.trans (Keeps.drew [] _)
       have hS5:=HS3.out.go kLd
       have hcall:=hide (hang1_calls hS5.row hS5.cap hlen (v3.getD c.head.rel 0) l x1 l.1.terms.length x2 hlr2 (hv64 _) (hv64 _))
       have hIn:=hide (HH.out.keep HS3.out.inv Hcm.out hlm)
       have hPn:=hide (HP3.out.step HH.out HS3.out.inv Hcm.out hlm (done':=doneL (m.clauses.take i) c.head.rel (c.lits.take (j+1))) (fun h x hd=>by
        rcases hd with q | ⟨q1,q2⟩
        ·exact .inl (.inl q)
        ·rw [List.take_add_one,hl] at q2
         rcases List.mem_append.1 q2 with q | q
         ·exact .inl (.inr ⟨q1,q⟩)
         ·exact .inr ⟨q1,by simpa using q⟩))
       have hhI:(c.head.rel:Int)<n:=by omega
       have HSd:=hide (fun (W:World) (k:Keeps [] (wr.alloc (.cells #[.int .i64 (l.1.rel:Int),.slice x1 l.1.terms.length x2,.bool l.2] 279)).drew W)=>hS5.go k)
       have Hcd:=hide (fun (W:World) (k:Keeps [] (wr.alloc (.cells #[.int .i64 (l.1.rel:Int),.slice x1 l.1.terms.length x2,.bool l.2] 279)).drew W)=>(hc4.keeps (Keeps.drew [] _) (by simp)).keeps k (by simp))
       have Hhr:=hide hhr
       clear hv1 hv2 hcr hl hLc hS4 hS5 hv64 hlen hc4
       generalize hNew:hangG v3 (v3.getD c.head.rel 0) l=NV at *
       generalize hOld:v3.getD c.head.rel 0=OV at *
       clear hNew
       go_upto_region 10 with fail
       go_cut [] (fun wd=>Spr w wd g C n cc Inv (v3.set c.head.rel NV)∧CellsAt wd cb #[.int .i64 (c.head.rel:Int),.slice ha c.head.terms.length hc',.slice (some ⟨gt,0,none⟩) c.lits.length vc])
       case first=>
        go_region_law (first
         | (refine step_fn rfl 256 _ _ _ rfl [.pointer (some ⟨C,0,none⟩)] rfl _ Tryz.func256 (by kernel_rfl) (by kernel_rfl) [.int .i64 (OV:Int),.agg #[.int .i64 (l.1.rel:Int),.slice x1 l.1.terms.length x2,.bool l.2],.pointer (some ⟨C,0,none⟩)] rfl ?_
            refine hcall.out.mono ?_
            rintro e w4 ⟨rfl,k4⟩
            have hS6:=HSd.out _ k4
            have hc6:=Hcd.out _ k4
            have p0:=hc6.cell 0
            have p1:w4.cell? ⟨g,c.head.rel,none⟩=some (.int .i64 (OV:Int)):=by rw [hS6.row.cell,←hOld];exact natC_at Hhr.out
            have p2:=hS6.row.frozen c.head.rel
            have hEnd:=hide (hS6.put hgC hIn.out)
            have hEc:=hide (hc6.keeps (Keeps.setCell w4 ⟨g,c.head.rel,none⟩ (.int .i64 (NV:Int))) (by simp;omega))
            clear hS6 hc6))
        all_goals
         go_wp2_with fail
         go_meet
         exact ⟨hEnd.out,hEc.out⟩
       case rest=>
        obtain ⟨hS7,hc7⟩:=hcut
        have r0:=hc7.cell 0
        have r1:wc.cell? ⟨g,c.head.rel,none⟩=some (.int .i64 (NV:Int)):=by
         rw [hS7.row.cell,natC_at (by rw [List.length_set];exact Hhr.out),getD_set v3 Hhr.out,if_pos rfl]
        have HS7:=hide hS7
        have Hc7:=hide hc7
        clear hS7 hc7 f0 f1 l0 l1 l2 hcall HSd Hcd hIn HS3 HP3
        cases b with
        | true=>
         rw [Bool.true_or] at hPn
         go_wp2_with fail
         go_roundw
         ·exact ⟨j+1,true,v3.set c.head.rel NV,rfl,by simp,by omega,HS7.out,Hc7.out,hPn.out⟩
         ·simp only [intOf];omega
        | false=>
         rw [Bool.false_or] at hPn
         generalize hbb:((NV:Int) != (OV:Int))=bb at *
         go_wp2_with fail
         go_roundw
         ·exact ⟨j+1,bb,v3.set c.head.rel NV,rfl,by simp,by omega,HS7.out,Hc7.out,hPn.out⟩
         ·simp only [intOf];omega
      ·have hjI:¬ (j:Int)<c.lits.length:=by omega
       have e:j=c.lits.length:=by omega
       subst e
       go_wp2_with fail
       go_roundw
       ·exact ⟨i+1,b,v3,rfl,by simp,by omega,HS3.out,by rw [Htake.out];exact HP3.out.mono (fun h l hd=>done_next hd)⟩
       ·simp only [intOf];omega
    ·have hiI:¬ (i:Int)<m.clauses.length:=by omega
     have e:i=m.clauses.length:=by omega
     subst e
     have hsum:=sumAt_of HS2.out.row
     have hsum0:=sumAt_of HS.out.row
     have hle:=sum_le (HH.out.le HS2.out.inv)
     rw [HH.out.len HS2.out.inv] at hle
     have Hs:Hid (2 * (n * U - sumAt wr g)+tv (.bool b)<2 * (n * U - vs.sum)+1):=hide (by
      rw [hsum]
      generalize n * U=NU at *
      rcases HP2.out with ⟨h1,h2⟩ | ⟨h1,h2,_⟩
      ·rw [h1];simp only [tv];omega
      ·rw [h1,h2];simp only [tv];omega)
     clear hsum hle
     go_wp2_with fail
     go_roundw
     ·refine ⟨b,v2,rfl,HS2.out,fun hb=>?_⟩
      rcases HP2.out with ⟨h1,_⟩ | ⟨_,_,h3⟩
      ·rw [hb] at h1;cases h1
      ·intro c hc l hl
       exact h3 c.head.rel l ⟨c,by rw [List.take_length];exact hc,rfl,hl⟩
     ·have:=Hs.out
      rw [←hsum0] at this
      exact this
end
section
open Go.RowKit
theorem lay1_calls {w:World} {g C n cc:Nat} {vals:List Nat} (hg:CellsAt w g (natC vals)) (hC:CellsAt w C #[.slice (some ⟨g,0,none⟩) n cc]) (hn:vals.length=n) (v:Nat) (l:AtomM×Bool) (va:Option Addr) (vn vc:Nat) (hl:l.1.rel<n) (_:v<64) (hvl:vals.getD l.1.rel 0<64):Calls Tryz.prog 257 #[.int .i64 (v:Int),.agg #[.int .i64 (l.1.rel:Int),.slice va vn vc,.bool l.2],.pointer (some ⟨C,0,none⟩)] w fun e w'=>e=.returned (.int .i64 ((layG vals v l:Nat):Int))∧Keeps [] w w':=by
 have hgl:=hg.lt
 have hCl:=hC.lt
 have c0:=hC.cell 0
 have g0:w.cell? ⟨g,l.1.rel,none⟩=some (.int .i64 ((vals.getD l.1.rel 0:Nat):Int)):=by rw [hg.cell];exact natC_at (by omega)
 have hlI:(l.1.rel:Int)<n:=by omega
 have hG:layG vals v l=max v (vals.getD l.1.rel 0+(if l.2 then 1 else 0)):=rfl
 rw [hG]
 generalize vals.getD l.1.rel 0=M at *
 clear hg hC hG
 cases h2:l.2 with
 | true=>
  have kA:=Keeps.alloc [] w (.cells #[.int .i64 (l.1.rel:Int),.slice va vn vc,.bool true] 279)
  have e:((max v (M+(if true=true then 1 else 0)):Nat):Int)=max (v:Int) ((M:Int)+1):=by simp;omega
  rw [e]
  clear h2 e
  go_enter Tryz.func257,Tryz.ntmps257
  go_wp2_with fail
  go_ret
  exact ⟨rfl,kA⟩
 | false=>
  have kA:=Keeps.alloc [] w (.cells #[.int .i64 (l.1.rel:Int),.slice va vn vc,.bool false] 279)
  have e:((max v (M+(if false=true then 1 else 0)):Nat):Int)=max (v:Int) (M:Int):=by simp;omega
  rw [e]
  clear h2 e
  go_enter Tryz.func257,Tryz.ntmps257
  go_wp2_with fail
  go_ret
  exact ⟨rfl,kA⟩
set_option maxHeartbeats 16000000 in
theorem spread257_calls {w0 w:World} {mb B g C n cc U:Nat} {m:Mean} {Inv:List Nat→Prop} (hm:MeanAt w0 mb B m) (k0:Keeps [] w0 w) (hg0:w0.heap.size≤g) (hgC:C≠g) (H:GrowOk m.clauses layG U n Inv) (h64:∀ vals,Inv vals→∀ i,vals.getD i 0<64) (hl:m.clauses.length≤52) (hl4:∀ c∈m.clauses,c.lits.length≤4) {vals:List Nat} (h:Spr w w g C n cc Inv vals):Calls Tryz.prog 255 #[.pointer (some ⟨B,0,none⟩),.slice (some ⟨g,0,none⟩) n cc,.func (.func 257) #[] #[.pointer (some ⟨C,0,none⟩)]] w fun e w'=>e=.returned (.tuple #[])∧∃ vals',Spr w w' g C n cc Inv vals'∧StableG layG m.clauses vals':=by
 obtain ⟨a,ccl,la,lc,hBl,hpos,hcl⟩:=mean_clause hm
 have hsz0:=k0.size
 have Hcl:=hide (fun (W:World) (k:Keeps [] w0 W)=>hcl k)
 have Hpos:=hide hpos
 have Hh:=hide h
 have HH:=hide H
 have H64:=hide h64
 have Hl4:=hide hl4
 have hglt:=h.row.lt
 have hClt:=h.cap.lt
 clear hcl hpos hm h H h64 hl4
 go_enter Tryz.func255,Tryz.ntmps255
 go_wp2_with fail
 go_loopw [6] (fun y wr=>∃ (b:Bool) (vs:List Nat),y=.bool b∧Spr w wr g C n cc Inv vs∧(b=false→StableG layG m.clauses vs)) (fun y wr=>2 * (n * U - sumAt wr g)+tv y)
 case atStart=>exact ⟨true,vals,rfl,Hh.out,by simp⟩
 case round=>
  obtain ⟨b,vs,rfl,hS,hst⟩:=hrel
  have HS:=hide hS
  clear hS Hh
  cases b with
  | false=>
   have Hst:=hide (hst rfl)
   clear hst
   go_wp2_with fail
   go_end0
   exact ⟨rfl,vs,HS.out,Hst.out⟩
  | true=>
   clear hst
   have kr:=keepsG k0 hg0 HS.out.keep
   obtain ⟨b6,_⟩:=Hcl.out wr kr
   have hszr:=HS.out.keep.size
   go_wp2_with fail
   go_loopw [6,18] (fun y x wr=>∃ (i:Nat) (b:Bool) (v2:List Nat),y=.bool b∧x=.int .i64 i∧i≤m.clauses.length∧Spr w wr g C n cc Inv v2∧PassSt layG vs v2 b (doneC (m.clauses.take i))) (fun _ x _=>m.clauses.length - (intOf x).toNat)
   case atStart=>exact ⟨0,false,vs,rfl,rfl,by omega,HS.out,.inr ⟨rfl,rfl,fun h l hd=>by obtain ⟨c,hc,_⟩:=hd;simp at hc⟩⟩
   case round=>
    clear b6 kr
    obtain ⟨i,b,v2,rfl,rfl,hil,hS2,hP2⟩:=hrel
    have kr2:=keepsG k0 hg0 hS2.keep
    have hsz2:=hS2.keep.size
    have HS2:=hide hS2
    have HP2:=hide hP2
    clear hS2 hP2
    by_cases hlt:i<m.clauses.length
    ·obtain ⟨c,hc⟩:∃ c,m.clauses[i]?=some c:=⟨_,List.getElem?_eq_getElem hlt⟩
     have hcm:=List.mem_of_getElem? hc
     obtain ⟨gk,g2,hgk,hgl,hg2,hg2l⟩:=Hpos.out c hcm
     subst hgk
     obtain ⟨_,_,_,hcells⟩:=Hcl.out _ kr2
     obtain ⟨ha,hc',va,vc,ls,c0,c1,c2,hrow,hlrow,hlits⟩:=hcells i gk c hc rfl
     have hiI:(i:Int)<m.clauses.length:=by omega
     have Hlr:=hide hlrow
     have Hlits:=hide hlits
     have Htake:Hid (m.clauses.take (i+1)=m.clauses.take i++[c]):=hide (by rw [List.take_add_one,hc];rfl)
     have h4:=Hl4.out c hcm
     have Hcm:=hide hcm
     have Hrl:=hide (HH.out.rels c hcm)
     have kK:=Keeps.alloc [] wr (.cells #[.int .i64 (c.head.rel:Int),.slice ha c.head.terms.length hc',.slice va c.lits.length vc] 154)
     have hK:=CellsAt.new wr #[.int .i64 (c.head.rel:Int),.slice ha c.head.terms.length hc',.slice va c.lits.length vc] 154
     have e2:=hK.cell 2
     have HK:=hide hK
     have hcb:∀ j,j<w.heap.size→j≠wr.heap.size:=fun j hj=>by omega
     have hcbg:=hcb g hglt
     have hcbC:=hcb C hClt
     clear hcells hrow hlrow hlits hc hcm hK hcb
     generalize hcbn:wr.heap.size=cb at *
     go_wp2_with fail
     go_loopw [6,25] (fun y x wr=>∃ (j:Nat) (b:Bool) (v3:List Nat),y=.bool b∧x=.int .i64 j∧j≤c.lits.length∧Spr w wr g C n cc Inv v3∧CellsAt wr cb #[.int .i64 (c.head.rel:Int),.slice ha c.head.terms.length hc',.slice va c.lits.length vc]∧PassSt layG vs v3 b (doneL (m.clauses.take i) c.head.rel (c.lits.take j))) (fun _ x _=>c.lits.length - (intOf x).toNat)
     case atStart=>exact ⟨0,b,v2,rfl,rfl,by omega,HS2.out.go kK,HK.out,HP2.out.mono (fun h l hd=>done_start hd)⟩
     case round=>
      clear c0 c1 c2 kK HK e2 HS2 HP2 kr2
      obtain ⟨j,b,v3,rfl,rfl,hjl,hS3,hcl3,hP3⟩:=hrel
      have kr3:=keepsG k0 hg0 hS3.keep
      have hsz3:=hS3.keep.size
      have HS3:=hide hS3
      have HP3:=hide hP3
      have Hcl3:=hide hcl3
      have hcbl:=hcl3.lt
      clear hS3 hP3 hcl3
      by_cases hjlt:j<c.lits.length
      ·obtain ⟨l,hl⟩:∃ l,c.lits[j]?=some l:=⟨_,List.getElem?_eq_getElem hjlt⟩
       have hlm:=List.mem_of_getElem? hl
       obtain ⟨v,hv1,hv2⟩:=Hlits.out.at hl
       obtain ⟨x1,x2,hvv⟩:=ownE_len hv2
       subst hvv
       have hcr:=ownsRow_kept Hlr.out kr3 (by simp)
       obtain ⟨gt,hgt⟩:=ownE_pos2 hcr (by omega)
       subst hgt
       have d0:wr.cell? ⟨gt,j * 3,none⟩=some (.int .i64 (l.1.rel:Int)):=ownE_cells hcr (by have:=hv1 0 (by omega);rw [Nat.add_zero] at this;rw [this];rfl)
       have d1:wr.cell? ⟨gt,j * 3+1,none⟩=some (.slice x1 l.1.terms.length x2):=ownE_cells hcr (by rw [hv1 1 (by omega)];rfl)
       have d2:wr.cell? ⟨gt,j * 3+2,none⟩=some (.bool l.2):=ownE_cells hcr (by rw [hv1 2 (by omega)];rfl)
       have hgtl:gt<wr.heap.size:=(ownE_lt hcr gt rfl).2
       have hjI:(j:Int)<c.lits.length:=by omega
       have kL:=Keeps.alloc [] wr (.cells #[.int .i64 (l.1.rel:Int),.slice x1 l.1.terms.length x2,.bool l.2] 279)
       have hLc:=CellsAt.new wr #[.int .i64 (l.1.rel:Int),.slice x1 l.1.terms.length x2,.bool l.2] 279
       have hlen:=HH.out.len HS3.out.inv
       have hhr:c.head.rel<v3.length:=by rw [hlen];exact Hrl.out.1
       have hlr2:l.1.rel<n:=Hrl.out.2 l hlm
       have hv64:=H64.out v3 HS3.out.inv
       have hS4:=HS3.out.go kL
       have hc4:=Hcl3.out.keeps kL (by simp)
       have f0:=hc4.cell 0
       have f1:(wr.alloc (.cells #[.int .i64 (l.1.rel:Int),.slice x1 l.1.terms.length x2,.bool l.2] 279)).cell? ⟨g,c.head.rel,none⟩=some (.int .i64 ((v3.getD c.head.rel 0:Nat):Int)):=by rw [hS4.row.cell];exact natC_at hhr
       have l0:=hLc.cell 0
       have l1:=hLc.cell 1
       have l2:=hLc.cell 2
       have kLd:=kL.trans (Keeps.drew [] _)
       have hS5:=HS3.out.go kLd
       have hcall:=hide (lay1_calls hS5.row hS5.cap hlen (v3.getD c.head.rel 0) l x1 l.1.terms.length x2 hlr2 (hv64 _) (hv64 _))
       have hIn:=hide (HH.out.keep HS3.out.inv Hcm.out hlm)
       have hPn:=hide (HP3.out.step HH.out HS3.out.inv Hcm.out hlm (done':=doneL (m.clauses.take i) c.head.rel (c.lits.take (j+1))) (fun h x hd=>by
        rcases hd with q | ⟨q1,q2⟩
        ·exact .inl (.inl q)
        ·rw [List.take_add_one,hl] at q2
         rcases List.mem_append.1 q2 with q | q
         ·exact .inl (.inr ⟨q1,q⟩)
         ·exact .inr ⟨q1,by simpa using q⟩))
       have hhI:(c.head.rel:Int)<n:=by omega
       have HSd:=hide (fun (W:World) (k:Keeps [] (wr.alloc (.cells #[.int .i64 (l.1.rel:Int),.slice x1 l.1.terms.length x2,.bool l.2] 279)).drew W)=>hS5.go k)
       have Hcd:=hide (fun (W:World) (k:Keeps [] (wr.alloc (.cells #[.int .i64 (l.1.rel:Int),.slice x1 l.1.terms.length x2,.bool l.2] 279)).drew W)=>(hc4.keeps (Keeps.drew [] _) (by simp)).keeps k (by simp))
       have Hhr:=hide hhr
       clear hv1 hv2 hcr hl hLc hS4 hS5 hv64 hlen hc4
       generalize hNew:layG v3 (v3.getD c.head.rel 0) l=NV at *
       generalize hOld:v3.getD c.head.rel 0=OV at *
       clear hNew
       go_upto_region 10 with fail
       go_cut [] (fun wd=>Spr w wd g C n cc Inv (v3.set c.head.rel NV)∧CellsAt wd cb #[.int .i64 (c.head.rel:Int),.slice ha c.head.terms.length hc',.slice (some ⟨gt,0,none⟩) c.lits.length vc])
       case first=>
        go_region_law (first
         | (refine step_fn rfl 257 _ _ _ rfl [.pointer (some ⟨C,0,none⟩)] rfl _ Tryz.func257 (by kernel_rfl) (by kernel_rfl) [.int .i64 (OV:Int),.agg #[.int .i64 (l.1.rel:Int),.slice x1 l.1.terms.length x2,.bool l.2],.pointer (some ⟨C,0,none⟩)] rfl ?_
            refine hcall.out.mono ?_
            rintro e w4 ⟨rfl,k4⟩
            have hS6:=HSd.out _ k4
            have hc6:=Hcd.out _ k4
            have p0:=hc6.cell 0
            have p1:w4.cell? ⟨g,c.head.rel,none⟩=some (.int .i64 (OV:Int)):=by rw [hS6.row.cell,←hOld];exact natC_at Hhr.out
            have p2:=hS6.row.frozen c.head.rel
            have hEnd:=hide (hS6.put hgC hIn.out)
            have hEc:=hide (hc6.keeps (Keeps.setCell w4 ⟨g,c.head.rel,none⟩ (.int .i64 (NV:Int))) (by simp;omega))
            clear hS6 hc6))
        all_goals
         go_wp2_with fail
         go_meet
         exact ⟨hEnd.out,hEc.out⟩
       case rest=>
        obtain ⟨hS7,hc7⟩:=hcut
        have r0:=hc7.cell 0
        have r1:wc.cell? ⟨g,c.head.rel,none⟩=some (.int .i64 (NV:Int)):=by
         rw [hS7.row.cell,natC_at (by rw [List.length_set];exact Hhr.out),getD_set v3 Hhr.out,if_pos rfl]
        have HS7:=hide hS7
        have Hc7:=hide hc7
        clear hS7 hc7 f0 f1 l0 l1 l2 hcall HSd Hcd hIn HS3 HP3
        cases b with
        | true=>
         rw [Bool.true_or] at hPn
         go_wp2_with fail
         go_roundw
         ·exact ⟨j+1,true,v3.set c.head.rel NV,rfl,by simp,by omega,HS7.out,Hc7.out,hPn.out⟩
         ·simp only [intOf];omega
        | false=>
         rw [Bool.false_or] at hPn
         generalize hbb:((NV:Int) != (OV:Int))=bb at *
         go_wp2_with fail
         go_roundw
         ·exact ⟨j+1,bb,v3.set c.head.rel NV,rfl,by simp,by omega,HS7.out,Hc7.out,hPn.out⟩
         ·simp only [intOf];omega
      ·have hjI:¬ (j:Int)<c.lits.length:=by omega
       have e:j=c.lits.length:=by omega
       subst e
       go_wp2_with fail
       go_roundw
       ·exact ⟨i+1,b,v3,rfl,by simp,by omega,HS3.out,by rw [Htake.out];exact HP3.out.mono (fun h l hd=>done_next hd)⟩
       ·simp only [intOf];omega
    ·have hiI:¬ (i:Int)<m.clauses.length:=by omega
     have e:i=m.clauses.length:=by omega
     subst e
     have hsum:=sumAt_of HS2.out.row
     have hsum0:=sumAt_of HS.out.row
     have hle:=sum_le (HH.out.le HS2.out.inv)
     rw [HH.out.len HS2.out.inv] at hle
     have Hs:Hid (2 * (n * U - sumAt wr g)+tv (.bool b)<2 * (n * U - vs.sum)+1):=hide (by
      rw [hsum]
      generalize n * U=NU at *
      rcases HP2.out with ⟨h1,h2⟩ | ⟨h1,h2,_⟩
      ·rw [h1];simp only [tv];omega
      ·rw [h1,h2];simp only [tv];omega)
     clear hsum hle
     go_wp2_with fail
     go_roundw
     ·refine ⟨b,v2,rfl,HS2.out,fun hb=>?_⟩
      rcases HP2.out with ⟨h1,_⟩ | ⟨_,_,h3⟩
      ·rw [hb] at h1;cases h1
      ·intro c hc l hl
       exact h3 c.head.rel l ⟨c,by rw [List.take_length];exact hc,rfl,hl⟩
     ·have:=Hs.out
      rw [←hsum0] at this
      exact this
end
end Go.Proofs.YtgjomknpjigkhaaGreatDoor
