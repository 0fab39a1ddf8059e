package film

import "rayhouse/api"

const (
	mostShade  = 255
	mostBright = 1000000
	brightOne  = 1000 // as bright as it is
	pixelBytes = 4
)

// Shade is the byte of so much light.
func Shade(light int) byte {
	// Beyond Full nothing gets brighter; and no product below is too great for an int.
	light = min(light, api.Full)
	shade := 0
	for bit := (mostShade + 1) / 2; bit > 0; bit /= 2 {
		if reaches(light, shade+bit) {
			shade += bit
		}
	}
	return byte(shade)
}

// reaches says whether light is enough for a shade: what is seen grows as the root of light.
func reaches(light, shade int) bool {
	return light > 0 && shade*shade*api.Full <= light*(mostShade*mostShade)
}

// Tone is a film as a picture: so many thousandths of its light.
func Tone(f api.Film, bright int) (api.Picture, api.Errno) {
	if e := May(f); e != api.OK {
		return api.Picture{}, e
	}
	if bright < 0 || bright > mostBright {
		return api.Picture{}, api.ErrValue
	}
	pix := make([]byte, 0, pixelBytes*len(f.Shots))
	for i, shots := range f.Shots {
		for _, light := range f.Light[colours*i : colours*(i+1)] {
			pix = append(pix, Shade(light/max(1, shots)*bright/brightOne))
		}
		pix = append(pix, coverOf(shots))
	}
	return api.Picture{W: f.W, H: f.H, Pix: pix}, api.OK
}

// coverOf is that of a pixel with so many shots.
func coverOf(shots int) byte {
	if shots == 0 {
		return 0
	}
	return mostShade
}
